/- stretch: the next one, whole (the document's). -/
import Derived.Test.YtjklaemhfhakhaaNe
namespace Go.Proofs.Ytjklaemhfhakhaa
open Go.ChangeShapes Go.WideShapes Go.ChangeAt Go.RowKit

def minX (X : Nat → On) : Nat → Int
  | 0 => (X 0).nx
  | k + 1 => min (minX X k) (X (k + 1)).nx
theorem minX_le {X : Nat → On} : ∀ {k i : Nat}, i ≤ k → minX X k ≤ (X i).nx
  | 0, i, h => by obtain rfl : i = 0 := by omega
                  exact Int.le_refl _
  | k + 1, i, h => by
    rw [minX]
    rcases Nat.lt_or_ge i (k + 1) with q | q
    · have := minX_le (X := X) (k := k) (i := i) (by omega); omega
    · obtain rfl : i = k + 1 := by omega
      omega
theorem minX_at {X : Nat → On} : ∀ {k : Nat}, ∃ i, i ≤ k ∧ minX X k = (X i).nx
  | 0 => ⟨0, Nat.le_refl _, rfl⟩
  | k + 1 => by
    obtain ⟨i, h1, h2⟩ := minX_at (X := X) (k := k)
    rw [minX]
    by_cases q : minX X k ≤ (X (k + 1)).nx
    · exact ⟨i, by omega, by omega⟩
    · exact ⟨k + 1, Nat.le_refl _, by omega⟩
theorem minX_next {X : Nat → On} {j : Nat} (h : 1 ≤ j) : minX X j = min (minX X (j - 1)) (X j).nx := by
  obtain ⟨k, rfl⟩ : ∃ k, j = k + 1 := ⟨j - 1, by omega⟩
  rfl
theorem relX_all {X : Nat → On} {n : Nat} {a b : Int} (h : ∀ i, i < n → (X i).Ok a) (hab : a ≤ b) (hb : b ≤ 1152921504606846976) : Rel n (relX X b n) b := fun i hi => by
  have : relX X b n i = relO (X i) b := if_pos hi
  rw [this]
  exact relO_ok (h i hi) hab hb
theorem relX_abs {X : Nat → On} {n : Nat} {p : Pl} (h : AllAbs n X p) (b : Int) : AllAbs n (relX X b n) p := fun i hi => by
  have : relX X b n i = relO (X i) b := if_pos hi
  rw [this]
  exact relO_abs (h i hi) b
theorem bump_ne {n : Int} : ∀ {w : List Jr}, w ≠ [] → bump n w ≠ []
  | [], h => absurd rfl h
  | [_], _ => by simp [bump]
  | _ :: _ :: _, _ => by simp [bump]
/-- What is released waits. -/
theorem relO_waits {x : On} {b : Int} (h : x.nx ≤ b) : (relO x b).w ≠ [] := by
  cases hs : x.same with
  | true =>
    rw [relO_same (by omega) hs]
    refine bump_ne fun e => ?_
    unfold On.same at hs
    rw [e] at hs
    cases hs
  | false =>
    rw [relO_new (by omega) hs]
    simp
theorem best_of {X : Nat → On} {n i : Nat} (hi : i < n) (h : (X i).w ≠ []) : ∃ m, bestN X n = some m := by
  cases e : bestN X n with
  | none => exact absurd (bestN_none e i hi) h
  | some m => exact ⟨m, rfl⟩
structure SAt (w : World) (g : Nat) (s : Sl) : Prop where
  c0 : w.cell? ⟨g, 0, none⟩ = some (.int .i64 s.t)
  c1 : w.cell? ⟨g, 1, none⟩ = some (.int .i64 s.f)
  c2 : w.cell? ⟨g, 2, none⟩ = some (.int .i64 s.e)
  c3 : w.cell? ⟨g, 3, none⟩ = some (.bool s.l)
  fz : ∀ k, w.frozen? ⟨g, k, none⟩ = false
theorem SAt.of {w : World} {g : Nat} {s : Sl} (h : w.heap[g]? = some (.cells #[.int .i64 s.t, .int .i64 s.f, .int .i64 s.e, .bool s.l] 42)) : SAt w g s := ⟨(row_cell h 0).1, (row_cell h 1).1, (row_cell h 2).1, (row_cell h 3).1, fun k => (row_cell h k).2⟩
theorem SAt.lt {w : World} {g : Nat} {s : Sl} (h : SAt w g s) : g < w.heap.size := World.block_lt_of_cell? w _ h.c0
theorem SAt.kp {F : Nat → Prop} {w w' : World} {g : Nat} {s : Sl} (h : SAt w g s) (hk : Kp F w w') (hF : F g) : SAt w' g s := ⟨hk.cell hF h.c0, hk.cell hF h.c1, hk.cell hF h.c2, hk.cell hF h.c3, fun k => hk.frozen (a := ⟨g, k, none⟩) hF h.lt (h.fz k)⟩
theorem SAt.up {w w' : World} {g : Nat} {s : Sl} (h : SAt w g s) (hu : Up w w') : SAt w' g s := h.kp (F := fun _ => True) (Kp.of_up hu) trivial
theorem SAt.put {w : World} {g : Nat} {s z : Sl} (h : SAt w g s) : SAt ((((w.setCell ⟨g, 0, none⟩ (.int .i64 z.t)).setCell ⟨g, 1, none⟩ (.int .i64 z.f)).setCell ⟨g, 2, none⟩ (.int .i64 z.e)).setCell ⟨g, 3, none⟩ (.bool z.l)) g z := by
  refine ⟨cell_other (cell_other (cell_other (World.cell?_setCell_same _ _ _ h.c0) ?_) ?_) ?_, cell_other (cell_other (World.cell?_setCell_same _ _ _ (cell_other h.c1 ?_)) ?_) ?_, cell_other (World.cell?_setCell_same _ _ _ (cell_other (cell_other h.c2 ?_) ?_)) ?_, World.cell?_setCell_same _ _ _ (cell_other (cell_other (cell_other h.c3 ?_) ?_) ?_), fun k => by simp only [World.frozen?_setCell]; exact h.fz k⟩
  all_goals (refine Or.inr ?_; first | (show 0 ≠ 1; omega) | (show 0 ≠ 2; omega) | (show 0 ≠ 3; omega) | (show 1 ≠ 0; omega) | (show 1 ≠ 2; omega) | (show 1 ≠ 3; omega) | (show 2 ≠ 0; omega) | (show 2 ≠ 1; omega) | (show 2 ≠ 3; omega) | (show 3 ≠ 0; omega) | (show 3 ≠ 1; omega) | (show 3 ≠ 2; omega))
theorem load_sl {w : World} {g : Nat} {s : Sl} (h : SAt w g s) : (loadVar 42 ⟨g, 0, none⟩).run Try.prog w = .ok s.val w := by
  obtain ⟨c0, c1, c2, c3, -⟩ := h
  show _ = Result.ok (Value.agg #[.int .i64 s.t, .int .i64 s.f, .int .i64 s.e, .bool s.l]) w
  go_simp
theorem results_two {fn : Func} {p q u : Tmp} {t1 t2 : TypeId} (h : fn.results = #[.cell p t1, .cell q t2, .tmp u]) (tmps : Array Value) (w : World) (g g2 : Nat) (v v2 : Value) (hp : tmps.getD p undef = .pointer (some ⟨g, 0, none⟩)) (hq : tmps.getD q undef = .pointer (some ⟨g2, 0, none⟩)) (hl : (loadVar t1 ⟨g, 0, none⟩).run Try.prog w = .ok v w) (hl2 : (loadVar t2 ⟨g2, 0, none⟩).run Try.prog w = .ok v2 w) :
    (results fn tmps).run Try.prog w = .ok (.tuple #[v, v2, tmps.getD u undef]) w := by
  have hp' : tmps[p]?.getD undef = .pointer (some ⟨g, 0, none⟩) := by simpa using hp
  have hq' : tmps[q]?.getD undef = .pointer (some ⟨g2, 0, none⟩) := by simpa using hq
  simp [results, h, hp', hq', asAddr, hl, hl2]
theorem RKept.upw {n : Nat} {w w1 w2 : World} {L L' : RL} (h : RKept n w w1 L L') (hu : Up w1 w2) : RKept n w w2 L L' := h.trans (RKept.of_up h.ok hu)
theorem RKept.after {n : Nat} {w w1 w2 : World} {L L' : RL} (hL : L.Ok n) (hu : Up w w1) (h : RKept n w1 w2 L L') : RKept n w w2 L L' := (RKept.of_up hL hu).trans h
theorem RKept.beyond {n : Nat} {w w1 : World} {L L1 : RL} (h : RKept n w w1 L L1) {g o : Nat} (hg : w.heap.size ≤ g) (v : Value) : RKept n w (w1.setCell ⟨g, o, none⟩ v) L L1 := by
  have hk : Kp (fun b => b ≠ g) w1 (w1.setCell ⟨g, o, none⟩ v) := Kp.set _ _ (fun q => q rfl) v
  exact ⟨h.ok, h.bp, h.own, h.kp.two hk (fun b _ hl => by show b ≠ g; omega)⟩
theorem RW.beyond {w : World} {L : RL} {n : Nat} {a : Int} {X : Nat → On} (h : RW w L n a X) {g o : Nat} (hg : ¬ L.Own n g) (v : Value) : RW (w.setCell ⟨g, o, none⟩ v) L n a X := h.kp (F := fun b => b ≠ g) (Kp.set _ _ (fun q => q rfl) v) (fun _ hb e => hg (e ▸ hb))
theorem relO_len (x : On) (b : Int) : (relO x b).w.length ≤ x.w.length + 1 := by
  by_cases h : b < x.nx
  · rw [relO_lt h]; omega
  · cases hs : x.same with
    | true => rw [relO_same h hs]; show (bump _ x.w).length ≤ _; rw [bump_len]; omega
    | false => rw [relO_new h hs]; simp
theorem relX_len {X : Nat → On} {n N : Nat} (b : Int) (h : ∀ i, i < n → (X i).w.length ≤ N) : ∀ i, i < n → (relX X b n i).w.length ≤ N + 1 := fun i hi => by
  have : relX X b n i = relO (X i) b := if_pos hi
  rw [this]
  exact Nat.le_trans (relO_len _ _) (Nat.succ_le_succ (h i hi))
/-- What stretch tells. -/
def StrN (n : Nat) (a : Int) (X : Nat → On) (X' : Nat → On) (m : Nat) (f lim : Int) : Prop := bestN X' n = some m ∧ ((X' = relX X a n ∧ f = a) ∨ (X' = relX (relX X a n) f n ∧ bestN (relX X a n) n = none ∧ f = minX (relX X a n) (n - 1) ∧ f < lim))
def StrE (w : World) (L : RL) (n : Nat) (a : Int) (X : Nat → On) (lim : Int) (e : Ending) (w' : World) : Prop :=
  (∃ L', e = .returned (.tuple #[.agg #[.int .i64 0, .int .i64 0, .int .i64 0, .bool false], .agg #[.int .i64 0, .int .i64 0, .int .i64 0], .bool false]) ∧ bestN (relX X a n) n = none ∧ lim ≤ minX (relX X a n) (n - 1) ∧ Hid (RW w' L' n a (relX X a n)) ∧ Hid (RKept n w w' L L')) ∨
  (∃ L' X' m f z j, e = .returned (.tuple #[.agg #[.int .i64 (m : Nat), .int .i64 f, .int .i64 z, .bool false], .agg #[.int .i64 (Jb.due j), .int .i64 j.rank, .int .i64 j.task], .bool true]) ∧ j = (X' m).jb m ∧ z = toN X' m (f + (X' m).lf) n ∧ StrN n a X X' m f lim ∧ Hid (RW w' L' n a X') ∧ Hid (RKept n w w' L L'))
theorem StrN.mk1 {n m : Nat} {a lim : Int} {X : Nat → On} (h : bestN (relX X a n) n = some m) : StrN n a X (relX X a n) m a lim := ⟨h, Or.inl ⟨rfl, rfl⟩⟩
set_option maxRecDepth 200000 in
set_option maxHeartbeats 16000000 in
theorem t42 {w : World} {L : RL} {n : Nat} {a : Int} {X : Nat → On} (h : RW w L n a X) (hL : L.Ok n) (hn0 : 0 < n) (hn : n ≤ 256) (hok : ∀ i, i < n → (X i).Ok a) (ha0 : 0 ≤ a) (ha : a ≤ 1152921504606846976) {lim : Int} (hlim : lim ≤ 1152921504606846976) (hlen : ∀ i, i < n → (X i).w.length ≤ 900000) : Calls Try.prog 42 #[.pointer (some ⟨L.bp, 0, none⟩), .int .i64 lim] w (StrE w L n a X lim) := by
  have H : Hid (RW w L n a X) := h
  have HL : Hid (L.Ok n) := hL
  have HOK : Hid (∀ i, i < n → (X i).Ok a) := hok
  have HR1 : Hid (Rel n (relX X a n) a) := relX_all hok (Int.le_refl _) ha
  have s1 : (w.alloc (.cells #[.int .i64 0, .int .i64 0, .int .i64 0, .bool false] 42)).heap.size = w.heap.size + 1 := by simp
  have HU0 : Hid (Up w ((w.alloc (.cells #[.int .i64 0, .int .i64 0, .int .i64 0, .bool false] 42)).alloc (.cells #[.int .i64 0, .int .i64 0, .int .i64 0] 96))) := (Up.alloc _ _).trans (Up.alloc _ _)
  have HDz : Hid (DAt ((w.alloc (.cells #[.int .i64 0, .int .i64 0, .int .i64 0, .bool false] 42)).alloc (.cells #[.int .i64 0, .int .i64 0, .int .i64 0] 96)) (w.heap.size + 1) noJb) := by
    have := DAt.of (j := noJb) (heap_alloc_last (w.alloc (.cells #[.int .i64 0, .int .i64 0, .int .i64 0, .bool false] 42)) (.cells #[.int .i64 0, .int .i64 0, .int .i64 0] 96))
    rw [s1] at this
    exact this
  have HSz : Hid (SAt ((w.alloc (.cells #[.int .i64 0, .int .i64 0, .int .i64 0, .bool false] 42)).alloc (.cells #[.int .i64 0, .int .i64 0, .int .i64 0] 96)) w.heap.size Sl.zero) := (SAt.of (s := Sl.zero) (heap_alloc_last w (.cells #[.int .i64 0, .int .i64 0, .int .i64 0, .bool false] 42))).up (Up.alloc _ _)
  have p1 := h.p1
  have p9 := h.lt
  have HLEN : Hid (∀ i, i < n → (X i).w.length ≤ 900000) := hlen
  have HG : Hid (∀ b, L.Own n b → b < w.heap.size) := fun b hb => h.own_lt hb
  clear h hL hok hlen
  go_enter Try.func42, Try.ntmps42
  go_upto_region 2 with fail
  have HW0 : Hid (RW _ L n a X) := H.out.up HU0.out
  generalize (w.alloc (.cells #[.int .i64 0, .int .i64 0, .int .i64 0, .bool false] 42)).alloc (.cells #[.int .i64 0, .int .i64 0, .int .i64 0] 96) = W0 at *
  obtain ⟨G, hG⟩ : ∃ G, w.heap.size = G := ⟨_, rfl⟩
  rw [hG] at HDz HSz HG ⊢
  have C44 : Hid (Calls Try.prog 44 #[.pointer (some ⟨L.bp, 0, none⟩), .int .i64 a] W0 (RelR W0 L n a (relX X a n))) := t44 HW0.out HL.out hn HOK.out (by omega) (Int.le_refl _) ha (fun i hi => Nat.le_trans (HLEN.out i hi) (by omega))
  go_upto_region 3 with (go_at_call 44; (with_reducible refine C44.out.mono ?_); rintro e w1 ⟨rfl, L1, HW1, HK1⟩)
  have HN1 : Hid (¬ L1.Own n G ∧ ¬ L1.Own n (G + 1)) := by
    have l1 := HSz.out.lt
    have l2 := HDz.out.lt
    refine ⟨fun q => ?_, fun q => ?_⟩
    all_goals (rcases HK1.out.own _ q with q2 | q2; (have := HG.out _ q2; omega); omega)
  have HDz1 : Hid (DAt w1 (G + 1) noJb) := HDz.out.kp HK1.out.kp (fun q => by have := HG.out _ q; omega)
  have HSz1 : Hid (SAt w1 G Sl.zero) := HSz.out.kp HK1.out.kp (fun q => by have := HG.out _ q; omega)
  have HK1' : Hid (RKept n w w1 L L1) := RKept.after HL.out HU0.out HK1.out
  have C53 : Hid (Calls Try.prog 53 #[.pointer (some ⟨L.bp, 0, none⟩)] w1 (VU w1 (.tuple #[.agg #[.int .i64 (bestJ (relX X a n) n).due, .int .i64 (bestJ (relX X a n) n).rank, .int .i64 (bestJ (relX X a n) n).task], .bool (bestN (relX X a n) n).isSome]))) := by
    have := t53 HW1.out hn (fun i hi => (HR1.out i hi).1) ha
    rw [HK1.out.bp] at this
    exact this
  clear HDz HSz HK1 C44 HW0 HU0 p1 p9 s1
  go_upto_region 4 with (go_at_call 53; (with_reducible refine C53.out.mono ?_); rintro e w2 ⟨rfl, HU2⟩)
  have HD3 : Hid (DAt (w2.alloc (.cells #[.int .i64 (bestJ (relX X a n) n).due, .int .i64 (bestJ (relX X a n) n).rank, .int .i64 (bestJ (relX X a n) n).task] 96)) w2.heap.size (bestJ (relX X a n) n)) := DAt.of (heap_alloc_last _ _)
  have HU3 : Hid (Up w1 (w2.alloc (.cells #[.int .i64 (bestJ (relX X a n) n).due, .int .i64 (bestJ (relX X a n) n).rank, .int .i64 (bestJ (relX X a n) n).task] 96))) := HU2.out.trans (Up.alloc _ _)
  have HNB : Hid (¬ L1.Own n w2.heap.size ∧ G + 1 < w2.heap.size) := by
    have h2 := HU2.out.size
    have h3 := HDz1.out.lt
    exact ⟨fun q => by have := HW1.out.own_lt q; omega, by omega⟩
  clear C53 HU2
  generalize w2.alloc (.cells #[.int .i64 (bestJ (relX X a n) n).due, .int .i64 (bestJ (relX X a n) n).rank, .int .i64 (bestJ (relX X a n) n).task] 96) = W3 at *
  generalize w2.heap.size = GB at *
  have HW3 : Hid (RW W3 L1 n a (relX X a n)) := HW1.out.up HU3.out
  have HK3 : Hid (RKept n w W3 L L1) := HK1'.out.upw HU3.out
  have HDz3 : Hid (DAt W3 (G + 1) noJb) := HDz1.out.up HU3.out
  have HSz3 : Hid (SAt W3 G Sl.zero) := HSz1.out.up HU3.out
  clear HW1 HK1' HDz1 HSz1 HU3
  obtain ⟨bm, hbm⟩ : ∃ bm, bestN (relX X a n) n = bm := ⟨_, rfl⟩
  rw [hbm]
  have HBM : Hid (bestN (relX X a n) n = bm) := hbm
  clear hbm
  cases bm with
  | some m =>
    have HB3 : Hid (bestN (relX X a n) n = some m) := HBM
    have HN3 : Hid (¬ L1.Own n G ∧ ¬ L1.Own n (G + 1)) := HN1
    have HSTR : Hid (StrN n a X (relX X a n) m a lim) := StrN.mk1 HB3.out
    have HOK3 : Hid (∀ i, i < n → (relX X a n i).Ok a) := fun i hi => (HR1.out i hi).1
    simp only [Option.isSome_some]
    obtain ⟨hm, hwm, hall⟩ := bestN_some HB3.out
    have HJM : Hid (∃ j0 t0, ((relX X a n) m).w = j0 :: t0) := by
      show ∃ j0 t0, _
      cases e : ((relX X a n) m).w with
      | nil => exact absurd e hwm
      | cons j0 t0 => exact ⟨j0, t0, rfl⟩
    obtain ⟨j0, t0, hjt⟩ := HJM.out
    have hOm := HOK3.out m hm
    obtain ⟨lf1, lf2⟩ := hOm.lf j0 t0 hjt
    obtain ⟨⟨jm1, jm2, jm3⟩, -, -⟩ := hOm.jm j0 (by rw [hjt]; simp)
    have hps := HW3.out.ps (by omega)
    have p0 := HW3.out.p0
    rw [hps, HK3.out.bp] at p0
    have p9 := HW3.out.lt
    rw [HK3.out.bp] at p9
    have hll := HW3.out.ll (by omega)
    have x5 := (HW3.out.at' m hm).lf
    obtain ⟨c0, c1, c2, -⟩ := HD3.out
    have lGB := HD3.out.lt
    have HTK : Hid (((relX X a n) m).jb m = bestJ ((relX X a n)) n) := by show _ = bestJ _ n; unfold bestJ; rw [HB3.out]
    have htk : (bestJ ((relX X a n)) n).task = (m : Int) := by rw [← HTK.out]; exact On.jb_named ((relX X a n)) n m hm
    rw [htk] at c2
    have HTASK : Hid ((bestJ ((relX X a n)) n).task = (m : Int)) := htk
    clear htk
    have b0 : (m : Int) < (n : Int) := by omega
    have b1 : (0 : Int) ≤ (m : Int) := by omega
    obtain ⟨Lm, hLm⟩ : ∃ Lm, ((relX X a n) m).lf = Lm := ⟨_, rfl⟩
    have HLm : Hid (((relX X a n) m).lf = Lm) := hLm
    rw [hLm] at x5 lf1 lf2
    have d1 : IntKind.i64.wrap (a + Lm) = a + Lm := by rw [IntKind.wrap_i64]; omega
    clear hps hwm hall hjt hOm hLm
    go_wp2_with fail
    go_region
    go_wp2_with fail
    clear x5 p0 p9 hll c0 c1 c2 lGB
    go_loopw [11, 12, 15] (fun v11 v12 _ wr => ∃ k : Nat, k ≤ n ∧ v12 = .int .i64 k ∧ v11 = .int .i64 (toN ((relX X a n)) m (a + Lm) k) ∧ Hid (Up W3 wr)) (fun _ v12 _ _ => n - (intOf v12).toNat)
    case atStart => exact ⟨0, by omega, rfl, rfl, Up.drew _⟩
    case round =>
      obtain ⟨k, hk, rfl, rfl, HU⟩ := hrel
      rename World => wr
      have y0 : (0 : Int) ≤ (k : Int) := by omega
      have HWr : Hid (RW wr L1 n a ((relX X a n))) := HW3.out.up HU.out
      have p0 := HWr.out.p0
      have p9 := HWr.out.lt
      rw [HWr.out.ps (by omega), HK3.out.bp] at p0
      rw [HK3.out.bp] at p9
      have hll := HWr.out.ll (by omega)
      by_cases hkn : k < n
      · have b2 : (k : Int) < (n : Int) := by omega
        have hat := HWr.out.at' k hkn
        have hwt := HWr.out.wt k hkn
        have hx := HOK3.out k hkn
        have htn : toN ((relX X a n)) m (a + Lm) (k + 1) = if k ≠ m ∧ (((relX X a n)) k).w = [] ∧ ahB ((((relX X a n)) k).jb k) ((((relX X a n)) m).jb m) = true then min (toN ((relX X a n)) m (a + Lm) k) (((relX X a n)) k).nx else toN ((relX X a n)) m (a + Lm) k := rfl
        obtain ⟨tz, htz⟩ : ∃ tz, toN ((relX X a n)) m (a + Lm) k = tz := ⟨_, rfl⟩
        rw [htz] at htn ⊢
        rw [HTK.out] at htn
        obtain ⟨xx, hxx⟩ : ∃ xx, ((relX X a n)) k = xx := ⟨_, rfl⟩
        rw [hxx] at hat hwt hx htn
        obtain ⟨e, l, r, nx, D, lf⟩ := xx
        obtain ⟨pv, cv, hv, hcap, hpp⟩ := hwt.form
        try simp only at hat hwt hx hv hcap hpp htn
        rw [hv] at hat
        obtain ⟨x0, x1, x2, x3, x4, x5⟩ := hat
        try simp only at x0 x1 x2 x3 x4 x5
        obtain ⟨m1, m2, m3⟩ := hx.may
        obtain ⟨lo1, lo2⟩ := hx.lo
        try simp only at m1 m2 m3 lo1 lo2
        have d2 : IntKind.i64.wrap (nx + e) = nx + e := by rw [IntKind.wrap_i64]; omega
        obtain ⟨bb, hbb⟩ : ∃ bb, ahB ⟨k, nx, nx + e, l, r⟩ (bestJ ((relX X a n)) n) = bb := ⟨_, rfl⟩
        have C54 : ∀ W, Hid (Calls Try.prog 54 #[.agg #[.int .i64 (nx + e), .int .i64 r, .int .i64 k], .agg #[.int .i64 (bestJ ((relX X a n)) n).due, .int .i64 (bestJ ((relX X a n)) n).rank, .int .i64 m]] W (VU W (.bool bb))) := fun W => by
          have := t54 ⟨k, nx, nx + e, l, r⟩ (bestJ ((relX X a n)) n) W
          unfold dueV at this
          rw [hbb, HTASK.out] at this
          exact this
        have HTN : Hid (toN ((relX X a n)) m (a + Lm) (k + 1) = if k ≠ m ∧ D = [] ∧ bb = true then min tz nx else tz) := by
          show _ = _
          rw [htn, ← hbb]
          by_cases hD : D = []
          · subst hD; rfl
          · rw [if_neg (fun q => hD q.2.1), if_neg (fun q => hD q.2.1)]
        have HDr : Hid (DAt wr GB (bestJ ((relX X a n)) n)) := HD3.out.up HU.out
        clear htn hbb hxx htz hwt hx hv hcap hpp
        obtain ⟨dl, hdl0⟩ : ∃ dl, D.length = dl := ⟨_, rfl⟩
        have HDL : Hid (D.length = dl) := hdl0
        rw [hdl0] at x4
        clear hdl0
        go_upto_region 20 with fail
        have HU9 : Hid (Up wr ((wr.alloc (.cells #[.int .i64 e, .int .i64 l, .int .i64 r, .int .i64 nx, .slice pv dl cv, .int .i64 lf] 76)).alloc (.cells #[.int .i64 (nx + e), .int .i64 r, .int .i64 k] 96))) := (Up.alloc _ _).trans (Up.alloc _ _)
        have HE9 : Hid (DAt ((wr.alloc (.cells #[.int .i64 e, .int .i64 l, .int .i64 r, .int .i64 nx, .slice pv dl cv, .int .i64 lf] 76)).alloc (.cells #[.int .i64 (nx + e), .int .i64 r, .int .i64 k] 96)) (wr.heap.size + 1) ⟨k, nx, nx + e, l, r⟩) := by
          have s1 : (wr.alloc (.cells #[.int .i64 e, .int .i64 l, .int .i64 r, .int .i64 nx, .slice pv dl cv, .int .i64 lf] 76)).heap.size = wr.heap.size + 1 := by simp
          have := DAt.of (j := ⟨k, nx, nx + e, l, r⟩) (heap_alloc_last (wr.alloc (.cells #[.int .i64 e, .int .i64 l, .int .i64 r, .int .i64 nx, .slice pv dl cv, .int .i64 lf] 76)) (.cells #[.int .i64 (nx + e), .int .i64 r, .int .i64 k] 96))
          rw [s1] at this
          exact this
        have HC9 : Hid (((wr.alloc (.cells #[.int .i64 e, .int .i64 l, .int .i64 r, .int .i64 nx, .slice pv dl cv, .int .i64 lf] 76)).alloc (.cells #[.int .i64 (nx + e), .int .i64 r, .int .i64 k] 96)).cell? ⟨wr.heap.size, 3, none⟩ = some (.int .i64 nx) ∧ ((wr.alloc (.cells #[.int .i64 e, .int .i64 l, .int .i64 r, .int .i64 nx, .slice pv dl cv, .int .i64 lf] 76)).alloc (.cells #[.int .i64 (nx + e), .int .i64 r, .int .i64 k] 96)).cell? ⟨wr.heap.size, 4, none⟩ = some (.slice pv dl cv)) := by
          have z := kept2 (heap_alloc_last wr (.cells #[.int .i64 e, .int .i64 l, .int .i64 r, .int .i64 nx, .slice pv dl cv, .int .i64 lf] 76)) (Up.alloc (wr.alloc (.cells #[.int .i64 e, .int .i64 l, .int .i64 r, .int .i64 nx, .slice pv dl cv, .int .i64 lf] 76)) (.cells #[.int .i64 (nx + e), .int .i64 r, .int .i64 k] 96))
          exact ⟨(row_cell z 3).1, (row_cell z 4).1⟩
        have HD9 : Hid (DAt ((wr.alloc (.cells #[.int .i64 e, .int .i64 l, .int .i64 r, .int .i64 nx, .slice pv dl cv, .int .i64 lf] 76)).alloc (.cells #[.int .i64 (nx + e), .int .i64 r, .int .i64 k] 96)) GB (bestJ ((relX X a n)) n)) := HDr.out.up HU9.out
        clear x0 x1 x2 x3 x4 x5 p0 p9 hll HDr d2
        generalize ((wr.alloc (.cells #[.int .i64 e, .int .i64 l, .int .i64 r, .int .i64 nx, .slice pv dl cv, .int .i64 lf] 76)).alloc (.cells #[.int .i64 (nx + e), .int .i64 r, .int .i64 k] 96)) = W9 at *
        generalize wr.heap.size + 1 = GE at *
        generalize wr.heap.size = GX at *
        obtain ⟨e0, e1, e2, -⟩ := HE9.out
        obtain ⟨c0, c1, c2, -⟩ := HD9.out
        rw [HTASK.out] at c2
        simp only at e0 e1 e2
        have HXX : Hid (∀ Z, Up W9 Z → Z.cell? ⟨GX, 3, none⟩ = some (.int .i64 nx) ∧ Z.cell? ⟨GX, 4, none⟩ = some (.slice pv dl cv) ∧ Z.cell? ⟨GB, 2, none⟩ = some (.int .i64 m)) := fun Z hu => ⟨cell_up HC9.out.1 hu, cell_up HC9.out.2 hu, by have := cell_up HD9.out.d2 hu; rw [HTASK.out] at this; exact this⟩
        by_cases hkm : k = m
        · have HZ : Hid (toN ((relX X a n)) m (a + Lm) (k + 1) = tz) := by show _ = _; rw [HTN.out, if_neg (fun q => q.1 hkm)]
          subst hkm
          go_wp2_with (go_at_call 54; (with_reducible refine ((C54 _).out).mono ?_); rintro e w5 ⟨rfl, HU5⟩; (obtain ⟨i3, i4, i2⟩ := HXX.out _ HU5.out))
          go_roundw
          case rel => exact ⟨k + 1, by omega, by go_num, by rw [HZ.out], (HU.out.trans HU9.out).trans HU5.out⟩
          case measure => simp [intOf]; omega
        · have c9 : ¬ (k : Int) = (m : Int) := by omega
          by_cases hdl : dl = 0
          · subst hdl
            have hDn : D = [] := List.length_eq_zero_iff.1 HDL.out
            cases bb with
            | true =>
              have HZ : Hid (toN ((relX X a n)) m (a + Lm) (k + 1) = min tz nx) := by show _ = _; rw [HTN.out, if_pos ⟨hkm, hDn, rfl⟩]
              clear hDn
              go_wp2_with (go_at_call 54; (with_reducible refine ((C54 _).out).mono ?_); rintro e w5 ⟨rfl, HU5⟩; (obtain ⟨i3, i4, i2⟩ := HXX.out _ HU5.out))
              all_goals go_roundw
              all_goals first
                | (case rel => exact ⟨k + 1, by omega, by go_num, by rw [HZ.out]; congr 1; omega, (HU.out.trans HU9.out).trans HU5.out⟩)
                | skip
              all_goals (simp [intOf]; omega)
            | false =>
              have HZ : Hid (toN ((relX X a n)) m (a + Lm) (k + 1) = tz) := by show _ = _; rw [HTN.out, if_neg (fun q => Bool.false_ne_true q.2.2)]
              clear hDn
              go_wp2_with (go_at_call 54; (with_reducible refine ((C54 _).out).mono ?_); rintro e w5 ⟨rfl, HU5⟩; (obtain ⟨i3, i4, i2⟩ := HXX.out _ HU5.out))
              go_roundw
              case rel => exact ⟨k + 1, by omega, by go_num, by rw [HZ.out], (HU.out.trans HU9.out).trans HU5.out⟩
              case measure => simp [intOf]; omega
          · have c8 : ¬ (dl : Int) = 0 := by omega
            have HZ : Hid (toN ((relX X a n)) m (a + Lm) (k + 1) = tz) := by show _ = _; rw [HTN.out, if_neg (fun q => by rw [q.2.1] at HDL; exact hdl HDL.out.symm)]
            go_wp2_with (go_at_call 54; (with_reducible refine ((C54 _).out).mono ?_); rintro e w5 ⟨rfl, HU5⟩; (obtain ⟨i3, i4, i2⟩ := HXX.out _ HU5.out))
            go_roundw
            case rel => exact ⟨k + 1, by omega, by go_num, by rw [HZ.out], (HU.out.trans HU9.out).trans HU5.out⟩
            case measure => simp [intOf]; omega
      · obtain rfl : n = k := by omega
        have HDr : Hid (DAt wr GB (bestJ ((relX X a n)) n)) := HD3.out.up HU.out
        have HSr : Hid (SAt wr G Sl.zero) := HSz3.out.up HU.out
        have HZr : Hid (DAt wr (G + 1) noJb) := HDz3.out.up HU.out
        have HKr : Hid (RKept n w wr L L1) := HK3.out.upw HU.out
        obtain ⟨c0, c1, c2, -⟩ := HDr.out
        rw [HTASK.out] at c2
        obtain ⟨g0, g1, g2, g3, gz⟩ := HSr.out
        obtain ⟨h0, h1, h2, hz⟩ := HZr.out
        have gz0 := gz 0
        have gz1 := gz 1
        have gz2 := gz 2
        have gz3 := gz 3
        have hz0 := hz 0
        have hz1 := hz 1
        have hz2 := hz 2
        have lS := HSr.out.lt
        have lZ := HZr.out.lt
        have lB := HDr.out.lt
        have nGB : ¬ G = GB := by have := HNB.out.2; omega
        have nGB2 : ¬ G + 1 = GB := by have := HNB.out.2; omega
        have hsl : Sl.zero.t = 0 ∧ Sl.zero.f = 0 ∧ Sl.zero.e = 0 ∧ Sl.zero.l = false := ⟨rfl, rfl, rfl, rfl⟩
        clear gz hz
        go_wp2_with fail
        go_region
        go_wp2_with fail
        have HS6 : Hid (SAt ((((((((wr.setCell ⟨G, 0, none⟩ (.int .i64 m)).setCell ⟨G, 1, none⟩ (.int .i64 a)).setCell ⟨G, 2, none⟩ (.int .i64 (toN ((relX X a n)) m (a + Lm) n))).setCell ⟨G, 3, none⟩ (.bool false)).setCell ⟨G + 1, 0, none⟩ (.int .i64 (bestJ ((relX X a n)) n).due)).setCell ⟨G + 1, 1, none⟩ (.int .i64 (bestJ ((relX X a n)) n).rank)).setCell ⟨G + 1, 2, none⟩ (.int .i64 m)).drew) G ⟨m, a, toN ((relX X a n)) m (a + Lm) n, false⟩) := ((HSr.out.put (z := ⟨m, a, toN ((relX X a n)) m (a + Lm) n, false⟩)).kp (F := fun b => b ≠ G + 1) (((Kp.set _ _ (fun q => q rfl) _).setCell (fun q => q rfl) _).setCell (fun q => q rfl) _) (by show G ≠ G + 1; omega)).up (Up.drew _)
        have HD6 : Hid (DAt ((((((((wr.setCell ⟨G, 0, none⟩ (.int .i64 m)).setCell ⟨G, 1, none⟩ (.int .i64 a)).setCell ⟨G, 2, none⟩ (.int .i64 (toN ((relX X a n)) m (a + Lm) n))).setCell ⟨G, 3, none⟩ (.bool false)).setCell ⟨G + 1, 0, none⟩ (.int .i64 (bestJ ((relX X a n)) n).due)).setCell ⟨G + 1, 1, none⟩ (.int .i64 (bestJ ((relX X a n)) n).rank)).setCell ⟨G + 1, 2, none⟩ (.int .i64 m)).drew) (G + 1) ⟨m, 0, (bestJ ((relX X a n)) n).due, 0, (bestJ ((relX X a n)) n).rank⟩) := ((HZr.out.kp (F := fun b => b ≠ G) ((((Kp.set _ _ (fun q => q rfl) _).setCell (fun q => q rfl) _).setCell (fun q => q rfl) _).setCell (fun q => q rfl) _) (by show G + 1 ≠ G; omega)).put (j' := ⟨m, 0, (bestJ ((relX X a n)) n).due, 0, (bestJ ((relX X a n)) n).rank⟩)).up (Up.drew _)
        obtain ⟨n1, n2⟩ := HN3.out
        have HW6 : Hid (RW ((((((((wr.setCell ⟨G, 0, none⟩ (.int .i64 m)).setCell ⟨G, 1, none⟩ (.int .i64 a)).setCell ⟨G, 2, none⟩ (.int .i64 (toN ((relX X a n)) m (a + Lm) n))).setCell ⟨G, 3, none⟩ (.bool false)).setCell ⟨G + 1, 0, none⟩ (.int .i64 (bestJ ((relX X a n)) n).due)).setCell ⟨G + 1, 1, none⟩ (.int .i64 (bestJ ((relX X a n)) n).rank)).setCell ⟨G + 1, 2, none⟩ (.int .i64 m)).drew) L1 n a ((relX X a n))) := ((((((((HWr.out.beyond n1 _).beyond n1 _).beyond n1 _).beyond n1 _).beyond n2 _).beyond n2 _).beyond n2 _)).up (Up.drew _)
        have g6 : w.heap.size ≤ G := Nat.le_of_eq hG
        have g7 : w.heap.size ≤ G + 1 := by omega
        have HK6 : Hid (RKept n w ((((((((wr.setCell ⟨G, 0, none⟩ (.int .i64 m)).setCell ⟨G, 1, none⟩ (.int .i64 a)).setCell ⟨G, 2, none⟩ (.int .i64 (toN ((relX X a n)) m (a + Lm) n))).setCell ⟨G, 3, none⟩ (.bool false)).setCell ⟨G + 1, 0, none⟩ (.int .i64 (bestJ ((relX X a n)) n).due)).setCell ⟨G + 1, 1, none⟩ (.int .i64 (bestJ ((relX X a n)) n).rank)).setCell ⟨G + 1, 2, none⟩ (.int .i64 m)).drew) L L1) := ((((((((HKr.out.beyond g6 _).beyond g6 _).beyond g6 _).beyond g6 _).beyond g7 _).beyond g7 _).beyond g7 _)).upw (Up.drew _)
        refine bodyPost_ret (results_two Try.results42 _ _ G (G + 1) _ _ rfl rfl (load_sl HS6.out) (load_due HD6.out)) rfl (Or.inr ⟨_, _, m, a, _, _, ?_, rfl, rfl, ?_, HW6, HK6⟩)
        · rw [HTK.out, HTASK.out, HLm.out]
          rfl
        · exact HSTR.out
  | none =>
    have hidle := bestN_none HBM.out
    simp only [Option.isSome_none]
    have HMIN : Hid (a < minX (relX X a n) (n - 1)) := by
      obtain ⟨i, hi, e⟩ := minX_at (X := relX X a n) (k := n - 1)
      have := (HR1.out i (by omega)).2
      show a < minX (relX X a n) (n - 1)
      omega
    have p0 := HW3.out.p0
    rw [HW3.out.ps hn0, HK3.out.bp] at p0
    have p9 := HW3.out.lt
    rw [HK3.out.bp] at p9
    have hll := HW3.out.ll hn0
    have x3 := (HW3.out.at' 0 hn0).nx
    simp only [Nat.zero_mul, Nat.zero_add] at x3
    have b0 : (0 : Int) < (n : Int) := by omega
    have b00 : (0 : Int) < ((n : Nat) : Int) := by omega
    go_upto_region 7 with fail
    clear x3
    go_loopw [7, 10] (fun v7 v10 wr => ∃ j : Nat, 1 ≤ j ∧ j ≤ n ∧ v10 = .int .i64 j ∧ v7 = .int .i64 (minX (relX X a n) (j - 1)) ∧ Hid (Up W3 wr)) (fun _ v10 _ => n - (intOf v10).toNat)
    case atStart => exact ⟨1, by omega, by omega, rfl, rfl, Up.refl _⟩
    case round =>
      clear p0 p9 hll
      obtain ⟨j, hj1, hj, rfl, rfl, HU⟩ := hrel
      rename World => wq
      have y0 : (0 : Int) ≤ (j : Int) := by omega
      have HWq : Hid (RW wq L1 n a (relX X a n)) := HW3.out.up HU.out
      have p0 := HWq.out.p0
      rw [HWq.out.ps hn0, HK3.out.bp] at p0
      have p9 := HWq.out.lt
      rw [HK3.out.bp] at p9
      have hll := HWq.out.ll hn0
      by_cases hjn : j < n
      · have b2 : (j : Int) < (n : Int) := by omega
        have x3 := (HWq.out.at' j hjn).nx
        have HMJ : Hid (minX (relX X a n) j = min (minX (relX X a n) (j - 1)) (relX X a n j).nx) := minX_next hj1
        generalize minX (relX X a n) (j - 1) = mz at *
        generalize hnx : (relX X a n j).nx = nx at *
        clear hnx
        go_wp2_with fail
        all_goals go_roundw
        all_goals first
          | (case rel => exact ⟨j + 1, by omega, by omega, by go_num, by rw [Nat.add_sub_cancel, HMJ.out]; congr 1; omega, HU⟩)
          | skip
        all_goals (simp [intOf]; omega)
      · obtain rfl : n = j := by omega
        have b2 : ¬ (n : Int) < (n : Int) := by omega
        have HFE : Hid (∃ F, minX (relX X a n) (n - 1) = F) := ⟨_, rfl⟩
        obtain ⟨F, hF⟩ := HFE.out
        have HF : Hid (minX (relX X a n) (n - 1) = F) := hF
        rw [hF]
        rw [hF] at HMIN
        clear hF
        have HDq : Hid (DAt wq GB (bestJ (relX X a n) n)) := HD3.out.up HU.out
        have HDzq : Hid (DAt wq (G + 1) noJb) := HDz3.out.up HU.out
        have HSzq : Hid (SAt wq G Sl.zero) := HSz3.out.up HU.out
        have HKq : Hid (RKept n w wq L L1) := HK3.out.upw HU.out
        clear HD3 HDz3 HSz3 HK3 HW3 HU
        by_cases hFl : lim ≤ F
        · obtain ⟨g0, g1, g2, g3, gz⟩ := HSzq.out
          obtain ⟨h0, h1, h2, hz⟩ := HDzq.out
          have gz0 := gz 0
          have gz1 := gz 1
          have gz2 := gz 2
          have gz3 := gz 3
          have hz0 := hz 0
          have hz1 := hz 1
          have hz2 := hz 2
          have lS := HSzq.out.lt
          have lZ := HDzq.out.lt
          clear gz hz
          go_wp2_with fail
          have HS6 : Hid (SAt (((((((wq.setCell ⟨G, 0, none⟩ (.int .i64 0)).setCell ⟨G, 1, none⟩ (.int .i64 0)).setCell ⟨G, 2, none⟩ (.int .i64 0)).setCell ⟨G, 3, none⟩ (.bool false)).setCell ⟨G + 1, 0, none⟩ (.int .i64 0)).setCell ⟨G + 1, 1, none⟩ (.int .i64 0)).setCell ⟨G + 1, 2, none⟩ (.int .i64 0)) G ⟨0, 0, 0, false⟩) := (HSzq.out.put (z := ⟨0, 0, 0, false⟩)).kp (F := fun b => b ≠ G + 1) (((Kp.set _ _ (fun q => q rfl) _).setCell (fun q => q rfl) _).setCell (fun q => q rfl) _) (by show G ≠ G + 1; omega)
          have HD6 : Hid (DAt (((((((wq.setCell ⟨G, 0, none⟩ (.int .i64 0)).setCell ⟨G, 1, none⟩ (.int .i64 0)).setCell ⟨G, 2, none⟩ (.int .i64 0)).setCell ⟨G, 3, none⟩ (.bool false)).setCell ⟨G + 1, 0, none⟩ (.int .i64 0)).setCell ⟨G + 1, 1, none⟩ (.int .i64 0)).setCell ⟨G + 1, 2, none⟩ (.int .i64 0)) (G + 1) ⟨0, 0, 0, 0, 0⟩) := (HDzq.out.kp (F := fun b => b ≠ G) ((((Kp.set _ _ (fun q => q rfl) _).setCell (fun q => q rfl) _).setCell (fun q => q rfl) _).setCell (fun q => q rfl) _) (by show G + 1 ≠ G; omega)).put (j' := ⟨0, 0, 0, 0, 0⟩)
          obtain ⟨n1, n2⟩ := HN1.out
          have HW6 : Hid (RW (((((((wq.setCell ⟨G, 0, none⟩ (.int .i64 0)).setCell ⟨G, 1, none⟩ (.int .i64 0)).setCell ⟨G, 2, none⟩ (.int .i64 0)).setCell ⟨G, 3, none⟩ (.bool false)).setCell ⟨G + 1, 0, none⟩ (.int .i64 0)).setCell ⟨G + 1, 1, none⟩ (.int .i64 0)).setCell ⟨G + 1, 2, none⟩ (.int .i64 0)) L1 n a (relX X a n)) := (((((((HWq.out.beyond n1 _).beyond n1 _).beyond n1 _).beyond n1 _).beyond n2 _).beyond n2 _).beyond n2 _)
          have g6 : w.heap.size ≤ G := Nat.le_of_eq hG
          have g7 : w.heap.size ≤ G + 1 := by omega
          have HK6 : Hid (RKept n w (((((((wq.setCell ⟨G, 0, none⟩ (.int .i64 0)).setCell ⟨G, 1, none⟩ (.int .i64 0)).setCell ⟨G, 2, none⟩ (.int .i64 0)).setCell ⟨G, 3, none⟩ (.bool false)).setCell ⟨G + 1, 0, none⟩ (.int .i64 0)).setCell ⟨G + 1, 1, none⟩ (.int .i64 0)).setCell ⟨G + 1, 2, none⟩ (.int .i64 0)) L L1) := (((((((HKq.out.beyond g6 _).beyond g6 _).beyond g6 _).beyond g6 _).beyond g7 _).beyond g7 _).beyond g7 _)
          refine bodyPost_ret (results_two Try.results42 _ _ G (G + 1) _ _ rfl rfl (load_sl HS6.out) (load_due HD6.out)) rfl (Or.inl ⟨L1, rfl, HBM.out, ?_, HW6, HK6⟩)
          rw [HF.out]
          exact hFl
        · have hFl2 : F < lim := by omega
          have hFm : F ≤ 1152921504606846976 := by omega
          have haF : a ≤ F := by have := HMIN.out; omega
          have HR2 : Hid (Rel n (relX (relX X a n) F n) F) := relX_all (fun i hi => (HR1.out i hi).1) haF hFm
          have C44 : Hid (Calls Try.prog 44 #[.pointer (some ⟨L.bp, 0, none⟩), .int .i64 F] wq (RelR wq L1 n a (relX (relX X a n) F n))) := by
            have := t44 HWq.out HKq.out.ok hn (fun i hi => (HR1.out i hi).1) (by omega) haF hFm (fun i hi => Nat.le_trans (relX_len a HLEN.out i hi) (by omega))
            rw [HKq.out.bp] at this
            exact this
          have HBF : Hid (∃ m, bestN (relX (relX X a n) F n) n = some m) := by
            obtain ⟨i, hi, e⟩ := minX_at (X := relX X a n) (k := n - 1)
            have hin : i < n := by omega
            refine best_of hin ?_
            have : relX (relX X a n) F n i = relO (relX X a n i) F := if_pos hin
            rw [this]
            exact relO_waits (by have := HF.out; omega)
          have HLT := HDq.out.lt
          have HLS := HSzq.out.lt
          have HLZ := HDzq.out.lt
          have HOL : Hid (∀ b, L1.Own n b → b < wq.heap.size) := fun b hb => HWq.out.own_lt hb
          go_upto_region 13 with (go_at_call 44; (with_reducible refine C44.out.mono ?_); rintro e w4 ⟨rfl, L2, HW4, HK4⟩)
          have HN4 : Hid (¬ L2.Own n G ∧ ¬ L2.Own n (G + 1) ∧ ¬ L2.Own n GB) := by
            obtain ⟨n1, n2⟩ := HN1.out
            have n3 := HNB.out.1
            refine ⟨fun q => ?_, fun q => ?_, fun q => ?_⟩
            all_goals (rcases HK4.out.own _ q with q2 | q2)
            · exact n1 q2
            · omega
            · exact n2 q2
            · omega
            · exact n3 q2
            · omega
          have HD4 : Hid (DAt w4 GB (bestJ (relX X a n) n)) := HDq.out.kp HK4.out.kp HNB.out.1
          have HDz4 : Hid (DAt w4 (G + 1) noJb) := HDzq.out.kp HK4.out.kp HN1.out.2
          have HSz4 : Hid (SAt w4 G Sl.zero) := HSzq.out.kp HK4.out.kp HN1.out.1
          have HKw4 : Hid (RKept n w w4 L L2) := HKq.out.trans HK4.out
          have C53 : Hid (Calls Try.prog 53 #[.pointer (some ⟨L.bp, 0, none⟩)] w4 (VU w4 (.tuple #[.agg #[.int .i64 (bestJ (relX (relX X a n) F n) n).due, .int .i64 (bestJ (relX (relX X a n) F n) n).rank, .int .i64 (bestJ (relX (relX X a n) F n) n).task], .bool (bestN (relX (relX X a n) F n) n).isSome]))) := by
            have := t53 HW4.out hn (fun i hi => (HR2.out i hi).1) hFm
            rw [HKw4.out.bp] at this
            exact this
          clear HDq HDzq HSzq HKq C44 HK4 HLT HLS HLZ p0 p9 hll HWq HOL
          go_upto_region 14 with (go_at_call 53; (with_reducible refine C53.out.mono ?_); rintro e w5 ⟨rfl, HU5⟩; (obtain ⟨i0, i1, i2, iz⟩ := HD4.out.up HU5.out); (have iz0 := iz 0); (have iz1 := iz 1); (have iz2 := iz 2); (have iL := (HD4.out.up HU5.out).lt); clear iz)
          obtain ⟨n1, n2, n3⟩ := HN4.out
          have HN3 : Hid (¬ L2.Own n G ∧ ¬ L2.Own n (G + 1)) := ⟨n1, n2⟩
          have nb1 := HNB.out.2
          have kz : Kp (fun b => b ≠ GB) w5 (((w5.setCell ⟨GB, 0, none⟩ (.int .i64 (bestJ (relX (relX X a n) F n) n).due)).setCell ⟨GB, 1, none⟩ (.int .i64 (bestJ (relX (relX X a n) F n) n).rank)).setCell ⟨GB, 2, none⟩ (.int .i64 (bestJ (relX (relX X a n) F n) n).task)) := (((Kp.set _ _ (fun q => q rfl) _).setCell (fun q => q rfl) _).setCell (fun q => q rfl) _)
          have HW3 : Hid (RW (((w5.setCell ⟨GB, 0, none⟩ (.int .i64 (bestJ (relX (relX X a n) F n) n).due)).setCell ⟨GB, 1, none⟩ (.int .i64 (bestJ (relX (relX X a n) F n) n).rank)).setCell ⟨GB, 2, none⟩ (.int .i64 (bestJ (relX (relX X a n) F n) n).task)) L2 n a (relX (relX X a n) F n)) := (((HW4.out.up HU5.out).beyond n3 _).beyond n3 _).beyond n3 _
          have g6 : w.heap.size ≤ GB := by omega
          have HK3 : Hid (RKept n w (((w5.setCell ⟨GB, 0, none⟩ (.int .i64 (bestJ (relX (relX X a n) F n) n).due)).setCell ⟨GB, 1, none⟩ (.int .i64 (bestJ (relX (relX X a n) F n) n).rank)).setCell ⟨GB, 2, none⟩ (.int .i64 (bestJ (relX (relX X a n) F n) n).task)) L L2) := (((HKw4.out.upw HU5.out).beyond g6 _).beyond g6 _).beyond g6 _
          have HD3 : Hid (DAt (((w5.setCell ⟨GB, 0, none⟩ (.int .i64 (bestJ (relX (relX X a n) F n) n).due)).setCell ⟨GB, 1, none⟩ (.int .i64 (bestJ (relX (relX X a n) F n) n).rank)).setCell ⟨GB, 2, none⟩ (.int .i64 (bestJ (relX (relX X a n) F n) n).task)) GB (bestJ (relX (relX X a n) F n) n)) := (HD4.out.up HU5.out).put (j' := bestJ (relX (relX X a n) F n) n)
          have HDz3 : Hid (DAt (((w5.setCell ⟨GB, 0, none⟩ (.int .i64 (bestJ (relX (relX X a n) F n) n).due)).setCell ⟨GB, 1, none⟩ (.int .i64 (bestJ (relX (relX X a n) F n) n).rank)).setCell ⟨GB, 2, none⟩ (.int .i64 (bestJ (relX (relX X a n) F n) n).task)) (G + 1) noJb) := (HDz4.out.up HU5.out).kp kz (by show G + 1 ≠ GB; omega)
          have HSz3 : Hid (SAt (((w5.setCell ⟨GB, 0, none⟩ (.int .i64 (bestJ (relX (relX X a n) F n) n).due)).setCell ⟨GB, 1, none⟩ (.int .i64 (bestJ (relX (relX X a n) F n) n).rank)).setCell ⟨GB, 2, none⟩ (.int .i64 (bestJ (relX (relX X a n) F n) n).task)) G Sl.zero) := (HSz4.out.up HU5.out).kp kz (by show G ≠ GB; omega)
          clear kz HW4 HKw4 HD4 HDz4 HSz4 HU5 i0 i1 i2 iz0 iz1 iz2 iL n1 n2 n3 nb1 g6 C53
          generalize (((w5.setCell ⟨GB, 0, none⟩ (.int .i64 (bestJ (relX (relX X a n) F n) n).due)).setCell ⟨GB, 1, none⟩ (.int .i64 (bestJ (relX (relX X a n) F n) n).rank)).setCell ⟨GB, 2, none⟩ (.int .i64 (bestJ (relX (relX X a n) F n) n).task)) = W7 at *
          obtain ⟨m, HB3⟩ := HBF.out
          have HB3 : Hid (bestN (relX (relX X a n) F n) n = some m) := HB3
          have HOK3 : Hid (∀ i, i < n → (relX (relX X a n) F n i).Ok F) := fun i hi => (HR2.out i hi).1
          have HSTR : Hid (StrN n a X (relX (relX X a n) F n) m F lim) := ⟨HB3.out, Or.inr ⟨rfl, HBM.out, HF.out.symm, hFl2⟩⟩
          have haF0 : 0 ≤ F := by omega
          obtain ⟨X2, hX2⟩ : ∃ X2, relX (relX X a n) F n = X2 := ⟨_, rfl⟩
          rw [hX2] at HW3 HD3 HB3 HOK3 HSTR ⊢
          obtain ⟨J1, hJ1⟩ : ∃ J1, bestJ (relX X a n) n = J1 := ⟨_, rfl⟩
          rw [hJ1]
          have hsome : (bestN X2 n).isSome = true := by rw [HB3.out]; rfl
          rw [hsome]
          clear hX2 hJ1 hsome HBM hidle HR2 HBF HF HMIN HR1
          obtain ⟨hm, hwm, hall⟩ := bestN_some HB3.out
          have HJM : Hid (∃ j0 t0, (X2 m).w = j0 :: t0) := by
            show ∃ j0 t0, _
            cases e : (X2 m).w with
            | nil => exact absurd e hwm
            | cons j0 t0 => exact ⟨j0, t0, rfl⟩
          obtain ⟨j0, t0, hjt⟩ := HJM.out
          have hOm := HOK3.out m hm
          obtain ⟨lf1, lf2⟩ := hOm.lf j0 t0 hjt
          obtain ⟨⟨jm1, jm2, jm3⟩, -, -⟩ := hOm.jm j0 (by rw [hjt]; simp)
          have hps := HW3.out.ps (by omega)
          have p0 := HW3.out.p0
          rw [hps, HK3.out.bp] at p0
          have p9 := HW3.out.lt
          rw [HK3.out.bp] at p9
          have hll := HW3.out.ll (by omega)
          have x5 := (HW3.out.at' m hm).lf
          obtain ⟨c0, c1, c2, -⟩ := HD3.out
          have lGB := HD3.out.lt
          have HTK : Hid ((X2 m).jb m = bestJ (X2) n) := by show _ = bestJ _ n; unfold bestJ; rw [HB3.out]
          have htk : (bestJ (X2) n).task = (m : Int) := by rw [← HTK.out]; exact On.jb_named (X2) n m hm
          rw [htk] at c2
          have HTASK : Hid ((bestJ (X2) n).task = (m : Int)) := htk
          clear htk
          have b0 : (m : Int) < (n : Int) := by omega
          have b1 : (0 : Int) ≤ (m : Int) := by omega
          obtain ⟨Lm, hLm⟩ : ∃ Lm, (X2 m).lf = Lm := ⟨_, rfl⟩
          have HLm : Hid ((X2 m).lf = Lm) := hLm
          rw [hLm] at x5 lf1 lf2
          have d1 : IntKind.i64.wrap (F + Lm) = F + Lm := by rw [IntKind.wrap_i64]; omega
          clear hps hwm hall hjt hOm hLm
          go_wp2_with fail
          go_region
          go_wp2_with fail
          clear x5 p0 p9 hll c0 c1 c2 lGB
          go_loopw [11, 12, 15] (fun v11 v12 _ wr => ∃ k : Nat, k ≤ n ∧ v12 = .int .i64 k ∧ v11 = .int .i64 (toN (X2) m (F + Lm) k) ∧ Hid (Up W7 wr)) (fun _ v12 _ _ => n - (intOf v12).toNat)
          case atStart => exact ⟨0, by omega, rfl, rfl, Up.drew _⟩
          case round =>
            obtain ⟨k, hk, rfl, rfl, HU⟩ := hrel
            rename World => wr
            have y0 : (0 : Int) ≤ (k : Int) := by omega
            have HWr : Hid (RW wr L2 n a (X2)) := HW3.out.up HU.out
            have p0 := HWr.out.p0
            have p9 := HWr.out.lt
            rw [HWr.out.ps (by omega), HK3.out.bp] at p0
            rw [HK3.out.bp] at p9
            have hll := HWr.out.ll (by omega)
            by_cases hkn : k < n
            · have b2 : (k : Int) < (n : Int) := by omega
              have hat := HWr.out.at' k hkn
              have hwt := HWr.out.wt k hkn
              have hx := HOK3.out k hkn
              have htn : toN (X2) m (F + Lm) (k + 1) = if k ≠ m ∧ ((X2) k).w = [] ∧ ahB (((X2) k).jb k) (((X2) m).jb m) = true then min (toN (X2) m (F + Lm) k) ((X2) k).nx else toN (X2) m (F + Lm) k := rfl
              obtain ⟨tz, htz⟩ : ∃ tz, toN (X2) m (F + Lm) k = tz := ⟨_, rfl⟩
              rw [htz] at htn ⊢
              rw [HTK.out] at htn
              obtain ⟨xx, hxx⟩ : ∃ xx, (X2) k = xx := ⟨_, rfl⟩
              rw [hxx] at hat hwt hx htn
              obtain ⟨e, l, r, nx, D, lf⟩ := xx
              obtain ⟨pv, cv, hv, hcap, hpp⟩ := hwt.form
              try simp only at hat hwt hx hv hcap hpp htn
              rw [hv] at hat
              obtain ⟨x0, x1, x2, x3, x4, x5⟩ := hat
              try simp only at x0 x1 x2 x3 x4 x5
              obtain ⟨m1, m2, m3⟩ := hx.may
              obtain ⟨lo1, lo2⟩ := hx.lo
              try simp only at m1 m2 m3 lo1 lo2
              have d2 : IntKind.i64.wrap (nx + e) = nx + e := by rw [IntKind.wrap_i64]; omega
              obtain ⟨bb, hbb⟩ : ∃ bb, ahB ⟨k, nx, nx + e, l, r⟩ (bestJ (X2) n) = bb := ⟨_, rfl⟩
              have C54 : ∀ W, Hid (Calls Try.prog 54 #[.agg #[.int .i64 (nx + e), .int .i64 r, .int .i64 k], .agg #[.int .i64 (bestJ (X2) n).due, .int .i64 (bestJ (X2) n).rank, .int .i64 m]] W (VU W (.bool bb))) := fun W => by
                have := t54 ⟨k, nx, nx + e, l, r⟩ (bestJ (X2) n) W
                unfold dueV at this
                rw [hbb, HTASK.out] at this
                exact this
              have HTN : Hid (toN (X2) m (F + Lm) (k + 1) = if k ≠ m ∧ D = [] ∧ bb = true then min tz nx else tz) := by
                show _ = _
                rw [htn, ← hbb]
                by_cases hD : D = []
                · subst hD; rfl
                · rw [if_neg (fun q => hD q.2.1), if_neg (fun q => hD q.2.1)]
              have HDr : Hid (DAt wr GB (bestJ (X2) n)) := HD3.out.up HU.out
              clear htn hbb hxx htz hwt hx hv hcap hpp
              obtain ⟨dl, hdl0⟩ : ∃ dl, D.length = dl := ⟨_, rfl⟩
              have HDL : Hid (D.length = dl) := hdl0
              rw [hdl0] at x4
              clear hdl0
              go_upto_region 20 with fail
              have HU9 : Hid (Up wr ((wr.alloc (.cells #[.int .i64 e, .int .i64 l, .int .i64 r, .int .i64 nx, .slice pv dl cv, .int .i64 lf] 76)).alloc (.cells #[.int .i64 (nx + e), .int .i64 r, .int .i64 k] 96))) := (Up.alloc _ _).trans (Up.alloc _ _)
              have HE9 : Hid (DAt ((wr.alloc (.cells #[.int .i64 e, .int .i64 l, .int .i64 r, .int .i64 nx, .slice pv dl cv, .int .i64 lf] 76)).alloc (.cells #[.int .i64 (nx + e), .int .i64 r, .int .i64 k] 96)) (wr.heap.size + 1) ⟨k, nx, nx + e, l, r⟩) := by
                have s1 : (wr.alloc (.cells #[.int .i64 e, .int .i64 l, .int .i64 r, .int .i64 nx, .slice pv dl cv, .int .i64 lf] 76)).heap.size = wr.heap.size + 1 := by simp
                have := DAt.of (j := ⟨k, nx, nx + e, l, r⟩) (heap_alloc_last (wr.alloc (.cells #[.int .i64 e, .int .i64 l, .int .i64 r, .int .i64 nx, .slice pv dl cv, .int .i64 lf] 76)) (.cells #[.int .i64 (nx + e), .int .i64 r, .int .i64 k] 96))
                rw [s1] at this
                exact this
              have HC9 : Hid (((wr.alloc (.cells #[.int .i64 e, .int .i64 l, .int .i64 r, .int .i64 nx, .slice pv dl cv, .int .i64 lf] 76)).alloc (.cells #[.int .i64 (nx + e), .int .i64 r, .int .i64 k] 96)).cell? ⟨wr.heap.size, 3, none⟩ = some (.int .i64 nx) ∧ ((wr.alloc (.cells #[.int .i64 e, .int .i64 l, .int .i64 r, .int .i64 nx, .slice pv dl cv, .int .i64 lf] 76)).alloc (.cells #[.int .i64 (nx + e), .int .i64 r, .int .i64 k] 96)).cell? ⟨wr.heap.size, 4, none⟩ = some (.slice pv dl cv)) := by
                have z := kept2 (heap_alloc_last wr (.cells #[.int .i64 e, .int .i64 l, .int .i64 r, .int .i64 nx, .slice pv dl cv, .int .i64 lf] 76)) (Up.alloc (wr.alloc (.cells #[.int .i64 e, .int .i64 l, .int .i64 r, .int .i64 nx, .slice pv dl cv, .int .i64 lf] 76)) (.cells #[.int .i64 (nx + e), .int .i64 r, .int .i64 k] 96))
                exact ⟨(row_cell z 3).1, (row_cell z 4).1⟩
              have HD9 : Hid (DAt ((wr.alloc (.cells #[.int .i64 e, .int .i64 l, .int .i64 r, .int .i64 nx, .slice pv dl cv, .int .i64 lf] 76)).alloc (.cells #[.int .i64 (nx + e), .int .i64 r, .int .i64 k] 96)) GB (bestJ (X2) n)) := HDr.out.up HU9.out
              clear x0 x1 x2 x3 x4 x5 p0 p9 hll HDr d2
              generalize ((wr.alloc (.cells #[.int .i64 e, .int .i64 l, .int .i64 r, .int .i64 nx, .slice pv dl cv, .int .i64 lf] 76)).alloc (.cells #[.int .i64 (nx + e), .int .i64 r, .int .i64 k] 96)) = W9 at *
              generalize wr.heap.size + 1 = GE at *
              generalize wr.heap.size = GX at *
              obtain ⟨e0, e1, e2, -⟩ := HE9.out
              obtain ⟨c0, c1, c2, -⟩ := HD9.out
              rw [HTASK.out] at c2
              simp only at e0 e1 e2
              have HXX : Hid (∀ Z, Up W9 Z → Z.cell? ⟨GX, 3, none⟩ = some (.int .i64 nx) ∧ Z.cell? ⟨GX, 4, none⟩ = some (.slice pv dl cv) ∧ Z.cell? ⟨GB, 2, none⟩ = some (.int .i64 m)) := fun Z hu => ⟨cell_up HC9.out.1 hu, cell_up HC9.out.2 hu, by have := cell_up HD9.out.d2 hu; rw [HTASK.out] at this; exact this⟩
              by_cases hkm : k = m
              · have HZ : Hid (toN (X2) m (F + Lm) (k + 1) = tz) := by show _ = _; rw [HTN.out, if_neg (fun q => q.1 hkm)]
                subst hkm
                go_wp2_with (go_at_call 54; (with_reducible refine ((C54 _).out).mono ?_); rintro e w5 ⟨rfl, HU5⟩; (obtain ⟨i3, i4, i2⟩ := HXX.out _ HU5.out))
                go_roundw
                case rel => exact ⟨k + 1, by omega, by go_num, by rw [HZ.out], (HU.out.trans HU9.out).trans HU5.out⟩
                case measure => simp [intOf]; omega
              · have c9 : ¬ (k : Int) = (m : Int) := by omega
                by_cases hdl : dl = 0
                · subst hdl
                  have hDn : D = [] := List.length_eq_zero_iff.1 HDL.out
                  cases bb with
                  | true =>
                    have HZ : Hid (toN (X2) m (F + Lm) (k + 1) = min tz nx) := by show _ = _; rw [HTN.out, if_pos ⟨hkm, hDn, rfl⟩]
                    clear hDn
                    go_wp2_with (go_at_call 54; (with_reducible refine ((C54 _).out).mono ?_); rintro e w5 ⟨rfl, HU5⟩; (obtain ⟨i3, i4, i2⟩ := HXX.out _ HU5.out))
                    all_goals go_roundw
                    all_goals first
                      | (case rel => exact ⟨k + 1, by omega, by go_num, by rw [HZ.out]; congr 1; omega, (HU.out.trans HU9.out).trans HU5.out⟩)
                      | skip
                    all_goals (simp [intOf]; omega)
                  | false =>
                    have HZ : Hid (toN (X2) m (F + Lm) (k + 1) = tz) := by show _ = _; rw [HTN.out, if_neg (fun q => Bool.false_ne_true q.2.2)]
                    clear hDn
                    go_wp2_with (go_at_call 54; (with_reducible refine ((C54 _).out).mono ?_); rintro e w5 ⟨rfl, HU5⟩; (obtain ⟨i3, i4, i2⟩ := HXX.out _ HU5.out))
                    go_roundw
                    case rel => exact ⟨k + 1, by omega, by go_num, by rw [HZ.out], (HU.out.trans HU9.out).trans HU5.out⟩
                    case measure => simp [intOf]; omega
                · have c8 : ¬ (dl : Int) = 0 := by omega
                  have HZ : Hid (toN (X2) m (F + Lm) (k + 1) = tz) := by show _ = _; rw [HTN.out, if_neg (fun q => by rw [q.2.1] at HDL; exact hdl HDL.out.symm)]
                  go_wp2_with (go_at_call 54; (with_reducible refine ((C54 _).out).mono ?_); rintro e w5 ⟨rfl, HU5⟩; (obtain ⟨i3, i4, i2⟩ := HXX.out _ HU5.out))
                  go_roundw
                  case rel => exact ⟨k + 1, by omega, by go_num, by rw [HZ.out], (HU.out.trans HU9.out).trans HU5.out⟩
                  case measure => simp [intOf]; omega
            · obtain rfl : n = k := by omega
              have HDr : Hid (DAt wr GB (bestJ (X2) n)) := HD3.out.up HU.out
              have HSr : Hid (SAt wr G Sl.zero) := HSz3.out.up HU.out
              have HZr : Hid (DAt wr (G + 1) noJb) := HDz3.out.up HU.out
              have HKr : Hid (RKept n w wr L L2) := HK3.out.upw HU.out
              obtain ⟨c0, c1, c2, -⟩ := HDr.out
              rw [HTASK.out] at c2
              obtain ⟨g0, g1, g2, g3, gz⟩ := HSr.out
              obtain ⟨h0, h1, h2, hz⟩ := HZr.out
              have gz0 := gz 0
              have gz1 := gz 1
              have gz2 := gz 2
              have gz3 := gz 3
              have hz0 := hz 0
              have hz1 := hz 1
              have hz2 := hz 2
              have lS := HSr.out.lt
              have lZ := HZr.out.lt
              have lB := HDr.out.lt
              have nGB : ¬ G = GB := by have := HNB.out.2; omega
              have nGB2 : ¬ G + 1 = GB := by have := HNB.out.2; omega
              have hsl : Sl.zero.t = 0 ∧ Sl.zero.f = 0 ∧ Sl.zero.e = 0 ∧ Sl.zero.l = false := ⟨rfl, rfl, rfl, rfl⟩
              clear gz hz
              go_wp2_with fail
              go_region
              go_wp2_with fail
              have HS6 : Hid (SAt ((((((((wr.setCell ⟨G, 0, none⟩ (.int .i64 m)).setCell ⟨G, 1, none⟩ (.int .i64 F)).setCell ⟨G, 2, none⟩ (.int .i64 (toN (X2) m (F + Lm) n))).setCell ⟨G, 3, none⟩ (.bool false)).setCell ⟨G + 1, 0, none⟩ (.int .i64 (bestJ (X2) n).due)).setCell ⟨G + 1, 1, none⟩ (.int .i64 (bestJ (X2) n).rank)).setCell ⟨G + 1, 2, none⟩ (.int .i64 m)).drew) G ⟨m, F, toN (X2) m (F + Lm) n, false⟩) := ((HSr.out.put (z := ⟨m, F, toN (X2) m (F + Lm) n, false⟩)).kp (F := fun b => b ≠ G + 1) (((Kp.set _ _ (fun q => q rfl) _).setCell (fun q => q rfl) _).setCell (fun q => q rfl) _) (by show G ≠ G + 1; omega)).up (Up.drew _)
              have HD6 : Hid (DAt ((((((((wr.setCell ⟨G, 0, none⟩ (.int .i64 m)).setCell ⟨G, 1, none⟩ (.int .i64 F)).setCell ⟨G, 2, none⟩ (.int .i64 (toN (X2) m (F + Lm) n))).setCell ⟨G, 3, none⟩ (.bool false)).setCell ⟨G + 1, 0, none⟩ (.int .i64 (bestJ (X2) n).due)).setCell ⟨G + 1, 1, none⟩ (.int .i64 (bestJ (X2) n).rank)).setCell ⟨G + 1, 2, none⟩ (.int .i64 m)).drew) (G + 1) ⟨m, 0, (bestJ (X2) n).due, 0, (bestJ (X2) n).rank⟩) := ((HZr.out.kp (F := fun b => b ≠ G) ((((Kp.set _ _ (fun q => q rfl) _).setCell (fun q => q rfl) _).setCell (fun q => q rfl) _).setCell (fun q => q rfl) _) (by show G + 1 ≠ G; omega)).put (j' := ⟨m, 0, (bestJ (X2) n).due, 0, (bestJ (X2) n).rank⟩)).up (Up.drew _)
              obtain ⟨n1, n2⟩ := HN3.out
              have HW6 : Hid (RW ((((((((wr.setCell ⟨G, 0, none⟩ (.int .i64 m)).setCell ⟨G, 1, none⟩ (.int .i64 F)).setCell ⟨G, 2, none⟩ (.int .i64 (toN (X2) m (F + Lm) n))).setCell ⟨G, 3, none⟩ (.bool false)).setCell ⟨G + 1, 0, none⟩ (.int .i64 (bestJ (X2) n).due)).setCell ⟨G + 1, 1, none⟩ (.int .i64 (bestJ (X2) n).rank)).setCell ⟨G + 1, 2, none⟩ (.int .i64 m)).drew) L2 n a (X2)) := ((((((((HWr.out.beyond n1 _).beyond n1 _).beyond n1 _).beyond n1 _).beyond n2 _).beyond n2 _).beyond n2 _)).up (Up.drew _)
              have g6 : w.heap.size ≤ G := Nat.le_of_eq hG
              have g7 : w.heap.size ≤ G + 1 := by omega
              have HK6 : Hid (RKept n w ((((((((wr.setCell ⟨G, 0, none⟩ (.int .i64 m)).setCell ⟨G, 1, none⟩ (.int .i64 F)).setCell ⟨G, 2, none⟩ (.int .i64 (toN (X2) m (F + Lm) n))).setCell ⟨G, 3, none⟩ (.bool false)).setCell ⟨G + 1, 0, none⟩ (.int .i64 (bestJ (X2) n).due)).setCell ⟨G + 1, 1, none⟩ (.int .i64 (bestJ (X2) n).rank)).setCell ⟨G + 1, 2, none⟩ (.int .i64 m)).drew) L L2) := ((((((((HKr.out.beyond g6 _).beyond g6 _).beyond g6 _).beyond g6 _).beyond g7 _).beyond g7 _).beyond g7 _)).upw (Up.drew _)
              refine bodyPost_ret (results_two Try.results42 _ _ G (G + 1) _ _ rfl rfl (load_sl HS6.out) (load_due HD6.out)) rfl (Or.inr ⟨_, _, m, F, _, _, ?_, rfl, rfl, ?_, HW6, HK6⟩)
              · rw [HTK.out, HTASK.out, HLm.out]
                rfl
              · exact HSTR.out
end Go.Proofs.Ytjklaemhfhakhaa
