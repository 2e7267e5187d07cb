/- The document's stretches and the program's are one. No program. -/
import Derived.Test.YtjklaemhfhakhaaNf
import Derived.Test.YtjklaemhfhakhaaNg
namespace Go.Proofs.Ytjklaemhfhakhaa

theorem On.Ok.mono {x : On} {a b : Int} (h : x.Ok a) (hab : a ≤ b) : x.Ok b := ⟨h.may, h.jm, h.ch, past_mono hab h.pa, h.lf, h.lo⟩
theorem relX_eq {X : Nat → On} {n i : Nat} {b : Int} (hi : i < n) : relX X b n i = relO (X i) b := if_pos hi
theorem AllAbs.J {n : Nat} {X : Nat → On} {p : Pl} (h : AllAbs n X p) {i : Nat} (hi : i < n) : p.J i = (X i).jb i := (h i hi).jb i
theorem jb_left {x : On} {i : Nat} (h : x.w ≠ []) : (x.jb i).left = x.lf := by
  unfold On.jb
  cases e : x.w with
  | nil => exact absurd e h
  | cons j t => rfl
/-- What stretch tells is what the program's plan does. -/
theorem StrN.to {n : Nat} {a lim : Int} {X X' : Nat → On} {m : Nat} {f : Int} (h : StrN n a X X' m f lim) {p : Pl} (hA : AllAbs n X p) (hok : ∀ i, i < n → (X i).Ok a) (hn : p.now = a) (ha : a ≤ 1152921504606846976) (hl : lim ≤ 1152921504606846976) :
    Runs n p.J p.now m f ∧ AllAbs n X' p ∧ Rel n X' f ∧ (X' m).w ≠ [] ∧ m < n ∧ a ≤ f ∧ f ≤ 1152921504606846976 ∧ (f = a ∨ f < lim) ∧ p.J m = (X' m).jb m ∧ (∀ z, toN X' m z n = endN p.J (p.J m) z n) := by
  obtain ⟨hb, hc⟩ := h
  obtain ⟨hm, hw, hall⟩ := bestN_some hb
  have hR1 := relX_all hok (Int.le_refl a) ha
  have hA1 := relX_abs hA a
  rcases hc with ⟨rfl, rfl⟩ | ⟨rfl, h0, hf, hfl⟩
  · exact ⟨runs_of hA1 hR1 hb (by omega) (Or.inl (by omega)), hA1, hR1, hw, hm, Int.le_refl _, ha, Or.inl rfl, hA1.J hm, fun z => toN_eq hA1 hm hall n (Nat.le_refl _)⟩
  · have hidle := bestN_none h0
    have haf : a ≤ f := by
      obtain ⟨i, hi, e⟩ := minX_at (X := relX X a n) (k := n - 1)
      have := (hR1 i (by omega)).2
      omega
    have hfm : f ≤ 1152921504606846976 := by omega
    have hR2 := relX_all (fun i hi => (hR1 i hi).1) haf hfm
    have hA2 := relX_abs hA1 f
    have hfr : ∀ i, i < n → f ≤ (p.J i).frm := fun i hi => by
      rw [hA1.J hi, On.frm.1 (hidle i hi), hf]
      exact minX_le (by omega)
    exact ⟨runs_of hA2 hR2 hb (by omega) (Or.inr hfr), hA2, hR2, hw, hm, haf, hfm, Or.inr hfl, hA2.J hm, fun z => toN_eq hA2 hm hall n (Nat.le_refl _)⟩
/-- Nothing waits: the program's plan begins at that tick or behind it. -/
theorem far_of {n : Nat} {a lim : Int} {X : Nat → On} (h0 : 0 < n) {p : Pl} (hA : AllAbs n X p) (hp : PB n p) (hb : bestN (relX X a n) n = none) (hl : lim ≤ minX (relX X a n) (n - 1)) : lim ≤ (runN p.J p.now n).2 := by
  obtain ⟨m, f, e, hr⟩ := hp.runs h0
  rw [e]
  have hA1 := relX_abs hA a
  have hm := hr.lt
  have hidle := bestN_none hb m hm
  have h1 : (p.J m).frm = (relX X a n m).nx := by rw [hA1.J hm, On.frm.1 hidle]
  have h2 := minX_le (X := relX X a n) (k := n - 1) (i := m) (by omega)
  have h3 := hr.at'
  show lim ≤ f
  omega
/-- A run. -/
theorem go_abs {n : Nat} {X : Nat → On} {p : Pl} {m : Nat} {f c : Int} (hA : AllAbs n X p) (hR : Rel n X f) (hm : m < n) (hw : (X m).w ≠ []) (hd : c - f ≤ (X m).lf) : AllAbs n (upd X m (runO (X m) (c - f))) (p.go m (c - f) c) := fun i hi => by
  show Abs (upd X m _ i) (upd p.c m _ i)
  by_cases q : i = m
  · subst q
    rw [upd_at, upd_at]
    cases e : (X i).w with
    | nil => exact absurd e hw
    | cons j t => exact run_abs (hA i hi) (hR i hi).1 e hd
  · rw [upd_ne _ _ q, upd_ne _ _ q]
    exact hA i hi
theorem go_rel {n : Nat} {X : Nat → On} {m : Nat} {f c : Int} (hR : Rel n X f) (hm : m < n) (hw : (X m).w ≠ []) (hfc : f ≤ c) : ∀ i, i < n → (upd X m (runO (X m) (c - f)) i).Ok c := fun i hi => by
  by_cases q : i = m
  · subst q
    rw [upd_at]
    cases e : (X i).w with
    | nil => exact absurd e hw
    | cons j t => exact (run_ok (hR i hi).1 e (by omega)).1.mono hfc
  · rw [upd_ne _ _ q]
    exact (hR i hi).1.mono hfc
/-- As many rows as the program has, or one less. -/
theorem Abs.len {x : On} {c : Crs} (h : Abs x c) : x.w.length ≤ c.tl.length + 1 := by
  have := congrArg List.length h.rows
  unfold On.rws at this
  simp only [List.length_cons, List.length_append, List.length_map] at this
  omega
theorem work_len (c : Crs) (d : Int) : (c.work d).tl.length ≤ c.tl.length := by
  unfold Crs.work
  split
  · exact Nat.le_refl _
  · cases h : c.tl with
    | nil => exact Nat.le_refl _
    | cons x xs =>
      rw [nextC]
      split
      · simp
      · exact Nat.le_refl _
/-- Few rows. -/
def Few (n N : Nat) (p : Pl) : Prop := ∀ i, i < n → (p.c i).tl.length ≤ N
theorem Few.go {n N : Nat} {p : Pl} (h : Few n N p) (m : Nat) (d c : Int) : Few n N (p.go m d c) := fun i hi => by
  show (upd p.c m _ i).tl.length ≤ N
  by_cases q : i = m
  · subst q
    rw [upd_at]
    exact Nat.le_trans (work_len _ _) (h i hi)
  · rw [upd_ne _ _ q]
    exact h i hi
theorem AllAbs.len {n N : Nat} {X : Nat → On} {p : Pl} (h : AllAbs n X p) (hF : Few n N p) : ∀ i, i < n → (X i).w.length ≤ N + 1 := fun i hi => Nat.le_trans (h i hi).len (Nat.succ_le_succ (hF i hi))
end Go.Proofs.Ytjklaemhfhakhaa
/- Until (the document's). -/
namespace Go.Proofs.Ytjklaemhfhakhaa
open Go.ChangeShapes Go.WideShapes Go.ChangeAt Go.RowKit

theorem RKept.grow {n : Nat} {w w1 w2 : World} {L L1 : RL} (h : RKept n w w1 L L1) {row : Option Nat} (hg : w1.grownBy w2 row) (hr : ∀ k, row = some k → w.heap.size ≤ k) : RKept n w w2 L L1 :=
  ⟨h.ok, h.bp, h.own, h.kp.two (Kp.grown hg) (fun b _ hl e => by have := hr b e.symm; omega)⟩
/-- The document's plan, in memory, is the program's. -/
structure RQ (w : World) (L : RL) (n : Nat) (p : Pl) (X : Nat → On) : Prop where
  rw' : RW w L n p.now X
  abs : AllAbs n X p
  ok : ∀ i, i < n → (X i).Ok p.now
  pb : PB n p
theorem RQ.up {w w' : World} {L : RL} {n : Nat} {p : Pl} {X : Nat → On} (h : RQ w L n p X) (hu : Up w w') : RQ w' L n p X := ⟨h.rw'.up hu, h.abs, h.ok, h.pb⟩
/-- What Until has told so far. -/
structure UQ (w : World) (L : RL) (n : Nat) (T : Int) (p0 : Pl) (D : List Sl) (p : Pl) (k : Nat) (v : Value) (wr : World) : Prop where
  lay : ∃ L' X, RQ wr L' n p X ∧ RKept n w wr L L' ∧ ∀ r, v.ownBlock = some r → ¬ L'.Own n r
  few : Few n 800000 p
  own : SO w.heap.size wr v D
  eq : untilN n T 65536 p0 = (D ++ (untilN n T k p).1, (untilN n T k p).2)
/-- What Until leaves. -/
def UntQ (w : World) (L : RL) (n : Nat) (T : Int) (p0 : Pl) (e : Ending) (w' : World) : Prop := ∃ pp c L' X, e = .returned (.slice pp (untilN n T 65536 p0).1.length c) ∧ Hid (SO w.heap.size w' (.slice pp (untilN n T 65536 p0).1.length c) (untilN n T 65536 p0).1) ∧ Hid (RQ w' L' n (untilN n T 65536 p0).2 X) ∧ Hid (RKept n w w' L L') ∧ Hid (Few n 800000 (untilN n T 65536 p0).2)
theorem RQ.at {w : World} {L : RL} {n : Nat} {p : Pl} {X : Nat → On} (h : RQ w L n p X) (hL : L.Ok n) {T : Int} (h1 : p.now ≤ T) (h2 : T ≤ 1152921504606846976) : RQ (w.setCell ⟨L.bp, 1, none⟩ (.int .i64 T)) L n (p.at T) X := by
  have hp := h.pb.now
  exact ⟨(h.rw'.setA hL T).1, h.abs, fun i hi => (h.ok i hi).mono h1, h.pb.at (by omega) h2⟩
theorem UQ.done {w : World} {L : RL} {n : Nat} {T : Int} {p0 : Pl} {D : List Sl} {p : Pl} {k : Nat} {pp : Option Addr} {c : Nat} {wr w' : World} {L' : RL} {X : Nat → On} {p' : Pl} (h : UQ w L n T p0 D p k (.slice pp D.length c) wr) (he : untilN n T k p = ([], p')) (hs : SO w.heap.size w' (.slice pp D.length c) D) (hr : RQ w' L' n p' X) (hk : RKept n w w' L L') (hf : Few n 800000 p') : UntQ w L n T p0 (.returned (.slice pp D.length c)) w' := by
  have e := h.eq
  rw [he] at e
  simp only [List.append_nil] at e
  refine ⟨pp, c, L', X, ?_, ?_, ?_, hk, ?_⟩
  · rw [e]
  · rw [e]; exact hs
  · rw [e]; exact hr
  · rw [e]; exact hf
/-- Stretch, in one form. -/
def StrB (w : World) (L : RL) (n : Nat) (a : Int) (X : Nat → On) (lim : Int) (e : Ending) (w' : World) : Prop :=
  ∃ (L2 : RL) (X2 : Nat → On) (mi f z d1 d2 d3 : Int) (b : Bool), e = .returned (.tuple #[.agg #[.int .i64 mi, .int .i64 f, .int .i64 z, .bool false], .agg #[.int .i64 d1, .int .i64 d2, .int .i64 d3], .bool b]) ∧ Hid (RW w' L2 n a X2) ∧ Hid (RKept n w w' L L2) ∧ Hid (b = false → X2 = relX X a n ∧ bestN X2 n = none ∧ lim ≤ minX X2 (n - 1)) ∧ Hid (b = true → ∃ m : Nat, mi = m ∧ StrN n a X X2 m f lim ∧ d1 = ((X2 m).jb m).due ∧ z = toN X2 m (f + (X2 m).lf) n)
theorem StrE.b {w : World} {L : RL} {n : Nat} {a : Int} {X : Nat → On} {lim : Int} {e : Ending} {w' : World} (h : StrE w L n a X lim e w') : StrB w L n a X lim e w' := by
  rcases h with ⟨L', rfl, h1, h2, h3, h4⟩ | ⟨L', X', m, f, z, j, rfl, hj, hz, h1, h2, h3⟩
  · exact ⟨L', _, _, _, _, _, _, _, false, rfl, h3, h4, fun _ => ⟨rfl, h1, h2⟩, fun q => by cases q⟩
  · exact ⟨L', X', _, _, _, _, _, _, true, rfl, h2, h3, (fun q => by cases q), fun _ => ⟨m, rfl, h1, by rw [hj], hz⟩⟩
set_option maxRecDepth 200000 in
set_option maxHeartbeats 16000000 in
theorem t29 {w : World} {L : RL} {n : Nat} {p : Pl} {X : Nat → On} (h : RQ w L n p X) (hL : L.Ok n) (hn : n ≤ 256) (hF : Few n 800000 p) (t0 : Int) (hlo : -9223372036854775808 ≤ t0) : Calls Try.prog 29 #[.pointer (some ⟨L.bp, 0, none⟩), .int .i64 t0] w (UntQ w L n (min t0 1152921504606846976) p) := by
  obtain ⟨T, hT⟩ : ∃ T, (if (1152921504606846976 : Int) < t0 then (1152921504606846976 : Int) else t0) = T := ⟨_, rfl⟩
  have hT2 : min t0 1152921504606846976 = T := by rw [← hT]; split <;> omega
  have hT3 : T ≤ 1152921504606846976 := by omega
  rw [hT2]
  have HI0 : Hid (UQ w L n T p [] p 65536 (.slice none 0 0) w) := ⟨⟨L, X, h, RKept.of_up hL (Up.refl _), fun r hr => by simp [Value.ownBlock] at hr⟩, hF, SO.nil _ _, rfl⟩
  have HO : Hid (∀ b, L.Own n b → b < w.heap.size) := fun b q => h.rw'.own_lt q
  have HTT : Hid (min t0 1152921504606846976 = T) := hT2
  clear h hL hF
  go_enter Try.func29, Try.ntmps29
  go_wp2_with fail
  clear hT hT2
  go_loopw [6, 9] (fun v6 _ wr => ∃ (k ln cap : Nat) (pp : Option Addr) (D : List Sl) (q : Pl), v6 = .slice pp ln cap ∧ ln + k = 65536 ∧ Hid (D.length = ln ∧ UQ w L n T p D q k (.slice pp ln cap) wr)) (fun v6 _ _ => 65536 - lenOf v6)
  case atStart => exact ⟨65536, 0, 0, none, [], p, rfl, rfl, rfl, HI0.out⟩
  case round =>
    clear HI0
    obtain ⟨k, ln, cap, pp, D, q, rfl, hk, HI⟩ := hrel
    rename World => wr
    have HN : Hid (D.length = ln) := HI.out.1
    replace HI : Hid (UQ w L n T p D q k (.slice pp ln cap) wr) := HI.out.2
    obtain ⟨L1, X1, HR1, HK1, HV1⟩ := HI.out.lay
    have HVN : Hid (∀ r, (Value.slice pp ln cap).ownBlock = some r → ¬ L1.Own n r) := HV1
    clear HV1
    have HR : Hid (RQ wr L1 n q X1) := HR1
    have HK : Hid (RKept n w wr L L1) := HK1
    have p0 := HR1.rw'.p0
    have p1 := HR1.rw'.p1
    have p9 := HR1.rw'.lt
    have fp1 := HR1.rw'.fp 1
    rw [HK1.bp] at p0 p1 p9 fp1
    have qn := HR1.pb.now
    clear HR1 HK1
    generalize hqn : q.now = now at *
    have HQ : Hid (q.now = now) := hqn
    clear hqn
    have HZ : Hid (∀ z, now ≤ z → z ≤ 1152921504606846976 → RQ (wr.setCell ⟨L.bp, 1, none⟩ (.int .i64 z)) L1 n (q.at z) X1 ∧ RKept n w (wr.setCell ⟨L.bp, 1, none⟩ (.int .i64 z)) L L1 ∧ SO w.heap.size (wr.setCell ⟨L.bp, 1, none⟩ (.int .i64 z)) (.slice pp ln cap) D) := by
      intro z hz hz2
      have h1 := HR.out.at HK.out.ok (T := z) (by rw [HQ.out]; exact hz) hz2
      have h2 := (HR.out.rw'.setA HK.out.ok z).2
      rw [HK.out.bp] at h1 h2
      refine ⟨h1, HK.out.trans h2, HI.out.own.kp (Kp.set (fun b => b ≠ L.bp) _ (fun q => q rfl) _) (fun r hr => ?_)⟩
      have h3 := (World.ownsRow.lt HI.out.own r hr).1
      have h4 := HO.out L.bp (Or.inl rfl)
      omega
    have HFW : Hid (Few n 800000 q) := HI.out.few
    by_cases c2 : ln < 65536
    · have c3 : (ln : Int) < 65536 := by omega
      obtain ⟨k, rfl⟩ : ∃ k', k = k' + 1 := ⟨k - 1, by omega⟩
      have HKN : Hid (ln + (k + 1) = 65536) := hk
      clear hk
      by_cases c1 : now < T
      · by_cases c0 : 0 < n
        · have c4 : (0 : Int) < (n : Int) := by omega
          have C42 : Hid (Calls Try.prog 42 #[.pointer (some ⟨L.bp, 0, none⟩), .int .i64 T] wr (StrB wr L1 n now X1 T)) := by
            have := t42 (lim := T) HR.out.rw' HK.out.ok c0 hn HR.out.ok (by rw [HQ.out]; omega) (by rw [HQ.out]; omega) hT3 (fun i hi => Nat.le_trans (HR.out.abs.len HFW.out i hi) (by omega))
            rw [HK.out.bp, HQ.out] at this
            exact this.mono fun _ _ h => h.b
          go_upto_region 7 with (go_at_call 42; (with_reducible refine C42.out.mono ?_); rintro e w1 ⟨L2, X2, mi, f, z, d1, d2, d3, bo, rfl, HW1, HK1, HE1, HE2⟩)
          have HU7 : Hid (Up w1 ((w1.alloc (.cells #[.int .i64 mi, .int .i64 f, .int .i64 z, .bool false] 42)).alloc (.cells #[.int .i64 d1, .int .i64 d2, .int .i64 d3] 96))) := (Up.alloc _ _).trans (Up.alloc _ _)
          have HS7 : Hid (SAt ((w1.alloc (.cells #[.int .i64 mi, .int .i64 f, .int .i64 z, .bool false] 42)).alloc (.cells #[.int .i64 d1, .int .i64 d2, .int .i64 d3] 96)) w1.heap.size ⟨mi, f, z, false⟩) := (SAt.of (s := ⟨mi, f, z, false⟩) (heap_alloc_last w1 _)).up (Up.alloc _ _)
          have HD7 : Hid (DAt ((w1.alloc (.cells #[.int .i64 mi, .int .i64 f, .int .i64 z, .bool false] 42)).alloc (.cells #[.int .i64 d1, .int .i64 d2, .int .i64 d3] 96)) (w1.heap.size + 1) ⟨d3, 0, d1, 0, d2⟩) := by
            have s1 : (w1.alloc (.cells #[.int .i64 mi, .int .i64 f, .int .i64 z, .bool false] 42)).heap.size = w1.heap.size + 1 := by simp
            have := DAt.of (j := ⟨d3, 0, d1, 0, d2⟩) (heap_alloc_last (w1.alloc (.cells #[.int .i64 mi, .int .i64 f, .int .i64 z, .bool false] 42)) (.cells #[.int .i64 d1, .int .i64 d2, .int .i64 d3] 96))
            rw [s1] at this
            exact this
          have HW7 : Hid (RW ((w1.alloc (.cells #[.int .i64 mi, .int .i64 f, .int .i64 z, .bool false] 42)).alloc (.cells #[.int .i64 d1, .int .i64 d2, .int .i64 d3] 96)) L2 n now X2) := HW1.out.up HU7.out
          have HK7 : Hid (RKept n wr ((w1.alloc (.cells #[.int .i64 mi, .int .i64 f, .int .i64 z, .bool false] 42)).alloc (.cells #[.int .i64 d1, .int .i64 d2, .int .i64 d3] 96)) L1 L2) := HK1.out.upw HU7.out
          have HNO : Hid (¬ L2.Own n w1.heap.size) := fun q => Nat.lt_irrefl _ (HW1.out.own_lt q)
          have HOS : Hid (SO w.heap.size ((w1.alloc (.cells #[.int .i64 mi, .int .i64 f, .int .i64 z, .bool false] 42)).alloc (.cells #[.int .i64 d1, .int .i64 d2, .int .i64 d3] 96)) (.slice pp ln cap) D) := (HI.out.own.kp HK1.out.kp HVN.out).up HU7.out
          have HGS : Hid (wr.heap.size ≤ w1.heap.size) := HK1.out.kp.size
          have HVN2 : Hid (∀ r, (Value.slice pp ln cap).ownBlock = some r → ¬ L2.Own n r) := fun r hr q => by
            rcases HK1.out.own r q with q2 | q2
            · exact HVN.out r hr q2
            · have := (World.ownsRow.lt HI.out.own r hr).2
              omega
          clear C42 HW1 HK1 HU7 p0 p1 p9 fp1
          generalize ((w1.alloc (.cells #[.int .i64 mi, .int .i64 f, .int .i64 z, .bool false] 42)).alloc (.cells #[.int .i64 d1, .int .i64 d2, .int .i64 d3] 96)) = W7 at *
          generalize w1.heap.size = G7 at *
          cases bo with
          | false =>
            obtain ⟨hx, hb, hl⟩ := HE1.out rfl
            have hfar := far_of (a := now) (lim := T) c0 HR.out.abs HR.out.pb (by rw [← hx]; exact hb) (by rw [← hx]; exact hl)
            have hu : untilN n T (k + 1) q = ([], q.at T) := until_far (by rw [HQ.out]; exact c1) hfar
            have HUU : Hid (untilN n T (k + 1) q = ([], q.at T)) := hu
            have HRX : Hid (RQ W7 L2 n q X2) := ⟨by rw [HQ.out]; exact HW7.out, by rw [hx, ← HQ.out]; exact relX_abs HR.out.abs _, fun i hi => by rw [hx, ← HQ.out]; exact (relX_all HR.out.ok (Int.le_refl _) (by rw [HQ.out]; omega) i hi).1, HR.out.pb⟩
            clear hx hb hl hfar hu
            have e1 : L2.bp = L.bp := HK7.out.bp.trans HK.out.bp
            have p1 := HW7.out.p1
            have p9 := HW7.out.lt
            have fp1 := HW7.out.fp 1
            rw [e1] at p1 p9 fp1
            have HB2 : Hid (L2.bp = L.bp) := e1
            clear e1
            go_wp2_with fail
            all_goals first
              | omega
              | (go_ret; (have hl := HN.out); subst hl; (have h1 := HRX.out.at HK7.out.ok (T := T) (by rw [HQ.out]; omega) hT3); (have h2 := (HW7.out.setA HK7.out.ok T).2); rw [HB2.out] at h1 h2; exact HI.out.done HUU.out (HOS.out.kp (Kp.set (fun b => b ≠ L.bp) _ (fun q => q rfl) _) (fun r hr => by
                  have h3 := (World.ownsRow.lt HOS.out r hr).1
                  have h4 := HO.out L.bp (Or.inl rfl)
                  omega)) h1 ((HK.out.trans HK7.out).trans h2) (fun i hi => HFW.out i hi))
          | true =>
            obtain ⟨m, rfl, hstr, hd1, hz⟩ := HE2.out rfl
            obtain ⟨hruns, hA2, hR2, hw2, hm, haf, hf2, hfa, hJm, hto⟩ := hstr.to HR.out.abs (by have := HR.out.ok; rw [HQ.out] at this; exact this) HQ.out (by omega) hT3
            have hzE := hz.trans (hto _)
            have hleft : (X2 m).lf = (q.J m).left := by rw [hJm, jb_left hw2]
            obtain ⟨k1, k2⟩ := HR.out.pb.left hm
            obtain ⟨k3, k4⟩ := hruns.ends HR.out.pb
            rw [hleft] at hzE
            rw [← hzE] at k3 k4
            have hfT : f < T := by omega
            obtain ⟨c, hc⟩ : ∃ c, (if T < z then T else z) = c := ⟨_, rfl⟩
            have hcm : min z T = c := by rw [← hc]; split <;> omega
            have hfc : f < c := by omega
            have hcT : c ≤ T := by omega
            have hdl : c - f ≤ (X2 m).lf := by rw [hleft]; omega
            have HR2 : Hid (Rel n X2 f) := hR2
            have HSTR : Hid (Str n q m f c) := by
              have := cut_str (tick := T) HR.out.pb hruns hfT
              rw [← hzE, hcm] at this
              exact this
            have HST : Hid (untilN n T (k + 1) q = (⟨m, f, c, decide (d1 < c)⟩ :: (untilN n T k (q.go m (c - f) c)).1, (untilN n T k (q.go m (c - f) c)).2)) := by
              have := until_step (n := n) (tick := T) (k := k) (p := q) (m := m) (f := f) (by rw [HQ.out]; exact c1) (hruns.eq HR.out.pb) hfT
              rw [← hzE, hcm, hJm, ← hd1] at this
              exact this
            have hlen2 : (X2 m).w.length ≤ 1000000 := Nat.le_trans (hA2.len HFW.out m hm) (by omega)
            have C43 : Hid (∀ W, RW W L2 n now X2 → Calls Try.prog 43 #[.pointer (some ⟨L.bp, 0, none⟩), .agg #[.int .i64 m, .int .i64 f, .int .i64 c, .bool (decide (d1 < c))]] W (RelR W L2 n c (upd X2 m (runO (X2 m) (c - f))))) := by
              intro W hW
              have := t43 hW HK7.out.ok hn hm (hR2 m hm).1 hf2 hw2 hlen2 (f := f) (c := c) (by omega) (by omega) (by omega) hdl (decide (d1 < c))
              rw [HK7.out.bp, HK.out.bp] at this
              exact this
            have HQQ : Hid (∀ W L3, RW W L3 n c (upd X2 m (runO (X2 m) (c - f))) → RQ W L3 n (q.go m (c - f) c) (upd X2 m (runO (X2 m) (c - f)))) := fun W L3 hW => ⟨hW, go_abs hA2 hR2 hm hw2 hdl, go_rel hR2 hm hw2 (by omega), HR.out.pb.go HSTR.out (by omega)⟩
            clear hruns hA2 hR2 hw2 hJm hto hstr hd1 hz hzE hleft k1 k2 k3 k4 hcm hdl hlen2
            obtain ⟨g0, g1, g2, g3, gz⟩ := HS7.out
            have gz2 := gz 2
            have gz3 := gz 3
            obtain ⟨e0, e1, e2, -⟩ := HD7.out
            have lg := HS7.out.lt
            have lg1 := HD7.out.lt
            simp only at g0 g1 g2 g3 e0
            clear gz
            go_upto_region 10 with fail
            have HW8 : Hid (RW ((W7.setCell ⟨G7, 2, none⟩ (.int .i64 c)).setCell ⟨G7, 3, none⟩ (.bool (decide (d1 < c)))) L2 n now X2) := (HW7.out.beyond HNO.out _).beyond HNO.out _
            have HS8 : Hid (SAt ((W7.setCell ⟨G7, 2, none⟩ (.int .i64 c)).setCell ⟨G7, 3, none⟩ (.bool (decide (d1 < c)))) G7 ⟨m, f, c, decide (d1 < c)⟩) := by
              refine ⟨cell_other (cell_other g0 ?_) ?_, cell_other (cell_other g1 ?_) ?_, cell_other (World.cell?_setCell_same _ _ _ g2) ?_, World.cell?_setCell_same _ _ _ (cell_other g3 ?_), fun k => by simp only [World.frozen?_setCell]; exact HS7.out.fz k⟩
              all_goals (refine Or.inr ?_; first | (show 0 ≠ 2; omega) | (show 0 ≠ 3; omega) | (show 1 ≠ 2; omega) | (show 1 ≠ 3; omega) | (show 2 ≠ 3; omega) | (show 3 ≠ 2; omega))
            have hG7 : w.heap.size ≤ G7 := Nat.le_trans HK.out.kp.size HGS.out
            have HK8 : Hid (RKept n w ((W7.setCell ⟨G7, 2, none⟩ (.int .i64 c)).setCell ⟨G7, 3, none⟩ (.bool (decide (d1 < c)))) L L2) := ((HK.out.trans HK7.out).beyond hG7 _).beyond hG7 _
            have HO8 : Hid (SO w.heap.size ((W7.setCell ⟨G7, 2, none⟩ (.int .i64 c)).setCell ⟨G7, 3, none⟩ (.bool (decide (d1 < c)))) (.slice pp ln cap) D) := HOS.out.kp (F := fun b => b ≠ G7) ((Kp.set _ _ (fun q => q rfl) _).setCell (fun q => q rfl) _) (fun r hr => by
              have := (World.ownsRow.lt HI.out.own r hr).2
              have := HGS.out
              show r ≠ G7
              omega)
            clear g0 g1 g2 g3 gz2 gz3 e0 e1 e2 lg lg1 HS7 HD7 HW7 HK7 HOS
            generalize ((W7.setCell ⟨G7, 2, none⟩ (.int .i64 c)).setCell ⟨G7, 3, none⟩ (.bool (decide (d1 < c)))) = W8 at *
            obtain ⟨g0, g1, g2, g3, -⟩ := HS8.out
            have lg := HS8.out.lt
            simp only at g0 g1 g2 g3
            go_wp2_with (first
              | (go_at_call 43; (with_reducible refine (C43.out _ HW8.out).mono ?_); rintro e w4 ⟨rfl, L3, HW4, HK4⟩; (have HS4 : Hid (SAt w4 G7 ⟨m, f, c, decide (d1 < c)⟩) := HS8.out.kp HK4.out.kp HNO.out); (have HO4 : Hid (SO w.heap.size w4 (.slice pp ln cap) D) := HO8.out.kp HK4.out.kp HVN2.out); (obtain ⟨g0, g1, g2, g3, -⟩ := HS4.out); (have lg := HS4.out.lt); simp only at g0 g1 g2 g3; (have hsz4 := Nat.le_trans HK8.out.kp.size HK4.out.kp.size))
              | (at_builtin; (with_reducible refine wpList_push (z := ⟨m, f, c, decide (d1 < c)⟩) rfl _ _ rfl pp ln cap D rfl rfl HO4.out hsz4 (by omega) ?_); intro p' c' w5 HS5 HG5 HB5))
            have hV3 : ∀ r, (Value.slice pp ln cap).ownBlock = some r → ¬ L3.Own n r := fun r hr q => by
              rcases HK4.out.own r q with q2 | q2
              · exact HVN2.out r hr q2
              · have := (World.ownsRow.lt HO8.out r hr).2
                omega
            have hrow : ∀ r, (Value.slice pp ln cap).ownBlock = some r → w.heap.size ≤ r := fun r hr => (World.ownsRow.lt HO8.out r hr).1
            have hW5 : RW w5 L3 n c (upd X2 m (runO (X2 m) (c - f))) := (HW4.out.up (Up.alloc w4 (.cells #[.int .i64 m, .int .i64 f, .int .i64 c, .bool (decide (d1 < c))] 42))).kp (Kp.grown HG5.out) (fun b hb e => hV3 b e.symm hb)
            have hK5 : RKept n w w5 L L3 := ((HK8.out.trans HK4.out).upw (Up.alloc w4 (.cells #[.int .i64 m, .int .i64 f, .int .i64 c, .bool (decide (d1 < c))] 42))).grow HG5.out hrow
            refine ⟨⟨k, ln + 1, c', p', D ++ [⟨m, f, c, decide (d1 < c)⟩], q.go m (c - f) c, rfl, by have := HKN.out; omega, ?_⟩, ?_⟩
            · refine ⟨?_, ⟨L3, _, HQQ.out _ _ hW5, hK5, fun r hr q => ?_⟩, HFW.out.go _ _ _, HS5.out, ?_⟩
              · have := HN.out
                simp only [List.length_append, List.length_cons, List.length_nil]
                omega
              · rcases HB5.out with e | e
                · exact hV3 r (e ▸ hr) q
                · have e2 : r = _ := Option.some.inj (hr.symm.trans e)
                  have h5 := HW4.out.own_lt q
                  rw [e2] at h5
                  have h6 := (Up.alloc w4 (.cells #[.int .i64 m, .int .i64 f, .int .i64 c, .bool (decide (d1 < c))] 42)).size
                  exact Nat.lt_irrefl _ (Nat.lt_of_lt_of_le h5 h6)
              · have e := HI.out.eq
                rw [HST.out] at e
                rw [e, List.append_assoc]
                rfl
            · show 65536 - (ln + 1) < 65536 - ln
              omega
        · obtain rfl : n = 0 := by omega
          have hu : untilN 0 T (k + 1) q = ([], q.at T) := until_far (by rw [HQ.out]; exact c1) (by show T ≤ farT; unfold farT; omega)
          have HUU : Hid (untilN 0 T (k + 1) q = ([], q.at T)) := hu
          clear hu
          go_wp2_with fail
          all_goals first
            | omega
            | (go_ret; obtain ⟨h1, h2, h3⟩ := HZ.out T (by omega) hT3; (have hl := HN.out); subst hl; exact HI.out.done HUU.out h3 h1 h2 (fun i hi => by omega))
      · have hu : untilN n T (k + 1) q = ([], q) := until_out (by rw [HQ.out]; exact c1)
        have HUU : Hid (untilN n T (k + 1) q = ([], q)) := hu
        clear hu
        by_cases c0 : 0 < n
        · have c4 : (0 : Int) < (n : Int) := by omega
          have c5 : T ≤ now := by omega
          go_wp2_with fail
          all_goals first
            | omega
            | (go_ret; obtain ⟨h1, h2, h3⟩ := HZ.out now (by omega) (by omega); (have hl := HN.out); subst hl; (have e1 : q.at now = q := by rw [← HQ.out]; rfl); rw [e1] at h1; exact HI.out.done HUU.out h3 h1 h2 HFW.out)
        · obtain rfl : n = 0 := by omega
          have c5 : T ≤ now := by omega
          go_wp2_with fail
          all_goals first
            | omega
            | (go_ret; obtain ⟨h1, h2, h3⟩ := HZ.out now (by omega) (by omega); (have hl := HN.out); subst hl; (have e1 : q.at now = q := by rw [← HQ.out]; rfl); rw [e1] at h1; exact HI.out.done HUU.out h3 h1 h2 HFW.out)
    · have c3 : ¬ (ln : Int) < 65536 := by omega
      obtain rfl : k = 0 := by omega
      obtain rfl : ln = 65536 := by omega
      go_wp2_with fail
      all_goals (go_ret; (have hl := HN.out); exact (by rw [← hl] at HI ⊢; exact HI.out.done rfl HI.out.own HR.out HK.out HFW.out))
end Go.Proofs.Ytjklaemhfhakhaa
