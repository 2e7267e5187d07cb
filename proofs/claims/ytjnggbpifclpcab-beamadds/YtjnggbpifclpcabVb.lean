/- Form: its closure, and the whole. -/
import Derived.Test.YtjnggbpifclpcabVa
namespace Go.Proofs.Ytjnggbpifclpcab
open Go.ChangeShapes Go.WideShapes Go.ChangeAt Go.RowKit Go.Fl Ieee
attribute [local go_sem] run_store_float run_store_complex call20 call19 run_neg fold_eq fold_ne fold_lt fold_gt abs_eq

/-- What Form tells of one place. -/
def formT (X Y : Nat → CN) (n : Nat) : CN := (sumN (fun k => mulR (X k).1 (X k).2 (Y k).1 ((Y k).2.map neg)) n, sumN (fun k => mulI (X k).1 (X k).2 (Y k).1 ((Y k).2.map neg)) n)
theorem formT_congr {X X' Y Y' : Nat → CN} {n : Nat} (h : ∀ k, k < n → X k = X' k) (h' : ∀ k, k < n → Y k = Y' k) : formT X Y n = formT X' Y' n := by
  unfold formT
  rw [sumN_congr n fun k hk => by rw [h k hk, h' k hk], sumN_congr (F := fun k => mulI (X k).1 (X k).2 (Y k).1 ((Y k).2.map neg)) n fun k hk => by rw [h k hk, h' k hk]]
/-- Form at work: the place i is next. -/
structure FmS (w0 : World) (hs : Nat) (pw : Option Addr) (cw n m bw bf G : Nat) (T : Nat → CN) (i : Nat) (wr : World) : Prop where
  up : Up w0 wr
  cw : wr.cell? ⟨bw, 0, none⟩ = some (.slice pw n cw)
  cf : wr.cell? ⟨bf, 0, none⟩ = some (.slice (some ⟨G, 0, none⟩) m m)
  row : ∃ y, XR w0.heap.size wr G m y ∧ ∀ j, j < i → y j = T j
  ne : bw ≠ G ∧ bf ≠ G
  lt : bw < hs ∧ bf < hs ∧ G < hs ∧ w0.heap.size ≤ hs
theorem FmS.far {w0 : World} {hs : Nat} {pw : Option Addr} {cw n m bw bf G : Nat} {T : Nat → CN} {i : Nat} {wr w' : World} {A : Nat} (h : FmS w0 hs pw cw n m bw bf G T i wr) (hA : hs ≤ A) (hb : But A wr w') : FmS w0 hs pw cw n m bw bf G T i w' := by
  obtain ⟨l1, l2, l3, l4⟩ := h.lt
  obtain ⟨y, hy, hy'⟩ := h.row
  exact ⟨hb.up h.up (by omega), hb.cell (by omega) h.cw, hb.cell (by omega) h.cf, ⟨y, hy.far hb (by omega), hy'⟩, h.ne, h.lt⟩
theorem FmS.next {w0 : World} {hs : Nat} {pw : Option Addr} {cw n m bw bf G : Nat} {T : Nat → CN} {i : Nat} {wr w1 : World} {y : Nat → CN} {r s : Nat} (h : FmS w0 hs pw cw n m bw bf G T i wr) (hy : XR w0.heap.size wr G m y) (hy' : ∀ j, j < i → y j = T j) (hu : Up wr w1) (hi : i < m) (hv : T i = (ab r, ab s)) : FmS w0 hs pw cw n m bw bf G T (i + 1) (w1.setCell ⟨G, i, none⟩ (.complex .f64 r s)) ∧ But G wr (w1.setCell ⟨G, i, none⟩ (.complex .f64 r s)) := by
  obtain ⟨p1, p2⟩ := (hy.up hu).put hi r s
  have hb := (But.of_up (g := G) hu).trans p2
  refine ⟨⟨p2.up (h.up.trans hu) hy.lo, hb.cell h.ne.1 h.cw, hb.cell h.ne.2 h.cf, ⟨_, p1, fun j hj => ?_⟩, h.ne, h.lt⟩, hb⟩
  by_cases e : j = i
  · subst e
    rw [if_pos rfl, hv]
  · rw [if_neg e]; exact hy' j (by omega)
set_option maxHeartbeats 4000000 in
set_option maxRecDepth 20000 in
theorem t17 {w0 wr : World} {hs : Nat} {pw : Option Addr} {cw n m bw bf G A i : Nat} {T X Y : Nat → CN} (h : FmS w0 hs pw cw n m bw bf G T i wr) (hA : XR hs wr A n X) (hW : ∃ gw ow fw, pw = some ⟨gw, ow, none⟩ ∧ RD wr gw ow n fw ∧ ∀ k, k < n → ab2 (fw k) = Y k) (hi : i < m) (hn : n ≤ 64) (hT : T i = formT X Y n) :
    Calls Try.prog 17 #[.int .i64 i, .slice (some ⟨A, 0, none⟩) n n, .pointer (some ⟨bw, 0, none⟩), .pointer (some ⟨bf, 0, none⟩)] wr (AcR (FmS w0 hs pw cw n m bw bf G T) G i wr) := by
  obtain ⟨gw, ow, fw, rfl, hRW, hY⟩ := hW
  obtain ⟨fA, hRA, hX⟩ := hA.rd
  obtain ⟨y, hy, hy'⟩ := h.row
  have HV : Hid (T i = (sumN (dotR fA fw) n, sumN (dotI fA fw) n)) := by
    show _ = _
    rw [hT, formT_congr (X' := fun k => ab2 (fA k)) (Y' := fun k => ab2 (fw k)) (fun k hk => (hX k hk).symm) (fun k hk => (hY k hk).symm)]
    rfl
  have HS : Hid (FmS w0 hs (some ⟨gw, ow, none⟩) cw n m bw bf G T i wr) := h
  have HY : Hid (XR w0.heap.size wr G m y ∧ ∀ j, j < i → y j = T j) := ⟨hy, hy'⟩
  have HR : Hid (∀ W, Up wr W → RD W A 0 n fA ∧ RD W gw ow n fw) := fun W hu => ⟨hRA.up hu, hRW.up hu⟩
  have c1 := h.cw
  have c2 := h.cf
  obtain ⟨x9, y9, c9, -, f9⟩ := hy.cell hi
  have c8 : (wr.cell? ⟨G, i, none⟩).isSome = true := by rw [c9]; rfl
  have HD : Hid (∀ W, Up wr W → Calls Try.prog 18 #[.slice (some ⟨A, 0, none⟩) n n, .slice (some ⟨gw, ow, none⟩) n cw] W (CR W (sumN (dotR fA fw) n) (sumN (dotI fA fw) n))) := fun W hu => t18 A 0 n n gw ow n cw n fA fw W (Or.inl ⟨rfl, Nat.le_refl _⟩) (hRA.up hu) (hRW.up hu) (by omega)
  have HK : Hid (∀ W, Up wr W → ∃ x7 y7, W.cell? ⟨G, i, none⟩ = some (.complex .f64 x7 y7) ∧ W.frozen? ⟨G, i, none⟩ = false) := fun W hu => by
    obtain ⟨x7, y7, c7, -, f7⟩ := (hy.up hu).cell hi
    exact ⟨x7, y7, c7, f7⟩
  have HCW : Hid (∀ W, Up wr W → W.cell? ⟨bw, 0, none⟩ = some (.slice (some ⟨gw, ow, none⟩) n cw)) := fun W hu => cell_up c1 hu
  have HCF : Hid (∀ W, Up wr W → W.cell? ⟨bf, 0, none⟩ = some (.slice (some ⟨G, 0, none⟩) m m)) := fun W hu => cell_up c2 hu
  clear h hA hRA hRW hX hY hy hy' hT c9
  have z1 : (i : Int) < (m : Int) := by omega
  have z2 : (0 : Int) ≤ (i : Int) := by omega
  go_enter Try.func17, Try.ntmps17
  go_wp2_with fail
  go_region_with ((go_at_call 18; (with_reducible refine (HD.out _ (Up.drew _)).mono ?_); rintro e w1 ⟨r, s, rfl, hr, hs', hu⟩; obtain ⟨x7, y7, k8, k9⟩ := HK.out _ ((Up.drew _).trans hu); (have k6 := HCW.out _ ((Up.drew _).trans hu)); (have k7 := HCF.out _ ((Up.drew _).trans hu))))
  all_goals
    go_end0
    have HN := HS.out.next HY.out.1 HY.out.2 ((Up.drew _).trans hu) hi (r := r) (s := s) (by rw [HV.out, hr.out, hs'.out])
    exact ⟨rfl, HN.1, HN.2⟩
theorem eg17 (args : Array Value) (w : World) : (callFunc 17 args).run Try.prog w = .ok (.enter 17 args) w := enters Try.func17 (by kernel_rfl) (by kernel_rfl) _ _
/-- What Form tells. -/
def formF (f : Nat → Nat → Nat × Nat) (fw : Nat → Nat × Nat) (n : Nat) (i : Nat) : CN := formT (fun k => ab2 (f k i)) (fun k => ab2 (fw k)) n
theorem form41 {w W : World} {p pw : Option Addr} {n c m cw bw bf G : Nat} {f : Nat → Nat → Nat × Nat} {fw : Nat → Nat × Nat} (hT : TR w p n (fun _ => m) f) (hW : RowV w pw n fw) (h1 : 1 ≤ n) (h2 : n ≤ 64) (hm : m ≤ 262144) (hS : FmS w W.heap.size pw cw n m bw bf G (formF f fw n) 0 W) (hG : w.heap.size ≤ G) :
    Calls Try.prog 16 #[.slice p n c, .func (.func 17) #[] #[.pointer (some ⟨bw, 0, none⟩), .pointer (some ⟨bf, 0, none⟩)]] W fun e w' => e = .returned (.tuple #[]) ∧ Hid (FmS w W.heap.size pw cw n m bw bf G (formF f fw n) m w') ∧ Hid (Up w w') := by
  refine t16 17 _ (FmS w W.heap.size pw cw n m bw bf G (formF f fw n)) G eg17 hT hS.up hG hS.lt.2.2.1 h1 h2 hm hS (fun i A wr w' hA hr hb => hr.far hA hb) fun i hi A wr hA hr hx => ?_
  refine t17 hr hx ?_ hi h2 (Y := fun k => ab2 (fw k)) rfl
  obtain ⟨g, o, e, hrd⟩ := (hW.up hr.up) (by omega)
  exact ⟨g, o, fw, e, hrd, fun k _ => rfl⟩
/-- What a call leaves that hands back a list of numbers and an error. -/
def LR (n : Nat) (x : Nat → CN) (c : Int) (w : World) (e : Ending) (w' : World) : Prop := ∃ g, e = .returned (.tuple #[.slice (some ⟨g, 0, none⟩) n n, .int .i64 c]) ∧ Hid (XR w.heap.size w' g n x) ∧ Hid (Up w w')
theorem fm_start {w w2 : World} {pw : Option Addr} {cw n m G : Nat} {T : Nat → CN} {y : Nat → CN} (hM : XR (w.alloc (.cells #[.slice pw n cw] 25)).heap.size w2 G m y) (hU : Up (w.alloc (.cells #[.slice pw n cw] 25)) w2) : FmS w (w2.alloc (.cells #[.slice (some ⟨G, 0, none⟩) m m] 25)).heap.size pw cw n m w.heap.size w2.heap.size G T 0 (w2.alloc (.cells #[.slice (some ⟨G, 0, none⟩) m m] 25)) := by
  have e1 : (w.alloc (.cells #[.slice pw n cw] 25)).heap.size = w.heap.size + 1 := by simp
  have e2 : (w2.alloc (.cells #[.slice (some ⟨G, 0, none⟩) m m] 25)).heap.size = w2.heap.size + 1 := by simp
  have l1 := hM.lo
  have l2 := hM.lt
  have l3 := hU.size
  rw [e1] at l1 l3
  refine ⟨((Up.alloc _ _).trans hU).trans (Up.alloc _ _), ?_, World.cell?_alloc_at _ _ _ _ rfl, ⟨y, (hM.up (Up.alloc _ _)).down (by rw [e1]; omega), fun j hj => by omega⟩, ⟨by omega, by omega⟩, ⟨by omega, by omega, by omega, by omega⟩⟩
  exact cell_up (cell_up (World.cell?_alloc_at _ _ _ _ rfl) hU) (Up.alloc _ _)
set_option maxHeartbeats 4000000 in
set_option maxRecDepth 20000 in
theorem t8 {w : World} {p pw : Option Addr} {n c m cw : Nat} {f : Nat → Nat → Nat × Nat} {fw : Nat → Nat × Nat} (hT : TR w p n (fun _ => m) f) (hW : RowV w pw n fw) (h1 : 1 ≤ n) (h2 : n ≤ 64) (hm : n * m ≤ 262144) : Calls Try.prog 8 #[.slice p n c, .slice pw n cw] w (LR m (formF f fw n) 0 w) := by
  obtain ⟨i0, hi, hz0, hz1, hz2⟩ := info_parts info41
  have hm1 : m ≤ 262144 := by
    have : 1 * m ≤ n * m := Nat.mul_le_mul_right _ h1
    omega
  have HT : Hid (TR w p n (fun _ => m) f) := hT
  have HW : Hid (RowV w pw n fw) := hW
  have H40 : Hid (Calls Try.prog 15 #[.slice p n c] (w.alloc (.cells #[.slice pw n cw] 25)) (IR 0 (w.alloc (.cells #[.slice pw n cw] 25)))) := t15 (hT.up (Up.alloc _ _)) h1 h2 hm
  obtain ⟨b, o, rfl, hr⟩ := hT (by omega)
  obtain ⟨q0, k0, c0, -, -⟩ := hr 0 (by omega)
  rw [Nat.add_zero] at c0
  have c1 : (w.alloc (.cells #[.slice pw n cw] 25)).cell? ⟨b, o, none⟩ = some (.slice q0 m k0) := cell_up c0 (Up.alloc _ _)
  have c2 : (w.alloc (.cells #[.slice pw n cw] 25)).cell? ⟨w.heap.size, 0, none⟩ = some (.slice pw n cw) := World.cell?_alloc_at _ _ _ _ rfl
  clear hT hW hr c0 hm
  have z0 : (n : Int) ≤ 64 := by omega
  have z1 : (0 : Int) < (n : Int) := by omega
  have z2 : (m : Int) ≤ 262144 := by omega
  have z3 : 0 < n := by omega
  have z4 : ((n : Int) == (n : Int)) = true := by simp
  go_enter Try.func8, Try.ntmps8
  go_wp2_with (first
    | (go_at_call 15; (with_reducible refine H40.out.mono ?_); rintro e w' ⟨rfl, hw⟩; subst w')
    | (refine wpList_make_full _ rfl _ _ 25 rfl (w.alloc (.cells #[.slice pw n cw] 25)).heap.size 26 i0 (.complex .f64 0 0) 1 Try.underlying25 hi hz0 hz1 .i64 .i64 _ _ m rfl rfl rfl rfl (by rw [hz2]; omega) (by unfold maxLen; omega) (Nat.le_refl _) ?_; intro w2 hown hgr; obtain ⟨G, hG⟩ : ∃ g, (w.alloc (.cells #[.slice pw n cw] 25)).heap.size = g := ⟨_, rfl⟩; (have HM : Hid (XR (w.alloc (.cells #[.slice pw n cw] 25)).heap.size w2 G m (fun _ => (ab 0, ab 0)) ∧ Up (w.alloc (.cells #[.slice pw n cw] 25)) w2) := ⟨XR.made ⟨hG, CRow.made hG hown hgr⟩, (CRow.made hG hown hgr).2⟩); clear hown hgr; rw [hG]; clear hG c1 c2; (have HF : Hid (FmS w (w2.alloc (.cells #[.slice (some ⟨G, 0, none⟩) m m] 25)).heap.size pw cw n m w.heap.size w2.heap.size G (formF f fw n) 0 (w2.alloc (.cells #[.slice (some ⟨G, 0, none⟩) m m] 25)) ∧ w.heap.size ≤ G) := ⟨fm_start HM.out.1 HM.out.2, by have := HM.out.1.lo; simp at this; omega⟩))
    | (go_at_call 16; (with_reducible refine (form41 HT.out HW.out h1 h2 hm1 HF.out.1 HF.out.2).mono ?_); rintro e w5 ⟨rfl, HS5, HU5⟩; (have c5 := HS5.out.cf)))
  go_ret2
  obtain ⟨y, hy, hy'⟩ := HS5.out.row
  exact ⟨G, rfl, hy.ext fun j hj => hy' j hj, HU5⟩
end Go.Proofs.Ytjnggbpifclpcab
