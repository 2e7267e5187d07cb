/- Doppler. -/
import Derived.Test.YthifemkbemhmnaaBc
namespace Go.Proofs.Ythifemkbemhmnaa
open Go.ChangeShapes Go.WideShapes Go.ChangeAt Go.RowKit Go.Fl Ieee
attribute [local go_sem] run_store_float run_store_c isSome_set call69 call32 run_neg fold_eq fold_ne fold_lt fold_gt abs_eq

def scaleF (a : Nat × Nat) (c : Nat) : C2 := (bin .mul (ab a.1) (ab c), bin .mul (ab a.2) (ab c))
set_option maxRecDepth 20000 in
theorem t61u (a b c : Nat) (w : World) : Calls Try.prog 61 #[.complex .f64 a b, .float .f64 c] w (CR w (scaleF (a, b) c).1 (scaleF (a, b) c).2) := (t61 a b c w).mono fun e w' ⟨r, i, n, he, hw, h1, h2⟩ => by
  subst he hw
  exact CR.mk h1.out h2.out (Up.drewN _ _)
/-- What Doppler tells of the gate g in the bin k. -/
def dopF (n : Nat) (f : Nat → Nat → Nat × Nat) (fw : Nat → Nat) (k g : Nat) : C2 := slowAt false n (fun p => scaleF (f p g) (fw p)) k
theorem slowAt_congr {b : Bool} {n : Nat} {F G : Nat → C2} (h : ∀ i, i < n → F i = G i) (j : Nat) : slowAt b n F j = slowAt b n G j := by
  unfold slowAt slowM
  refine Prod.ext (sumN_congr fun i hi => ?_) (sumN_congr fun i hi => ?_) <;> rw [h i hi]
/-- The cells of a slice hold these floats. -/
def FD (w : World) (blk off n : Nat) (f : Nat → Nat) : Prop := ∀ j, j < n → w.cell? ⟨blk, off + j, none⟩ = some (.float .f64 (f j))
theorem FD.up {w w' : World} {blk off n : Nat} {f : Nat → Nat} (h : FD w blk off n f) (hu : Up w w') : FD w' blk off n f := fun j hj => cell_up (h j hj) hu
/-- Doppler at work: the answer, the column, and where w stands. -/
structure DI (w wr : World) (A B T n m : Nat) (x : Value) (d dc : List (Nat × Nat)) : Prop where
  tab : BT w wr A B n m d
  neA : A ≠ T
  neB : B ≠ T
  loT : w.heap.size + 1 ≤ T
  loB : w.heap.size + 1 ≤ B
  col : CRow w.heap.size wr (.slice (some ⟨T, 0, none⟩) n n) dc
  box : wr.cell? ⟨w.heap.size, 0, none⟩ = some x
theorem DI.mono {w wr w' : World} {A B T n m : Nat} {x : Value} {d dc : List (Nat × Nat)} (h : DI w wr A B T n m x d dc) (hu : Up wr w') : DI w w' A B T n m x d dc :=
  ⟨h.tab.mono hu, h.neA, h.neB, h.loT, h.loB, h.col.up hu, cell_up h.box hu⟩
theorem DI.putT {w wr : World} {A B T n m : Nat} {x : Value} {d dc : List (Nat × Nat)} (h : DI w wr A B T n m x d dc) (k r s : Nat) : DI w (wr.setCell ⟨T, k, none⟩ (.complex .f64 r s)) A B T n m x d (dc.set k (r, s)) := by
  have lT := h.loT
  obtain ⟨h1, h2⟩ := h.col.put k r s
  exact ⟨h.tab.far h2 h.neA h.neB (by omega), h.neA, h.neB, h.loT, h.loB, h1, h2.cell (by omega) h.box⟩
theorem DI.putB {w wr : World} {A B T n m : Nat} {x : Value} {d dc : List (Nat × Nat)} (h : DI w wr A B T n m x d dc) (k r s : Nat) : DI w (wr.setCell ⟨B, k, none⟩ (.complex .f64 r s)) A B T n m x (d.set k (r, s)) dc := by
  have lB := h.loB
  obtain ⟨_, h2⟩ := h.tab.all.put k r s
  exact ⟨h.tab.put k r s, h.neA, h.neB, h.loT, h.loB, h.col.far h2 (Ne.symm h.neB), h2.cell (by omega) h.box⟩
theorem DI.start {w W w3 w4 : World} {A B T n m k : Nat} {x : Value} {d : List (Nat × Nat)} (h0 : 0 < n) (hU : Up w W) (hs : w.heap.size + 1 ≤ W.heap.size) (hx : W.cell? ⟨w.heap.size, 0, none⟩ = some x) (hB : BT (W.drewN k) w3 A B n m d) (hT : Made n T w3 w4) : DI w w4 A B T n m x d (List.replicate n (0, 0)) := by
  obtain ⟨e1, r1, u1⟩ := hT
  have hB' := hB.base (Up.drewN W k)
  have lA : A < w3.heap.size := World.block_lt_of_cell? w3 _ (hB.ans 0 h0)
  have lB : B < w3.heap.size := (World.ownsRow.lt hB.all _ rfl).2
  have l3 := hB'.up.size
  exact ⟨(hB'.base hU).mono u1, by omega, by omega, by omega, by have := hB'.loB; omega, r1.down (by have := hU.size; omega), cell_up hx (hB'.up.trans u1)⟩
theorem DI.start' {w W w3 w4 : World} {A B T n m k : Nat} {x : Value} {d : List (Nat × Nat)} (hU : Up w W) (hs : w.heap.size + 1 ≤ W.heap.size) (hx : W.cell? ⟨w.heap.size, 0, none⟩ = some x) (hT : Made n T (W.drewN k) w4) (hB : BT w4 w3 A B n m d) : DI w w3 A B T n m x d (List.replicate n (0, 0)) := by
  obtain ⟨e1, r1, u1⟩ := hT
  have e1' : W.heap.size = T := e1
  have u1' : Up W w4 := (Up.drewN W k).trans u1
  have lT : T < w4.heap.size := (World.ownsRow.lt r1 _ rfl).2
  have lA := hB.loA
  have lB := hB.loB
  have hW := hU.size
  exact ⟨hB.base (hU.trans u1'), by omega, by omega, by omega, by omega, (r1.up hB.up).down (by omega), cell_up hx (u1'.trans hB.up)⟩
theorem keepU {W w1 w2 : World} {a b : Addr} {x y : Value} {a' b' : Nat} (ha : a = ⟨a', 0, none⟩) (hb : b = ⟨b', 0, none⟩) (h : Hid (Up W w1) ∧ w1.cell? a = some x ∧ w1.cell? b = some y) (hu : Up w1 w2) : Hid (Up W w2) ∧ w2.cell? a = some x ∧ w2.cell? b = some y := by
  subst ha hb
  exact ⟨h.1.out.trans hu, cell_up h.2.1 hu, cell_up h.2.2 hu⟩
theorem kept5_up {w w' : World} {a1 a2 a3 a4 : Nat} {o1 o3 o4 : Nat} {x1 x2 x3 : Value} (h : w.cell? ⟨a1, o1, none⟩ = some x1 ∧ w.cell? ⟨a2, 0, none⟩ = some x2 ∧ w.cell? ⟨a3, o3, none⟩ = some x3 ∧ (w.cell? ⟨a4, o4, none⟩).isSome = true ∧ w.frozen? ⟨a4, o4, none⟩ = false) (hu : Up w w') :
    w'.cell? ⟨a1, o1, none⟩ = some x1 ∧ w'.cell? ⟨a2, 0, none⟩ = some x2 ∧ w'.cell? ⟨a3, o3, none⟩ = some x3 ∧ (w'.cell? ⟨a4, o4, none⟩).isSome = true ∧ w'.frozen? ⟨a4, o4, none⟩ = false := by
  obtain ⟨h1, h2, h3, h4, h5⟩ := h
  obtain ⟨v, hv⟩ := Option.isSome_iff_exists.1 h4
  refine ⟨cell_up h1 hu, cell_up h2 hu, cell_up h3 hu, by rw [cell_up hv hu]; rfl, ?_⟩
  have hb := World.block_lt_of_cell? w _ hv
  have e := hu.block _ hb
  simp only [World.frozen?] at h5 ⊢
  rw [e]; exact h5
theorem kept5_set {w : World} {a1 a2 a3 a4 : Nat} {o1 o3 o4 : Nat} {x1 x2 x3 y : Value} (n1 : a4 ≠ a1) (n2 : a4 ≠ a2) (n3 : a4 ≠ a3) (h : w.cell? ⟨a1, o1, none⟩ = some x1 ∧ w.cell? ⟨a2, 0, none⟩ = some x2 ∧ w.cell? ⟨a3, o3, none⟩ = some x3 ∧ (w.cell? ⟨a4, o4, none⟩).isSome = true ∧ w.frozen? ⟨a4, o4, none⟩ = false) :
    (w.setCell ⟨a4, o4, none⟩ y).cell? ⟨a1, o1, none⟩ = some x1 ∧ (w.setCell ⟨a4, o4, none⟩ y).cell? ⟨a2, 0, none⟩ = some x2 ∧ (w.setCell ⟨a4, o4, none⟩ y).cell? ⟨a3, o3, none⟩ = some x3 ∧ ((w.setCell ⟨a4, o4, none⟩ y).cell? ⟨a4, o4, none⟩).isSome = true ∧ (w.setCell ⟨a4, o4, none⟩ y).frozen? ⟨a4, o4, none⟩ = false := by
  obtain ⟨h1, h2, h3, h4, h5⟩ := h
  refine ⟨by rw [World.cell?_setCell_far _ _ _ _ n1]; exact h1, by rw [World.cell?_setCell_far _ _ _ _ n2]; exact h2, by rw [World.cell?_setCell_far _ _ _ _ n3]; exact h3, ?_, by simpa using h5⟩
  rw [World.cell?_setCell_same' _ _ _ h4]; rfl
/-- The column is told whole. -/
theorem col_at {w wr : World} {A B T n m : Nat} {x : Value} {d dc : List (Nat × Nat)} (h : DI w wr A B T n m x d dc) : RD wr T 0 n (fun i => dc[i]!) := fun j hj => by
  rw [Nat.zero_add]; exact h.col.cell (by rw [h.col.len]; exact hj)
/-- The bins of a column, in a row of their own. -/
def BR2 (w' : World) (S n B : Nat) (ds : List (Nat × Nat)) : Prop := RD w' S 0 n (fun i => ds[i]!) ∧ S ≠ B
theorem row_form' {b : Nat} {w' : World} {v : Value} {d : List (Nat × Nat)} {n : Nat} (h : CRow b w' v d) (hn : d.length = n) (h0 : 0 < n) : ∃ g cap, v = .slice (some ⟨g, 0, none⟩) n cap := by
  obtain ⟨p, cap, rfl, hp⟩ := own_form h
  obtain ⟨g, rfl⟩ := hp (by omega)
  exact ⟨g, cap, by rw [hn]⟩
theorem bins_of {w w1 w2 : World} {A B T n m : Nat} {x v : Value} {d dc ds : List (Nat × Nat)} {f : Nat → Nat → Nat × Nat} {fw : Nat → Nat} {g : Nat} (h0 : 0 < n) (HS : DI w w1 A B T n m x d dc) (hF : ∀ p, p < n → ab2 dc[p]! = scaleF (f p g) (fw p)) (h1 : CRow w1.heap.size w2 v ds) (h3 : ds.map ab2 = slowL false n fun i => ab2 dc[i]!) :
    ∃ S cap, v = .slice (some ⟨S, 0, none⟩) n cap ∧ BR2 w2 S n B ds ∧ ∀ k, k < n → ab2 ds[k]! = dopF n f fw k g := by
  have hl : ds.length = n := by
    have := congrArg List.length h3
    simpa [slowL] using this
  obtain ⟨S, cap, rfl⟩ := row_form' h1 hl h0
  refine ⟨S, cap, rfl, ⟨fun j hj => by rw [Nat.zero_add]; exact h1.cell (by omega), ?_⟩, fun k hk => ?_⟩
  · have l1 : w1.heap.size ≤ S := (World.ownsRow.lt h1 _ rfl).1
    have l2 : B < w1.heap.size := (World.ownsRow.lt HS.tab.all _ rfl).2
    omega
  · have e : (ds.map ab2)[k]? = ((List.range n).map (slowAt false n fun i => ab2 dc[i]!))[k]? := by rw [h3]; rfl
    rw [ab2_at (by omega), List.getElem?_map, List.getElem?_range hk] at e
    have e2 : ab2 ds[k]! = slowAt false n (fun i => ab2 dc[i]!) k := Option.some.inj e
    rw [e2]
    exact slowAt_congr hF k
end Go.Proofs.Ythifemkbemhmnaa
