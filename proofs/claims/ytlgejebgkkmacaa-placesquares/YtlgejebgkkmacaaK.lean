/- A row that is filled in its order. -/
import Derived.Test.YtlgejebgkkmacaaH
import Derived.OwnWalk
namespace Go.Proofs.Ytlgejebgkkmacaa
open Go.ChangeShapes Go.WideShapes Go.ChangeAt Go.RowKit Go.Fl Ieee
attribute [local go_sem] run_store_float run_store_complex call39 call50 run_neg fold_eq fold_ne fold_lt fold_gt abs_eq

/-- A row that is being filled. -/
structure Fill (w0 w : World) (g n : Nat) (F : Nat → Option Nat × Option Nat) (k : Nat) : Prop where
  row : ∃ d : List (Nat × Nat), d.length = n ∧ CRow w0.heap.size w (.slice (some ⟨g, 0, none⟩) n n) d ∧ ∀ j, j < k → ab2 d[j]! = F j
  below : Up w0 w
theorem Fill.new {w w' : World} {n : Nat} (F : Nat → Option Nat × Option Nat) (h : w'.ownsRow w.heap.size 49 1 (.slice (some ⟨w.heap.size, 0, none⟩) n n) n (madeCells (Value.complex .f64 0 0).cells (n * 1)).toList) (hg : w.grownBy w' none) : Fill w w' w.heap.size n F 0 := by
  refine ⟨⟨List.replicate n (0, 0), by simp, ?_, fun j hj => by omega⟩, Below.grown (Below.refl _ _) hg (Nat.le_refl _) (fun j hj => by cases hj)⟩
  unfold CRow
  have e : (madeCells (Value.complex .f64 0 0).cells (n * 1)).toList = List.replicate n (.complex .f64 0 0) := by
    rw [Nat.mul_one]; exact toList_madeCells_one _ _
  rw [e] at h
  simpa [ce] using h
theorem Fill.up {w0 w w' : World} {g n k : Nat} {F : Nat → Option Nat × Option Nat} (h : Fill w0 w g n F k) (hu : Up w w') : Fill w0 w' g n F k := by
  obtain ⟨⟨d, h1, h2, h3⟩, h4⟩ := h
  exact ⟨⟨d, h1, h2.up hu, h3⟩, h4.trans hu⟩
theorem Fill.cell {w0 w : World} {g n k : Nat} {F : Nat → Option Nat × Option Nat} (h : Fill w0 w g n F k) {i : Nat} (hi : i < n) : (∃ x y, w.cell? ⟨g, i, none⟩ = some (.complex .f64 x y)) ∧ w.frozen? ⟨g, i, none⟩ = false := by
  obtain ⟨⟨d, rfl, h2, h3⟩, h4⟩ := h
  exact ⟨⟨_, _, h2.cell hi⟩, World.ownsRow.frozenAt h2 i⟩
theorem Fill.stored {w0 w : World} {g n k r s : Nat} {F : Nat → Option Nat × Option Nat} (h : Fill w0 w g n F k) (hk : k < n) (hr : ab r = (F k).1) (hs : ab s = (F k).2) : Fill w0 (w.setCell ⟨g, k, none⟩ (.complex .f64 r s)) g n F (k + 1) := by
  obtain ⟨⟨d, rfl, h2, h3⟩, h4⟩ := h
  obtain ⟨s1, s2⟩ := World.ownsRow.stored h2 k (.complex .f64 r s)
  refine ⟨⟨d.set k (r, s), by simp, ?_, ?_⟩, Below.grown h4 s2 h4.size (fun j hj => (World.ownsRow.lt h2 j (by simpa [Value.ownBlock] using hj)).1)⟩
  · unfold CRow
    rw [List.length_set, List.map_set]
    exact s1
  · intro j hj
    rw [getElem!_pos _ j (by simp; omega), List.getElem_set]
    split
    · rename_i e; subst e; exact Prod.ext hr hs
    · rw [← getElem!_pos d j (by omega)]; exact h3 j (by omega)
theorem Fill.done {w0 w : World} {g n : Nat} {F : Nat → Option Nat × Option Nat} (h : Fill w0 w g n F n) : ∃ d, CRow w0.heap.size w (.slice (some ⟨g, 0, none⟩) n n) d ∧ d.map ab2 = (List.range n).map F := by
  obtain ⟨⟨d, rfl, h2, h3⟩, h4⟩ := h
  refine ⟨d, h2, List.ext_getElem (by simp) fun i hi _ => ?_⟩
  have hi' : i < d.length := by simpa using hi
  have := h3 i hi'
  rw [getElem!_pos d i hi'] at this
  simpa using this
theorem Fill.pl {w0 w : World} {g n : Nat} {F : Nat → Option Nat × Option Nat} (h : Fill w0 w g n F n) {L : List (Option Nat × Option Nat)} (hL : L = (List.range n).map F) : PL w0 L 0 (.returned (.tuple #[.slice (some ⟨g, 0, none⟩) n n, .int .i64 0])) w := by
  obtain ⟨d, h1, h2⟩ := h.done
  exact ⟨_, d, rfl, h1, h.below, h2.trans hL.symm⟩
theorem PL.none (w : World) (c : Int) : PL w [] c (.returned (.tuple #[.slice none 0 0, .int .i64 c])) w := ⟨_, [], rfl, World.ownsRow_nil _ _ _ _, Up.refl _, rfl⟩

theorem t40k {x : Nat} {b : Bool} (h : eqF (ab x) (ab x) = !b) (w : World) : Calls Try.prog 40 #[.float .f64 x] w fun e w' => e = .returned (.bool b) ∧ w' = w := by
  have := t40 x w
  rw [h, Bool.not_not] at this; exact this
theorem t41k {x : Nat} {b : Bool} (h : gtF ((ab x).map abs) (ab 9218868437227405311) = b) (w : World) : Calls Try.prog 41 #[.float .f64 x, .int .i64 0] w fun e w' => e = .returned (.bool b) ∧ w' = w := by
  rw [← h]; exact t41 x w
end Go.Proofs.Ytlgejebgkkmacaa
