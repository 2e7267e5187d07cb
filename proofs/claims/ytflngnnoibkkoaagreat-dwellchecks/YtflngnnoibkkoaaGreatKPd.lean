/- Whether a cell is outdone by a neighbour. -/
import Derived.Test.YtflngnnoibkkoaaGreatKUa
namespace Go.Proofs.YtflngnnoibkkoaaGreat.Pk
open Go.ChangeShapes Go.WideShapes Go.ChangeAt Go.RowKit Go.Fl Go.Sort
set_option maxRecDepth 200000
set_option maxHeartbeats 8000000
attribute [local go_sem] run_store_float run_neg fold_eq fold_ne fold_lt fold_gt abs_eq eqg57

theorem lt_of_cell {w : World} {b k : Nat} {v : Value} (h : w.cell? ⟨b, k, none⟩ = some v) : b < w.heap.size := by
  obtain ⟨c, e, fr, hb, _⟩ := cells_of_cell? h
  exact (Array.getElem?_eq_some_iff.1 hb).1
theorem frozen_up {w w' : World} {b k : Nat} (h : w.frozen? ⟨b, k, none⟩ = false) (hu : Up w w') (hb : b < w.heap.size) : w'.frozen? ⟨b, k, none⟩ = false := by
  rw [World.frozen?_of_block (RowKit.Below.block hu b hb)]; exact h
theorem Up.trans2 {w0 w w' : World} {F : Nat → Prop} (h : Up w0 w) (k : Kp F w w') (hF : ∀ k, k < w0.heap.size → F k) : Up w0 w' :=
  ((Kp.of_up (F := F) h).trans k).up hF
theorem Kp.setCell {F : Nat → Prop} (w : World) (b k : Nat) (v : Value) (hF : ¬ F b) : Kp F w (w.setCell ⟨b, k, none⟩ v) :=
  ⟨rfl, rfl, rfl, by simp, fun j hj _ => heap_setCell_other w ⟨b, k, none⟩ j _ (fun e => hF (by rw [show b = j from e.symm]; exact hj))⟩
end Go.Proofs.YtflngnnoibkkoaaGreat.Pk
/- Whether a cell is outdone: the walk. -/
namespace Go.Proofs.YtflngnnoibkkoaaGreat.Pk
open Go.ChangeShapes Go.WideShapes Go.ChangeAt Go.RowKit Go.Fl Go.Sort
set_option maxRecDepth 200000
set_option maxHeartbeats 8000000
attribute [local go_sem] run_store_float run_neg fold_eq fold_ne fold_lt fold_gt abs_eq eqg57

theorem rowN_in {b g y fr : Int} {m : Nat} {c : Int × Int} (h : c ∈ rowN b g y fr m) : ∃ k : Nat, k < m ∧ c = (y, fr + k) ∧ sameC y (fr + k) b g = false := by
  induction m with
  | zero => simp [rowN] at h
  | succ m ih =>
    unfold rowN at h
    rcases List.mem_append.1 h with h | h
    · obtain ⟨k, h1, h2, h3⟩ := ih h
      exact ⟨k, by omega, h2, h3⟩
    · by_cases q : sameC y (fr + m) b g = true
      · rw [if_pos q] at h; cases h
      · rw [if_neg q] at h
        exact ⟨m, by omega, by simpa using h, by simpa using q⟩
theorem binsN_in {f : Nat → Int} {b g fr : Int} {m n : Nat} {c : Int × Int} (h : c ∈ binsN f b g fr m n) : ∃ j k : Nat, j < n ∧ k < m ∧ c = (f j, fr + k) ∧ sameC (f j) (fr + k) b g = false := by
  induction n with
  | zero => simp [binsN] at h
  | succ n ih =>
    unfold binsN at h
    rcases List.mem_append.1 h with h | h
    · obtain ⟨j, k, h1, h2, h3⟩ := ih h
      exact ⟨j, k, by omega, h2, h3⟩
    · obtain ⟨k, h1, h2, h3⟩ := rowN_in h
      exact ⟨n, k, by omega, h1, h2, h3⟩
theorem binA_in {bins b : Int} (b0 : 0 ≤ b) (b1 : b < bins) (j : Nat) : 0 ≤ binA bins b j ∧ binA bins b j < bins := by
  unfold binA belowB aboveB
  split
  · omega
  · split <;> split <;> omega
theorem nbL_in {bins last b g : Int} (b0 : 0 ≤ b) (b1 : b < bins) (g1 : g ≤ last) {c : Int × Int} (h : c ∈ nbL bins last b g) : 0 ≤ c.1 ∧ c.1 < bins ∧ 0 ≤ c.2 ∧ c.2 ≤ last := by
  obtain ⟨j, k, h1, h2, rfl, h3⟩ := binsN_in h
  have := binA_in b0 b1 j
  refine ⟨this.1, this.2, ?_, ?_⟩ <;> simp only [frG, toG] at * <;> omega
theorem three_boxes (w : World) (A B C : Array Value) (s t u : TypeId) : let W := ((w.alloc (.cells A s)).alloc (.cells B t)).alloc (.cells C u)
    (∀ k, W.cell? ⟨w.heap.size, k, none⟩ = A[k]?) ∧ (∀ k, W.cell? ⟨w.heap.size + 1, k, none⟩ = B[k]?) ∧ (∀ k, W.cell? ⟨w.heap.size + 1 + 1, k, none⟩ = C[k]?) ∧ W.heap.size = w.heap.size + 1 + 1 + 1 := by
  intro W
  have h1 : W.heap[w.heap.size]? = some (.cells A s (0, 0)) := by
    show (World.alloc _ _).heap[_]? = _
    rw [RowKit.Below.block (Up.alloc ((w.alloc (.cells A s)).alloc (.cells B t)) (.cells C u)) _ (by simp; omega)]; exact (two_boxes w A B s t).1
  have h2 : W.heap[w.heap.size + 1]? = some (.cells B t (0, 0)) := mid_three _ _ _ _
  have h3 : W.heap[w.heap.size + 1 + 1]? = some (.cells C u (0, 0)) := by
    have := heap_alloc_last ((w.alloc (.cells A s)).alloc (.cells B t)) (.cells C u)
    rw [show ((w.alloc (.cells A s)).alloc (.cells B t)).heap.size = w.heap.size + 1 + 1 by simp] at this
    exact this
  exact ⟨fun k => cell_of_row _ _ _ _ _ _ h1, fun k => cell_of_row _ _ _ _ _ _ h2, fun k => cell_of_row _ _ _ _ _ _ h3, by simp [W]⟩
theorem frozen_of_row {w : World} {g k : Nat} {c : Array Value} {t : TypeId} (h : w.heap[g]? = some (.cells c t (0, 0))) : w.frozen? ⟨g, k, none⟩ = false := by
  simp [World.frozen?, h]
end Go.Proofs.YtflngnnoibkkoaaGreat.Pk
