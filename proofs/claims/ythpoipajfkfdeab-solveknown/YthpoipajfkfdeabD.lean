/- The points of the circle. -/
import Derived.Test.YthpoipajfkfdeabC
import Derived.Deep.WholeRow
import Derived.Laws.CopyOwn
import Derived.Deep.RegionWith
namespace Go.Proofs.Ythpoipajfkfdeab
open Go.ChangeShapes Go.WideShapes Go.ChangeAt Go.RowKit Go.Fl
attribute [local go_sem] run_store_float run_store_complex call43 call17 run_neg fold_eq fold_ne fold_lt fold_gt abs_eq

def cleanF (x : Option Nat) : Option Nat := if eqF x (ab 0) then ab 0 else x
theorem t24 (x y : Nat) (w : World) : Calls Try.prog 24 #[.complex .f64 x y] w fun e w' => e = .returned (.complex .f64 x (neg y)) ∧ w' = w := by
  go_enter Try.func24, Try.ntmps24
  go_wp2
  go_ret
  exact ⟨rfl, rfl⟩
theorem alloc2_one (w : World) (o1 o2 : Obj) : ((w.alloc o1).alloc o2).heap[w.heap.size]? = some o1 := by
  rw [Below.heap_alloc (w.alloc o1) o2 w.heap.size (by simp)]; exact heap_alloc_last _ _
theorem alloc2_two (w : World) (o1 o2 : Obj) (d : Array Value) : (((w.alloc o1).alloc o2).setRow w.heap.size d).heap[w.heap.size + 1]? = some o2 := by
  rw [setRow_other _ _ _ _ (by omega)]
  have := heap_alloc_last (w.alloc o1) o2
  simpa using this
theorem two_rows (w0 w : World) (c1 c2 d1 d2 : Array Value) (t : TypeId) (hb : Below w0.heap.size w0 w) :
    ∃ W, (((w.alloc (.cells c1 t)).alloc (.cells c2 t)).setRow w.heap.size d1).setRow (w.heap.size + 1) d2 = W ∧ W.heap[w.heap.size]? = some (.cells d1 t (0, 0)) ∧ W.heap[w.heap.size + 1]? = some (.cells d2 t (0, 0)) ∧ Below w0.heap.size w0 W := by
  have hs := hb.size
  refine ⟨_, rfl, ?_, ?_, ?_⟩
  · rw [setRow_other _ _ _ _ (by omega)]; exact setRow_heap _ _ _ _ _ _ (alloc2_one _ _ _)
  · exact setRow_heap _ _ _ _ _ _ (alloc2_two _ _ _ _)
  · exact below_setRow (below_setRow ((hb.alloc hs _).alloc (by simp; omega) _) hs _) (by omega) _
theorem row_cells {w : World} {g : Nat} {L : List Nat} {t : TypeId} (h : w.heap[g]? = some (.cells (L.map (Value.float .f64)).toArray t (0, 0))) : ∀ i, i < L.length → w.cell? ⟨g, 0 + i, none⟩ = some (.float .f64 (L.getD i 0)) := by
  intro i hi
  rw [cell_of_row _ _ _ _ _ _ h]
  simp [List.getD, List.getElem?_eq_getElem hi]

/-- The cosine and the sine of at most an eighth of a turn. -/
def eastC (x : Option Nat) : Option Nat := if eqF x (ab 4593671619917905920) then ab 4604544271217802189 else
  let y := bin .mul x (ab 4618760256179416344)
  foldF cosineL (bin .mul y y)
def eastS (x : Option Nat) : Option Nat := if eqF x (ab 4593671619917905920) then ab 4604544271217802189 else
  let y := bin .mul x (ab 4618760256179416344)
  bin .mul (foldF sineL (bin .mul y y)) y
theorem below_two {w w1 w2 : World} {n : Nat} (h1 : Below w.heap.size (w.drewN n) w1) (h2 : Below w1.heap.size w1 w2) : Below w.heap.size w w2 :=
  ((below_drewN (Below.refl _ _) n).trans h1).trans (h2.mono (by have := h1.size; simpa using this))
end Go.Proofs.Ythpoipajfkfdeab
