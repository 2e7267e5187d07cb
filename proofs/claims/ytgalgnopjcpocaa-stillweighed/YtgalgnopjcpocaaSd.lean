/- The product of two rows. -/
import Derived.Test.YtgalgnopjcpocaaS
import Derived.Deep.RegionWith
namespace Go.Proofs.Ytgalgnopjcpocaa
open Go.ChangeShapes Go.WideShapes Go.ChangeAt Go.RowKit Go.Fl Ieee
attribute [local go_sem] run_store_float run_store_complex call20 call33 run_neg fold_eq fold_ne fold_lt fold_gt abs_eq

def dotR (f g : Nat → Nat × Nat) (i : Nat) : Option Nat := mulR (ab (f i).1) (ab (f i).2) (ab (g i).1) ((ab (g i).2).map neg)
def dotI (f g : Nat → Nat × Nat) (i : Nat) : Option Nat := mulI (ab (f i).1) (ab (f i).2) (ab (g i).1) ((ab (g i).2).map neg)
theorem two_boxes (w : World) (u v : Value) (s t : TypeId) (k : Nat) : (((w.alloc (.cells #[u] s)).alloc (.cells #[v] t)).drewN k).cell? ⟨w.heap.size, 0, none⟩ = some u ∧ (((w.alloc (.cells #[u] s)).alloc (.cells #[v] t)).drewN k).cell? ⟨w.heap.size + 1, 0, none⟩ = some v := by
  constructor
  · have h : ((w.alloc (.cells #[u] s)).alloc (.cells #[v] t)).heap[w.heap.size]? = some (.cells #[u] s) := by
      rw [Below.heap_alloc (w.alloc (.cells #[u] s)) _ w.heap.size (by simp)]; exact heap_alloc_last _ _
    show ((w.alloc (.cells #[u] s)).alloc (.cells #[v] t)).cell? _ = _
    rw [cell_of_row _ _ _ _ _ _ h]; rfl
  · have h : ((w.alloc (.cells #[u] s)).alloc (.cells #[v] t)).heap[w.heap.size + 1]? = some (.cells #[v] t) := by
      have := heap_alloc_last (w.alloc (.cells #[u] s)) (.cells #[v] t)
      simpa using this
    show ((w.alloc (.cells #[u] s)).alloc (.cells #[v] t)).cell? _ = _
    rw [cell_of_row _ _ _ _ _ _ h]; rfl
theorem up2 (w : World) (o1 o2 : Obj) (k : Nat) : Up w (((w.alloc o1).alloc o2).drewN k) := ((Up.alloc _ _).trans (Up.alloc _ _)).trans (Up.drewN _ _)
end Go.Proofs.Ytgalgnopjcpocaa
