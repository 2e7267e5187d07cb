/- Match. -/
import Derived.Test.YtgalgnopjcpocaaSd
import Derived.Test.YtgalgnopjcpocaaX
namespace Go.Proofs.Ytgalgnopjcpocaa
open Go.ChangeShapes Go.WideShapes Go.ChangeAt Go.RowKit Go.Fl Ieee
attribute [local go_sem] run_store_float run_store_complex call20 call33 run_neg fold_eq fold_ne fold_lt fold_gt abs_eq

theorem RD.drop {w : World} {blk off n : Nat} {f : Nat → Nat × Nat} (h : RD w blk off n f) (d : Nat) : RD w blk (off + d) (n - d) (fun i => f (i + d)) := fun j hj => by
  have := h (j + d) (by omega)
  rw [show off + d + j = off + (j + d) by omega]; exact this
/-- What Match holds at a place: l has n samples, the pulse m. -/
def heldF (f : Nat → Nat × Nat) (n : Nat) (g : Nat → Nat × Nat) (m d : Nat) : Option Nat × Option Nat :=
  (sumN (dotR (fun i => f (i + d)) g) (min (n - d) m), sumN (dotI (fun i => f (i + d)) g) (min (n - d) m))
def HL (w : World) (L : List (Option Nat × Option Nat)) (e : Ending) (w' : World) : Prop := ∃ v d, e = .returned v ∧ Hid (CRow w.heap.size w' v d) ∧ Hid (Up w w') ∧ Hid (d.map ab2 = L)
theorem HL.pl {w w' : World} {L : List (Option Nat × Option Nat)} {v : Value} (h : HL w L (.returned v) w') : PL w L 0 (.returned (.tuple #[v, .int .i64 0])) w' := by
  obtain ⟨v', d, e, h1, h2, h3⟩ := h
  cases e
  exact ⟨_, d, rfl, h1, h2, h3⟩
end Go.Proofs.Ytgalgnopjcpocaa
