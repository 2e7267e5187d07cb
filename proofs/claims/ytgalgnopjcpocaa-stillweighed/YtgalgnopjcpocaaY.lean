/- Near. -/
import Derived.Test.YtgalgnopjcpocaaX
namespace Go.Proofs.Ytgalgnopjcpocaa
open Go.ChangeShapes Go.WideShapes Go.ChangeAt Go.RowKit Go.Fl Ieee
attribute [local go_sem] run_store_float run_store_complex call20 call33 run_neg fold_eq fold_ne fold_lt fold_gt abs_eq

/-- The greatest of the next m numbers, from k on, and of one; one that is no number ends it. -/
def nearG (D : Nat → Option Nat) : Nat → Nat → Option Nat → Option Nat
  | 0, _, most => most
  | m + 1, k, most => if nanF (D k) then D k else nearG D m (k + 1) (if gtF (D k) most then D k else most)
/-- How far two numbers are apart. -/
def offF (a b : Nat × Nat) : Option Nat := absF (bin .sub (ab a.1) (ab b.1)) (bin .sub (ab a.2) (ab b.2))
theorem nearG_step {D : Nat → Option Nat} {n k : Nat} {m r : Option Nat} (hk : k < n) (hr : r = D k) : nearG D (n - k) k m = if nanF r then r else nearG D (n - (k + 1)) (k + 1) (if gtF r m then r else m) := by
  rw [show n - k = (n - (k + 1)) + 1 by omega, nearG, hr]
end Go.Proofs.Ytgalgnopjcpocaa
