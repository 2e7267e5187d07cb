/- The rows, folded. -/
import Derived.Test.YthpoipajfkfdeabA
namespace Go.Proofs.Ythpoipajfkfdeab
open Go.ChangeShapes Go.WideShapes Go.ChangeAt Go.RowKit Go.Fl
attribute [local go_sem] call43 call17 run_neg fold_eq fold_ne fold_lt fold_gt abs_eq

/-- To fold a row, from its last number down to its first. -/
def foldF : List Nat → Option Nat → Option Nat
  | [], _ => none
  | [c], _ => ab c
  | c :: r, z => bin .add (bin .mul (foldF r z) z) (ab c)

theorem foldF_last (l : List Nat) (z : Option Nat) (m : Nat) (h : l.length = m + 1) : foldF (l.drop m) z = ab (l.getD m 0) := by
  have : l.drop m = [l.getD m 0] := by
    rw [List.drop_eq_getElem_cons (by omega), List.drop_eq_nil_of_le (by omega)]
    simp [List.getD, List.getElem?_eq_getElem (show m < l.length by omega)]
  rw [this]; rfl
theorem foldF_step (l : List Nat) (z : Option Nat) (j : Nat) (h : j + 1 < l.length) : foldF (l.drop j) z = bin .add (bin .mul (foldF (l.drop (j + 1)) z) z) (ab (l.getD j 0)) := by
  rw [List.drop_eq_getElem_cons (by omega), List.drop_eq_getElem_cons h]
  simp [List.getD, List.getElem?_eq_getElem (show j < l.length by omega), foldF]

/-- 1 divided by a whole number, of an odd k turned. -/
def quotientF (k : Nat) (n : Option Nat) : Option Nat := if ((k : Int) % 2 == 1) = true then (bin .quo (ab 4607182418800017408) n).map neg else bin .quo (ab 4607182418800017408) n
/-- The product of 1 to k + 1. -/
def factorialF : Nat → Option Nat
  | 0 => ab 4607182418800017408
  | k + 1 => bin .mul (factorialF k) (ab (floatOfInt .f64 ((k : Int) + 2)))
end Go.Proofs.Ythpoipajfkfdeab
