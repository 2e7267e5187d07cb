/- The leaves: what stands in for math's own functions, and the small functions that call them. -/
import Derived.Test.YtijfmaepoamkgabRows
import Derived.Test.YtijfmaepoamkgabFl
import Derived.OpenShut
namespace Go.Proofs.Ytijfmaepoamkgab.Gt
open Go.ChangeShapes Go.WideShapes Go.ChangeAt Go.RowKit Go.Fl

theorem call18 (x : Nat) (w : World) : (callFunc 18 #[.float .f64 x]).run Try.prog w = .ok (.value (.int .u64 x)) w := by
  rw [run_callFunc_extern Try.func18 (by kernel_rfl) (by kernel_rfl) (by kernel_rfl) (e := Extern.MathFloatBits.float64bits) (by kernel_rfl)]; rfl
theorem call17 (x : Int) (w : World) : (callFunc 17 #[.int .u64 x]).run Try.prog w = .ok (.value (.float .f64 x.toNat)) w := by
  rw [run_callFunc_extern Try.func17 (by kernel_rfl) (by kernel_rfl) (by kernel_rfl) (e := Extern.MathFloatBits.float64frombits) (by kernel_rfl)]; rfl
attribute [local go_sem] call18 call17 run_neg fold_eq fold_ne fold_lt fold_gt abs_eq

theorem t6 (x : Nat) (w : World) : Calls Try.prog 6 #[.float .f64 x] w fun e w' => e = .returned (.float .f64 (abs x)) ∧ w' = w := by
  go_enter Try.func6, Try.ntmps6
  go_wp2
  go_ret
  exact ⟨rfl, rfl⟩
theorem t49 (x : Nat) (w : World) : Calls Try.prog 49 #[.float .f64 x] w fun e w' => e = .returned (.bool (!eqF (ab x) (ab x))) ∧ w' = w := by
  go_enter Try.func49, Try.ntmps49
  go_wp2
  go_ret
  exact ⟨rfl, rfl⟩
theorem t50 (x : Nat) (w : World) : Calls Try.prog 50 #[.float .f64 x, .int .i64 0] w fun e w' => e = .returned (.bool (gtF ((ab x).map abs) (ab 9218868437227405311))) ∧ w' = w := by
  go_enter Try.func50, Try.ntmps50
  go_wp2_with (go_at_call 6; refine (t6 _ _).mono ?_; rintro e w' ⟨rfl, rfl⟩)
  go_ret
  exact ⟨by rw [← ab_abs]; rfl, rfl⟩
def wholeF (x : Option Nat) : Option Nat := if ltF x (ab 0) then ((x.map neg).map floor).map neg else x.map floor
def wrapF (x : Option Nat) : Option Nat :=
  if fin x then
    let r := bin .sub x (wholeF x)
    if gtF r (ab 4602678819172646912) || eqF r (ab 4602678819172646912) then bin .sub r (ab 4607182418800017408)
    else if ltF r (ab 13826050856027422720) then bin .add r (ab 4607182418800017408) else r
  else none
end Go.Proofs.Ytijfmaepoamkgab.Gt
