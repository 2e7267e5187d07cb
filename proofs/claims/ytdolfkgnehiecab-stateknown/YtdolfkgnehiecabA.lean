/- The leaves: what stands in for math's own functions, and the small functions that call them. -/
import Derived.Test.YtdolfkgnehiecabRows
import Derived.Test.YtdolfkgnehiecabFl
import Derived.OpenShut
namespace Go.Proofs.Ytdolfkgnehiecab
open Go.ChangeShapes Go.WideShapes Go.ChangeAt Go.RowKit Go.Fl

theorem call20 (x : Nat) (w : World) : (callFunc 20 #[.float .f64 x]).run Try.prog w = .ok (.value (.int .u64 x)) w := by
  rw [run_callFunc_extern Try.func20 (by kernel_rfl) (by kernel_rfl) (by kernel_rfl) (e := Extern.MathFloatBits.float64bits) (by kernel_rfl)]; rfl
theorem call12 (x : Int) (w : World) : (callFunc 12 #[.int .u64 x]).run Try.prog w = .ok (.value (.float .f64 x.toNat)) w := by
  rw [run_callFunc_extern Try.func12 (by kernel_rfl) (by kernel_rfl) (by kernel_rfl) (e := Extern.MathFloatBits.float64frombits) (by kernel_rfl)]; rfl
attribute [local go_sem] call20 call12 run_neg fold_eq fold_ne fold_lt fold_gt abs_eq

theorem t6 (w : World) : Calls Try.prog 6 #[] w fun e w' => e = .returned (.float .f64 9221120237041090561) ∧ w' = w := by
  go_enter Try.func6, Try.ntmps6
  go_wp2
  go_ret
  exact ⟨rfl, rfl⟩
theorem t19 (x : Nat) (w : World) : Calls Try.prog 19 #[.float .f64 x] w fun e w' => e = .returned (.float .f64 (abs x)) ∧ w' = w := by
  go_enter Try.func19, Try.ntmps19
  go_wp2
  go_ret
  exact ⟨rfl, rfl⟩
theorem t17 (x : Nat) (w : World) : Calls Try.prog 17 #[.float .f64 x] w fun e w' => e = .returned (.bool (!eqF (ab x) (ab x))) ∧ w' = w := by
  go_enter Try.func17, Try.ntmps17
  go_wp2
  go_ret
  exact ⟨rfl, rfl⟩
theorem t18 (x : Nat) (w : World) : Calls Try.prog 18 #[.float .f64 x, .int .i64 0] w fun e w' => e = .returned (.bool (gtF ((ab x).map abs) (ab 9218868437227405311))) ∧ w' = w := by
  go_enter Try.func18, Try.ntmps18
  go_wp2_with (go_at_call 19; refine (t19 _ _).mono ?_; rintro e w' ⟨rfl, rfl⟩)
  go_ret
  exact ⟨by rw [← ab_abs]; rfl, rfl⟩
def wholeF (x : Option Nat) : Option Nat := if ltF x (ab 0) then ((x.map neg).map floor).map neg else x.map floor
def wrapF (x : Option Nat) : Option Nat :=
  if fin x then
    let r := bin .sub x (wholeF x)
    if gtF r (ab 4602678819172646912) || eqF r (ab 4602678819172646912) then bin .sub r (ab 4607182418800017408)
    else if ltF r (ab 13826050856027422720) then bin .add r (ab 4607182418800017408) else r
  else none
end Go.Proofs.Ytdolfkgnehiecab
