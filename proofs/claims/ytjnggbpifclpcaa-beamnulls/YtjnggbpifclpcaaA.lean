/- The leaves: what stands in for math's own functions, and the small functions that call them. -/
import Derived.Test.YtjnggbpifclpcaaRows
import Derived.Test.YtjnggbpifclpcaaFl
import Derived.OpenShut
namespace Go.Proofs.Ytjnggbpifclpcaa
open Go.ChangeShapes Go.WideShapes Go.ChangeAt Go.RowKit Go.Fl

theorem call34 (x : Nat) (w : World) : (callFunc 34 #[.float .f64 x]).run Try.prog w = .ok (.value (.int .u64 x)) w := by
  rw [run_callFunc_extern Try.func34 (by kernel_rfl) (by kernel_rfl) (by kernel_rfl) (e := Extern.MathFloatBits.float64bits) (by kernel_rfl)]; rfl
theorem call33 (x : Int) (w : World) : (callFunc 33 #[.int .u64 x]).run Try.prog w = .ok (.value (.float .f64 x.toNat)) w := by
  rw [run_callFunc_extern Try.func33 (by kernel_rfl) (by kernel_rfl) (by kernel_rfl) (e := Extern.MathFloatBits.float64frombits) (by kernel_rfl)]; rfl
theorem upon82 {o : Oper} {a : Act} {next : Act → World → Prop} {Q : Exit → Act → World → Prop} {x : Nat} {w : World}
    (hk : ∀ r n, Hid (ab r = (ab x).map floor) → o.upon Try.prog a next Q (.ok (.value (.float .f64 r)) (w.drewN n))) :
    o.upon Try.prog a next Q ((callFunc 82 #[.float .f64 x]).run Try.prog w) := by
  rw [run_callFunc_extern Try.func82 (by kernel_rfl) (by kernel_rfl) (by kernel_rfl) (e := Extern.MathFloor.toIntegral "math.archFloor" .down) (by kernel_rfl)]
  obtain ⟨r, n, e, hr⟩ := run_floor (P := Try.prog) "math.archFloor" x w
  rw [e]
  exact hk r n hr
attribute [local go_sem] call34 call33 run_neg fold_eq fold_ne fold_lt fold_gt abs_eq

theorem t38 (w : World) : Calls Try.prog 38 #[] w fun e w' => e = .returned (.float .f64 9221120237041090561) ∧ w' = w := by
  go_enter Try.func38, Try.ntmps38
  go_wp2
  go_ret
  exact ⟨rfl, rfl⟩
theorem t14 (x : Nat) (w : World) : Calls Try.prog 14 #[.float .f64 x] w fun e w' => e = .returned (.float .f64 (abs x)) ∧ w' = w := by
  go_enter Try.func14, Try.ntmps14
  go_wp2
  go_ret
  exact ⟨rfl, rfl⟩
theorem t67 (x : Nat) (w : World) :
    Calls Try.prog 67 #[.float .f64 x] w (FR w ((ab x).map floor)) := by
  go_enter Try.func67, Try.ntmps67
  go_wp2_with (refine upon82 ?_; intro r n hr)
  go_ret
  exact ⟨_, _, rfl, rfl, hr⟩
theorem t45 (x : Nat) (w : World) : Calls Try.prog 45 #[.float .f64 x] w fun e w' => e = .returned (.bool (!eqF (ab x) (ab x))) ∧ w' = w := by
  go_enter Try.func45, Try.ntmps45
  go_wp2
  go_ret
  exact ⟨rfl, rfl⟩
theorem t49 (x : Nat) (w : World) : Calls Try.prog 49 #[.float .f64 x, .int .i64 0] w fun e w' => e = .returned (.bool (gtF ((ab x).map abs) (ab 9218868437227405311))) ∧ w' = w := by
  go_enter Try.func49, Try.ntmps49
  go_wp2_with (go_at_call 14; refine (t14 _ _).mono ?_; rintro e w' ⟨rfl, rfl⟩)
  go_ret
  exact ⟨by rw [← ab_abs]; rfl, rfl⟩
theorem t50 (x : Nat) (w : World) : Calls Try.prog 50 #[.float .f64 x] w fun e w' => e = .returned (.bool (fin (ab x))) ∧ w' = w := by
  go_enter Try.func50, Try.ntmps50
  go_wp2_with (first | (go_at_call 45; refine (t45 _ _).mono ?_; rintro e w' ⟨rfl, rfl⟩) | (go_at_call 49; refine (t49 _ _).mono ?_; rintro e w' ⟨rfl, rfl⟩))
  all_goals (go_ret; go_tidy; simp_all [fin])
def wholeF (x : Option Nat) : Option Nat := if ltF x (ab 0) then ((x.map neg).map floor).map neg else x.map floor
theorem t70 (x : Nat) (w : World) :
    Calls Try.prog 70 #[.float .f64 x] w (FR w (wholeF (ab x))) := by
  go_enter Try.func70, Try.ntmps70
  go_wp2_with (go_at_call 67; refine (t67 _ _).mono ?_; rintro e w' ⟨r, n, rfl, rfl, hr⟩)
  all_goals (go_ret; go_tidy; refine FR.mkN ?_; simp_all [wholeF, ab_neg, Hid])
def wrapF (x : Option Nat) : Option Nat :=
  if fin x then
    let r := bin .sub x (wholeF x)
    if gtF r (ab 4602678819172646912) || eqF r (ab 4602678819172646912) then bin .sub r (ab 4607182418800017408)
    else if ltF r (ab 13826050856027422720) then bin .add r (ab 4607182418800017408) else r
  else none
theorem t51 (x : Nat) (w : World) :
    Calls Try.prog 51 #[.float .f64 x] w (FR w (wrapF (ab x))) := by
  go_enter Try.func51, Try.ntmps51
  go_wp2_with (first
    | (refine upon_fl (by simp) ?_; intro r n hr)
    | (go_at_call 50; refine (t50 _ _).mono ?_; rintro e w' ⟨rfl, rfl⟩)
    | (go_at_call 38; refine (t38 _).mono ?_; rintro e w' ⟨rfl, rfl⟩)
    | (go_at_call 70; refine (t70 _ _).mono ?_; rintro e w' ⟨r, n, rfl, rfl, hr⟩))
  all_goals (go_ret; go_tidy; first | refine FR.mkN ?_ | refine FR.mk0 ?_)
  all_goals simp_all [wrapF, Hid]
  rfl
end Go.Proofs.Ytjnggbpifclpcaa
