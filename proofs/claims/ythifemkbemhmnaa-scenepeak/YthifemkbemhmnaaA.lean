/- The leaves: what stands in for math's own functions, and the small functions that call them. -/
import Derived.Test.YthifemkbemhmnaaRows
import Derived.Test.YthifemkbemhmnaaFl
import Derived.OpenShut
namespace Go.Proofs.Ythifemkbemhmnaa
open Go.ChangeShapes Go.WideShapes Go.ChangeAt Go.RowKit Go.Fl

theorem call69 (x : Nat) (w : World) : (callFunc 69 #[.float .f64 x]).run Try.prog w = .ok (.value (.int .u64 x)) w := by
  rw [run_callFunc_extern Try.func69 (by kernel_rfl) (by kernel_rfl) (by kernel_rfl) (e := Extern.MathFloatBits.float64bits) (by kernel_rfl)]; rfl
theorem call32 (x : Int) (w : World) : (callFunc 32 #[.int .u64 x]).run Try.prog w = .ok (.value (.float .f64 x.toNat)) w := by
  rw [run_callFunc_extern Try.func32 (by kernel_rfl) (by kernel_rfl) (by kernel_rfl) (e := Extern.MathFloatBits.float64frombits) (by kernel_rfl)]; rfl
theorem upon71 {o : Oper} {a : Act} {next : Act → World → Prop} {Q : Exit → Act → World → Prop} {x : Nat} {w : World}
    (hk : ∀ r n, Hid (ab r = (ab x).map floor) → o.upon Try.prog a next Q (.ok (.value (.float .f64 r)) (w.drewN n))) :
    o.upon Try.prog a next Q ((callFunc 71 #[.float .f64 x]).run Try.prog w) := by
  rw [run_callFunc_extern Try.func71 (by kernel_rfl) (by kernel_rfl) (by kernel_rfl) (e := Extern.MathFloor.toIntegral "math.archFloor" .down) (by kernel_rfl)]
  obtain ⟨r, n, e, hr⟩ := run_floor (P := Try.prog) "math.archFloor" x w
  rw [e]
  exact hk r n hr
attribute [local go_sem] call69 call32 run_neg fold_eq fold_ne fold_lt fold_gt abs_eq

theorem t14 (w : World) : Calls Try.prog 14 #[] w fun e w' => e = .returned (.float .f64 9221120237041090561) ∧ w' = w := by
  go_enter Try.func14, Try.ntmps14
  go_wp2
  go_ret
  exact ⟨rfl, rfl⟩
theorem t75 (x : Nat) (w : World) : Calls Try.prog 75 #[.float .f64 x] w fun e w' => e = .returned (.float .f64 (abs x)) ∧ w' = w := by
  go_enter Try.func75, Try.ntmps75
  go_wp2
  go_ret
  exact ⟨rfl, rfl⟩
theorem t60 (x : Nat) (w : World) :
    Calls Try.prog 60 #[.float .f64 x] w (FR w ((ab x).map floor)) := by
  go_enter Try.func60, Try.ntmps60
  go_wp2_with (refine upon71 ?_; intro r n hr)
  go_ret
  exact ⟨_, _, rfl, rfl, hr⟩
theorem t53 (x : Nat) (w : World) : Calls Try.prog 53 #[.float .f64 x] w fun e w' => e = .returned (.bool (!eqF (ab x) (ab x))) ∧ w' = w := by
  go_enter Try.func53, Try.ntmps53
  go_wp2
  go_ret
  exact ⟨rfl, rfl⟩
theorem t67 (x : Nat) (w : World) : Calls Try.prog 67 #[.float .f64 x, .int .i64 0] w fun e w' => e = .returned (.bool (gtF ((ab x).map abs) (ab 9218868437227405311))) ∧ w' = w := by
  go_enter Try.func67, Try.ntmps67
  go_wp2_with (go_at_call 75; refine (t75 _ _).mono ?_; rintro e w' ⟨rfl, rfl⟩)
  go_ret
  exact ⟨by rw [← ab_abs]; rfl, rfl⟩
theorem t73 (x : Nat) (w : World) : Calls Try.prog 73 #[.float .f64 x] w fun e w' => e = .returned (.bool (fin (ab x))) ∧ w' = w := by
  go_enter Try.func73, Try.ntmps73
  go_wp2_with (first | (go_at_call 53; refine (t53 _ _).mono ?_; rintro e w' ⟨rfl, rfl⟩) | (go_at_call 67; refine (t67 _ _).mono ?_; rintro e w' ⟨rfl, rfl⟩))
  all_goals (go_ret; go_tidy; simp_all [fin])
def wholeF (x : Option Nat) : Option Nat := if ltF x (ab 0) then ((x.map neg).map floor).map neg else x.map floor
theorem t80 (x : Nat) (w : World) :
    Calls Try.prog 80 #[.float .f64 x] w (FR w (wholeF (ab x))) := by
  go_enter Try.func80, Try.ntmps80
  go_wp2_with (go_at_call 60; refine (t60 _ _).mono ?_; rintro e w' ⟨r, n, rfl, rfl, hr⟩)
  all_goals (go_ret; go_tidy; refine FR.mkN ?_; simp_all [wholeF, ab_neg, Hid])
def wrapF (x : Option Nat) : Option Nat :=
  if fin x then
    let r := bin .sub x (wholeF x)
    if gtF r (ab 4602678819172646912) || eqF r (ab 4602678819172646912) then bin .sub r (ab 4607182418800017408)
    else if ltF r (ab 13826050856027422720) then bin .add r (ab 4607182418800017408) else r
  else none
theorem t74 (x : Nat) (w : World) :
    Calls Try.prog 74 #[.float .f64 x] w (FR w (wrapF (ab x))) := by
  go_enter Try.func74, Try.ntmps74
  go_wp2_with (first
    | (refine upon_fl (by simp) ?_; intro r n hr)
    | (go_at_call 73; refine (t73 _ _).mono ?_; rintro e w' ⟨rfl, rfl⟩)
    | (go_at_call 14; refine (t14 _).mono ?_; rintro e w' ⟨rfl, rfl⟩)
    | (go_at_call 80; refine (t80 _ _).mono ?_; rintro e w' ⟨r, n, rfl, rfl, hr⟩))
  all_goals (go_ret; go_tidy; first | refine FR.mkN ?_ | refine FR.mk0 ?_)
  all_goals simp_all [wrapF, Hid]
  rfl
end Go.Proofs.Ythifemkbemhmnaa
