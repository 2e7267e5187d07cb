/- The leaves: what stands in for math's own functions, and the small functions that call them. -/
import Derived.Test.YtcocliilapeelaaRows
import Derived.Test.YtcocliilapeelaaFl
import Derived.OpenShut
namespace Go.Proofs.Ytcocliilapeelaa
open Go.ChangeShapes Go.WideShapes Go.ChangeAt Go.RowKit Go.Fl

theorem call38 (x : Nat) (w : World) : (callFunc 38 #[.float .f64 x]).run Try.prog w = .ok (.value (.int .u64 x)) w := by
  rw [run_callFunc_extern Try.func38 (by kernel_rfl) (by kernel_rfl) (by kernel_rfl) (e := Extern.MathFloatBits.float64bits) (by kernel_rfl)]; rfl
theorem call37 (x : Int) (w : World) : (callFunc 37 #[.int .u64 x]).run Try.prog w = .ok (.value (.float .f64 x.toNat)) w := by
  rw [run_callFunc_extern Try.func37 (by kernel_rfl) (by kernel_rfl) (by kernel_rfl) (e := Extern.MathFloatBits.float64frombits) (by kernel_rfl)]; rfl
theorem upon35 {o : Oper} {a : Act} {next : Act → World → Prop} {Q : Exit → Act → World → Prop} {x : Nat} {w : World}
    (hk : ∀ r n, Hid (ab r = (ab x).map floor) → o.upon Try.prog a next Q (.ok (.value (.float .f64 r)) (w.drewN n))) :
    o.upon Try.prog a next Q ((callFunc 35 #[.float .f64 x]).run Try.prog w) := by
  rw [run_callFunc_extern Try.func35 (by kernel_rfl) (by kernel_rfl) (by kernel_rfl) (e := Extern.MathFloor.toIntegral "math.archFloor" .down) (by kernel_rfl)]
  obtain ⟨r, n, e, hr⟩ := run_floor (P := Try.prog) "math.archFloor" x w
  rw [e]
  exact hk r n hr
attribute [local go_sem] call38 call37 run_neg fold_eq fold_ne fold_lt fold_gt abs_eq

theorem t20 (x : Nat) (w : World) : Calls Try.prog 20 #[.float .f64 x] w fun e w' => e = .returned (.float .f64 (abs x)) ∧ w' = w := by
  go_enter Try.func20, Try.ntmps20
  go_wp2
  go_ret
  exact ⟨rfl, rfl⟩
theorem t19 (x : Nat) (w : World) :
    Calls Try.prog 19 #[.float .f64 x] w (FR w ((ab x).map floor)) := by
  go_enter Try.func19, Try.ntmps19
  go_wp2_with (refine upon35 ?_; intro r n hr)
  go_ret
  exact ⟨_, _, rfl, rfl, hr⟩
theorem t41 (x : Nat) (w : World) : Calls Try.prog 41 #[.float .f64 x] w fun e w' => e = .returned (.bool (!eqF (ab x) (ab x))) ∧ w' = w := by
  go_enter Try.func41, Try.ntmps41
  go_wp2
  go_ret
  exact ⟨rfl, rfl⟩
theorem t17 (x : Nat) (w : World) : Calls Try.prog 17 #[.float .f64 x, .int .i64 0] w fun e w' => e = .returned (.bool (gtF ((ab x).map abs) (ab 9218868437227405311))) ∧ w' = w := by
  go_enter Try.func17, Try.ntmps17
  go_wp2_with (go_at_call 20; refine (t20 _ _).mono ?_; rintro e w' ⟨rfl, rfl⟩)
  go_ret
  exact ⟨by rw [← ab_abs]; rfl, rfl⟩
end Go.Proofs.Ytcocliilapeelaa
