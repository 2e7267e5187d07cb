/- small: a whole number from low to high. -/
import Derived.Test.YtdolfkgnehiecaaBa
import Derived.Test.YtdolfkgnehiecaaWh
namespace Go.Proofs.Ytdolfkgnehiecaa
open Go.ChangeShapes Go.WideShapes Go.ChangeAt Go.RowKit Go.Fl Ieee
attribute [local go_sem] run_store_float call28 call35 run_neg fold_eq fold_ne fold_lt fold_gt abs_eq

def smI (n lo m : Int) : Int := lo + n.tmod m % m
theorem sm_in {n lo m : Int} (hm : 0 < m) : lo ≤ smI n lo m ∧ smI n lo m < lo + m := by
  unfold smI
  have h3 := Int.emod_nonneg (n.tmod m) (show m ≠ 0 by omega)
  have h4 := Int.emod_lt_of_pos (n.tmod m) hm
  omega
theorem t26 (n lo hi : Int) (h1 : -1048576 ≤ lo) (h2 : lo ≤ hi) (h3 : hi ≤ 1048576) (h4 : -2147483648 ≤ n) (h5 : n ≤ 2147483647) (w : World) : Calls Try.prog 26 #[.int .i32 n, .int .i64 lo, .int .i64 hi] w fun e w' => e = .returned (.float .f64 (floatOfInt .f64 (smI n lo (hi - lo + 1)))) ∧ w' = w := by
  have hm : 0 < hi - lo + 1 := by omega
  have k1 := Int.tmod_lt_of_pos n hm
  have k2 : -(hi - lo + 1) < n.tmod (hi - lo + 1) := by have := Int.lt_tmod_of_pos n hm; omega
  have k3 := Int.emod_lt_of_pos (n.tmod (hi - lo + 1)) hm
  have k4 := Int.emod_nonneg (n.tmod (hi - lo + 1)) (show hi - lo + 1 ≠ 0 by omega)
  go_enter Try.func26, Try.ntmps26
  go_wp2
  go_ret
  exact ⟨rfl, rfl⟩
end Go.Proofs.Ytdolfkgnehiecaa
