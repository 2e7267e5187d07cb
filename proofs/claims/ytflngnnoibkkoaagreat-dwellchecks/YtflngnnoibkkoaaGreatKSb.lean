/- Centre: its leaves. -/
import Derived.Test.YtflngnnoibkkoaaGreatKUa
namespace Go.Proofs.YtflngnnoibkkoaaGreat.Pk
open Go.ChangeShapes Go.WideShapes Go.ChangeAt Go.RowKit Go.Fl Go.Sort
set_option maxRecDepth 200000
set_option maxHeartbeats 8000000
attribute [local go_sem] run_store_float run_neg fold_eq fold_ne fold_lt fold_gt abs_eq

/-- Is one number greater than another, where what is no number is below all others? -/
def abvF (x y : Option Nat) : Bool := gtF x y || eqF x x && !eqF y y
theorem t66 (x y : Nat) (w : World) : Calls Tryz.prog 183 #[.float .f64 x, .float .f64 y] w fun e w' => e = .returned (.bool (abvF (ab x) (ab y))) ∧ w' = w := by
  go_enter Tryz.func183, Tryz.ntmps183
  go_wp2
  all_goals (go_ret; refine ⟨?_, rfl⟩; unfold abvF; simp_all)
/-- How far apart two bins are, by the shorter way round. -/
def nearF (d bins : Int) : Int := if 0 < bins ∧ bins < 2 * d then d - bins else if 0 < bins ∧ 2 * d ≤ -bins then d + bins else d
theorem t44 (d bins : Int) (w : World) (h0 : 0 ≤ bins) (h1 : bins ≤ 1073741824) (h2 : -2147483648 ≤ d) (h3 : d ≤ 2147483648) : Calls Tryz.prog 155 #[.int .i64 d, .int .i64 bins] w fun e w' => e = .returned (.int .i64 (nearF d bins)) ∧ w' = w := by
  go_enter Tryz.func155, Tryz.ntmps155
  go_wp2
  all_goals (go_ret; go_tidy; refine ⟨?_, rfl⟩; unfold nearF)
  · rw [if_pos (by omega)]; rfl
  · rw [if_neg (by omega), if_pos (by omega)]; rfl
  · rw [if_neg (by omega), if_neg (by omega)]; rfl
  · rw [if_neg (by omega), if_neg (by omega)]; rfl
/-- A middle beside the bins, brought back among them. -/
def withF (x : Option Nat) (bins : Int) : Option Nat :=
  if 0 < bins ∧ ltF x (ab 0) = true then bin .add x (ab (floatOfInt .f64 bins)) else if 0 < bins ∧ (gtF x (ab (floatOfInt .f64 bins)) || eqF x (ab (floatOfInt .f64 bins))) = true then bin .sub x (ab (floatOfInt .f64 bins)) else x
theorem t46 (x : Nat) (bins : Int) (w : World) (h0 : 0 ≤ bins) (h1 : bins ≤ 1073741824) : Calls Tryz.prog 157 #[.float .f64 x, .int .i64 bins] w (FR w (withF (ab x) bins)) := by
  go_enter Tryz.func157, Tryz.ntmps157
  go_wp2_with ((with_reducible refine upon_fl (by simp) ?_); intro r3 k3 hr3)
  · go_ret; refine FR.mkN ?_; unfold withF; rw [if_pos (by simp_all)]; exact hr3.out
  · go_ret; refine FR.mkN ?_; unfold withF; rw [if_neg (by simp_all), if_pos (by simp_all)]; exact hr3.out
  · go_ret; refine FR.mk0 ?_; unfold withF; rw [if_neg (by simp_all), if_neg (by simp_all)]
  · go_ret; refine FR.mk0 ?_; unfold withF; rw [if_neg (by omega), if_neg (by omega)]
/-- Brought into a stretch. -/
def clI (x : Int) : Int := min (max x (-1073741824)) 1073741824
theorem clI_in (x : Int) : -1073741824 ≤ clI x ∧ clI x ≤ 1073741824 := by unfold clI; omega
theorem t39 (a b : Int) (c : Nat) (w : World) : Calls Tryz.prog 150 #[.agg #[.int .i64 a, .int .i64 b, .float .f64 c]] w (VU w (.agg #[.int .i64 (clI a), .int .i64 (clI b)])) := by
  go_enter Tryz.func150, Tryz.ntmps150
  go_wp2
  all_goals
    first | rw [show clI a = -1073741824 by unfold clI; omega] | rw [show clI a = 1073741824 by unfold clI; omega] | rw [show clI a = a by unfold clI; omega]
    first | rw [show clI b = -1073741824 by unfold clI; omega] | rw [show clI b = 1073741824 by unfold clI; omega] | rw [show clI b = b by unfold clI; omega]
    exact bodyPost_ret (results_cell_row Tryz.results150 _ _ _ 178 #[.int .i64 _, .int .i64 _] (0, 0) _ rfl (last_two _ _ _) Tryz.underlying178 rfl (by kernel_rfl)) rfl ⟨rfl, (Gr.alloc _ _).trans (Gr.alloc _ _)⟩
end Go.Proofs.YtflngnnoibkkoaaGreat.Pk
