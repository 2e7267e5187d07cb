/- The law StateStarts. -/
import Derived.Test.YtdolfkgnehiecaaAh
namespace Go.Proofs.Ytdolfkgnehiecaa
open Go.ChangeShapes Go.WideShapes Go.ChangeAt Go.RowKit Go.Fl Ieee
attribute [local go_sem] run_store_float call28 call35 run_neg fold_eq fold_ne fold_lt fold_gt abs_eq

theorem same_self (s : S5) : sameF s s = true := by simp [sameF]
theorem t18s (x v a b c : Nat) (w : World) : Calls Try.prog 18 #[.agg #[.float .f64 x, .float .f64 v, .float .f64 a, .float .f64 b, .float .f64 c], .agg #[.float .f64 x, .float .f64 v, .float .f64 a, .float .f64 b, .float .f64 c]] w (TU w) := by
  have := t18 x v a b c x v a b c w
  rw [same_self] at this
  exact this
theorem t4 (x n s : Nat) (w : World) : Calls Try.prog 4 #[.float .f64 x, .float .f64 n, .float .f64 s] w (TU w) := by
  go_enter Try.func4, Try.ntmps4
  go_wp2_with (first
    | (go_at_call 20; (with_reducible refine (t20 _ _ _ _).mono ?_); rintro e w1 ⟨rfl, u1⟩)
    | (go_at_call 21; (with_reducible refine (t21 _ _ _ _).mono ?_); rintro e w2 ⟨rfl, u2⟩)
    | (go_at_call 18; (with_reducible refine (t18s _ _ _ _ _ _).mono ?_); rintro e w3 ⟨rfl, u3⟩)
    | (go_at_call 19; (with_reducible refine (t19 _).mono ?_); rintro e w4 ⟨rfl, u4⟩))
  go_ret
  exact ⟨rfl, ((u1.out.trans u2.out).trans u3.out).trans u4.out⟩
end Go.Proofs.Ytdolfkgnehiecaa
