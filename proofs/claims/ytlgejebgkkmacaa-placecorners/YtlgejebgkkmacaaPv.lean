/- PlaceCorners of any list. -/
import Derived.Test.YtlgejebgkkmacaaPt
namespace Go.Proofs.Ytlgejebgkkmacaa
open Go.ChangeShapes Go.WideShapes Go.ChangeAt Go.RowKit Go.Fl Ieee
attribute [local go_sem] run_store_float run_store_complex call39 call50 run_neg fold_eq fold_ne fold_lt fold_gt abs_eq

set_option maxHeartbeats 2000000 in
theorem t5 (p : Option Addr) (n cap x y : Nat) (bg i0 j0 : Int) (f : Nat → Nat × Nat) (w : World) (hcap : n ≤ cap) (HP : Hid (LV w p n f)) : Calls Try.prog 5 #[.slice p n cap, .agg #[.float .f64 x, .float .f64 y], .int .i64 bg, .int .i64 i0, .int .i64 j0] w (TU w) := by
  by_cases h0 : n = 0
  · have z0 : ((n : Int) == 0) = true := by simp; omega
    clear HP
    subst h0
    go_enter Try.func5, Try.ntmps5
    go_wp2_with (first
      | (go_at_call 21; (with_reducible refine (t21 (w.alloc _)).mono ?_); rintro e w1 ⟨rfl, u1⟩)
      | (go_at_call 21; (with_reducible refine (t21 w1).mono ?_); rintro e w2 ⟨rfl, u2⟩))
    go_ret
    exact ⟨rfl, ((Up.alloc _ _).trans u1.out).trans u2.out⟩
  by_cases h1 : 65536 < n
  · have z0 : ((n : Int) == 0) = false := by simp; omega
    have z1 : (65536 : Int) < n := by omega
    go_enter Try.func5, Try.ntmps5
    go_wp2_with (first
      | (go_at_call 21; (with_reducible refine (t21 (w.alloc _)).mono ?_); rintro e w1 ⟨rfl, u1⟩)
      | (go_at_call 21; (with_reducible refine (t21 w1).mono ?_); rintro e w2 ⟨rfl, u2⟩))
    go_ret
    exact ⟨rfl, ((Up.alloc _ _).trans u1.out).trans u2.out⟩
  obtain ⟨b, o, rfl, h⟩ := HP.out (by omega)
  exact t5ok b o n cap x y bg i0 j0 f w (by omega) (by omega) hcap h
end Go.Proofs.Ytlgejebgkkmacaa
