/- The walks of the two statements over all inputs. -/
import Derived.Test.YtfoleccljbfkeaaH
namespace Go.Proofs.Ytfoleccljbfkeaa
open Go.ChangeShapes Go.WideShapes Go.ChangeAt Go.RowKit Go.Fl
theorem t6t {x y : Nat} (w : World) (h : ab x = ab y) : Calls Try.prog 6 #[.float .f64 x, .float .f64 y] w fun e w' => e = .returned (.bool true) ∧ w' = w :=
  (t6 x y w).mono fun _ _ ⟨he, hw⟩ => ⟨by rw [he, h]; simp, hw⟩
theorem t9t {x y x' y' : Nat} (w : World) (h : ab x = ab x') (k : ab y = ab y') : Calls Try.prog 9 #[.agg #[.float .f64 x, .float .f64 y], .agg #[.float .f64 x', .float .f64 y']] w fun e w' => e = .returned (.bool true) ∧ Up w w' :=
  (t9 x y x' y' w).mono fun _ _ ⟨he, hw⟩ => ⟨by rw [he, h, k]; simp, hw⟩
set_option maxHeartbeats 1000000 in
theorem t3 (x : Nat) (w : World) : Calls Try.prog 3 #[.float .f64 x] w fun e w' => e = .returned (.bool true) ∧ Up w w' := by
  have hup := Up.refl w
  go_enter Try.func3, Try.ntmps3
  go_wp2_with (first
    | (go_at_call 7; refine (t7 _ _).mono ?_; rintro e w' ⟨r1, n, rfl, rfl, h1⟩; replace hup := hup.trans (Up.drewN _ n); try simp only [World.drewN_drewN] at hup)
    | (go_at_call 8; refine (t8 _ _).mono ?_; rintro e w' ⟨r2, n, rfl, rfl, h2⟩; replace hup := hup.trans (Up.drewN _ n); try simp only [World.drewN_drewN] at hup)
    | (go_at_call 6; refine (t6t _ (h1.out.trans h2.out.symm)).mono ?_; rintro e w' ⟨rfl, rfl⟩)
    | (go_at_call 11; refine (t11 _ _).mono ?_; rintro e w' ⟨c1, s1, rfl, hc1, hs1, hu⟩; replace hup := hup.trans hu; clear hu)
    | (go_at_call 10; refine (t10 _ _ _).mono ?_; rintro e w' ⟨rfl, hu⟩; replace hup := hup.trans hu; clear hu)
    | (go_at_call 12; refine (t12 _ _).mono ?_; rintro e w' ⟨c2, s2, rfl, hc2, hs2, hu⟩; replace hup := hup.trans hu; clear hu)
    | (go_at_call 9; refine (t9t _ (hc1.out.trans hc2.out.symm) (hs1.out.trans hs2.out.symm)).mono ?_; rintro e w' ⟨rfl, hu⟩; replace hup := hup.trans hu; clear hu)
    | (go_at_call 13; refine (t13 _).mono ?_; rintro e w' ⟨rfl, hu⟩; replace hup := hup.trans hu; clear hu))
  go_ret
  exact ⟨rfl, hup⟩
set_option maxHeartbeats 1000000 in
theorem t4 (k n : Int) (w : World) (hn : -9223372036854775808 ≤ n) (hn' : n ≤ 9223372036854775807) : Calls Try.prog 4 #[.int .i64 k, .int .i64 n] w fun e w' => e = .returned (.bool true) ∧ Up w w' := by
  have hup := Up.refl w
  go_enter Try.func4, Try.ntmps4
  go_wp2_with (first
    | (go_at_call 14; refine (t14 _ _ _ hn hn').mono ?_; rintro e w' ⟨c1, s1, rfl, hc1, hs1, hu⟩; replace hup := hup.trans hu; clear hu)
    | (go_at_call 10; refine (t10 _ _ _).mono ?_; rintro e w' ⟨rfl, hu⟩; replace hup := hup.trans hu; clear hu)
    | (go_at_call 15; refine (t15 _ _ _ hn hn').mono ?_; rintro e w' ⟨c2, s2, rfl, hc2, hs2, hu⟩; replace hup := hup.trans hu; clear hu)
    | (go_at_call 9; refine (t9t _ (hc1.out.trans hc2.out.symm) (hs1.out.trans hs2.out.symm)).mono ?_; rintro e w' ⟨rfl, hu⟩; replace hup := hup.trans hu; clear hu)
    | (go_at_call 13; refine (t13 _).mono ?_; rintro e w' ⟨rfl, hu⟩; replace hup := hup.trans hu; clear hu))
  go_ret
  exact ⟨rfl, hup⟩
end Go.Proofs.Ytfoleccljbfkeaa
