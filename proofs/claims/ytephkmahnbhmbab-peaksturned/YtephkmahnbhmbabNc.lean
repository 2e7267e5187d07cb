/- PeaksTurned. -/
import Derived.Test.YtephkmahnbhmbabNb
import Derived.Test.YtephkmahnbhmbabSg
namespace Go.Proofs.Ytephkmahnbhmbab
open Go.ChangeShapes Go.WideShapes Go.ChangeAt Go.RowKit Go.Fl Go.Sort
attribute [local go_sem] run_store_float run_neg fold_eq fold_ne fold_lt fold_gt abs_eq
set_option maxRecDepth 20000
theorem half_parts {r : Nat} (h : halfB (ab r) = true) : (gtF (ab r) (ab 13826050856027422720) || eqF (ab r) (ab 13826050856027422720)) = true ∧ (ltF (ab r) (ab 4602678819172646912) || eqF (ab r) (ab 4602678819172646912)) = true := by
  unfold halfB at h
  rw [Bool.and_eq_true] at h
  exact h
set_option maxHeartbeats 2000000 in
theorem t3k (a b c : Nat) (w : World) : Calls Try.prog 3 #[.float .f64 a, .float .f64 b, .float .f64 c] w fun e w' => e = .returned (.bool true) ∧ Hid (Up w w') := by
  have C5 : Hid (∀ a b c w, Calls Try.prog 5 #[.float .f64 a, .float .f64 b, .float .f64 c] w (FR w (betF (ab a) (ab b) (ab c)))) := t21
  have C6 : Hid (∀ w, Calls Try.prog 6 #[] w fun e w' => e = .returned (.bool true) ∧ Hid (Up w w')) := t13
  have HB : Hid (∀ r s, ab r = betF (ab a) (ab b) (ab c) → ab s = betF (ab c) (ab b) (ab a) → (eqF (ab r) (ab (neg s)) = true) ∧ ((gtF (ab r) (ab 13826050856027422720) || eqF (ab r) (ab 13826050856027422720)) = true ∧ (ltF (ab r) (ab 4602678819172646912) || eqF (ab r) (ab 4602678819172646912)) = true) ∧ (eqF (ab a) (ab c) = true → eqF (ab r) (ab 0) = true)) := fun r s hr hs => ⟨(bet_turn hr hs).1, half_parts (bet_turn hr hs).2, bet_same hr⟩
  go_enter Try.func3, Try.ntmps3
  go_wp2_with (first
    | ((fail_if_success have := HX1); go_at_call 5; (with_reducible refine (C5.out _ _ _ _).mono ?_); rintro e w1 ⟨rx, k1, rfl, hw1, HX1⟩; subst w1)
    | ((fail_if_success have := HX2); go_at_call 5; (with_reducible refine (C5.out _ _ _ _).mono ?_); rintro e w2 ⟨ry, k2, rfl, hw2, HX2⟩; subst w2; (obtain ⟨u1, ⟨u2, u3⟩, u4⟩ := HB.out rx ry HX1.out HX2.out); (have HU4 : Hid (eqF (ab a) (ab c) = true → eqF (ab rx) (ab 0) = true) := u4); clear u4)
    | (go_at_call 6; (with_reducible refine (C6.out _).mono ?_); rintro e w3 ⟨rfl, HU3⟩))
  · go_ret; exact ⟨rfl, (Up.drewN _ _).trans HU3.out⟩
  · rename_i h1 h2; exact absurd (HU4.out h1) h2
  · go_ret; exact ⟨rfl, (Up.drewN _ _).trans HU3.out⟩
end Go.Proofs.Ytephkmahnbhmbab
