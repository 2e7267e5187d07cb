/- The walk of TopMoved. -/
import Derived.Test.YthifemkbemhmnaaGe
namespace Go.Proofs.Ythifemkbemhmnaa
open Go.ChangeShapes Go.WideShapes Go.ChangeAt Go.RowKit Go.Fl Ieee
attribute [local go_sem] run_store_float run_store_c isSome_set call69 call32 run_neg fold_eq fold_ne fold_lt fold_gt abs_eq

set_option maxRecDepth 100000 in
set_option maxHeartbeats 4000000 in
/-- A time that is not finite. -/
theorem t5n (code cell by_ turn rows : Int) (tm : Nat) (w : World) (h : ¬ Fnt tm) : Calls Try.prog 5 #[.int .i64 code, .int .i64 cell, .int .i64 by_, .int .i64 turn, .int .i64 rows, .float .f64 tm] w (TU w) := by
  obtain ⟨s, s1, s2, hs⟩ := size_is code 13 (by omega) (by omega)
  have HZ : Hid (∀ w, Calls Try.prog 19 #[.int .i64 code, .int .i64 13] w fun e w' => e = .returned (.int .i64 (s : Int)) ∧ w' = w) := hs
  obtain ⟨q, hq⟩ : ∃ q : Nat, (s : Int) - 1 = (q : Int) := ⟨s - 1, by omega⟩
  obtain ⟨n, hn⟩ : ∃ n, (codeL (q : Int)).length = n := ⟨_, rfl⟩
  have HC : Hid (∀ w, Calls Try.prog 18 #[.int .i64 (q : Int)] w (CD n w)) := fun w => code_ok (by omega) hn w
  clear hs hn
  rcases not_fnt h with h1 | ⟨h1, h2⟩
  · go_enter Try.func5, Try.ntmps5
    go_wp2_with (first
      | (go_at_call 19; (with_reducible refine (HZ.out _).mono ?_); rintro e w' ⟨rfl, hw⟩; subst w')
      | (go_at_call 18; (with_reducible refine (HC.out _).mono ?_); rintro e w1 ⟨pg, cap, d, rfl, HR, HU, HB, H0⟩))
    go_ret
    exact ⟨rfl, HU⟩
  · have H2 : Hid (bin .sub (ab tm) (ab tm) = none) := h2
    clear h2
    go_enter Try.func5, Try.ntmps5
    go_wp2_with (first
      | (go_at_call 19; (with_reducible refine (HZ.out _).mono ?_); rintro e w' ⟨rfl, hw⟩; subst w')
      | (go_at_call 18; (with_reducible refine (HC.out _).mono ?_); rintro e w1 ⟨pg, cap, d, rfl, HR, HU, HB, H0⟩)
      | ((with_reducible refine upon_fl (by simp) ?_); intro r k hr; have hz : eqF (ab r) (ab 0) = false := by rw [hr.out, H2.out]; rfl))
    go_ret
    exact ⟨rfl, HU.out.trans (Up.drewN _ _)⟩
end Go.Proofs.Ythifemkbemhmnaa
