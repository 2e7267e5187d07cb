/- Between. -/
import Derived.Test.YtephkmahnbhmbaaPa
namespace Go.Proofs.Ytephkmahnbhmbaa
open Go.ChangeShapes Go.WideShapes Go.ChangeAt Go.RowKit Go.Fl Go.Sort
attribute [local go_sem] run_store_float call52 run_neg fold_eq fold_ne fold_lt fold_gt abs_eq

/-- From -0.5 to 0.5. -/
def halfB (x : Option Nat) : Bool := (gtF x (ab 13826050856027422720) || eqF x (ab 13826050856027422720)) && (ltF x (ab 4602678819172646912) || eqF x (ab 4602678819172646912))
def betX (a b c : Option Nat) : Option Nat := bin .quo (bin .sub a c) (bin .mul (ab 4611686018427387904) (bin .sub (bin .add a c) (bin .mul (ab 4611686018427387904) b)))
/-- Where between three neighbours the highest lies. -/
def betF (a b c : Option Nat) : Option Nat := if halfB (betX a b c) then betX a b c else ab 0
theorem betX_of {A B C : Option Nat} {r r1 r2 r3 r4 r5 : Nat} (h : Hid (ab r = bin .quo (ab r4) (ab r5))) (h5 : Hid (ab r5 = bin .mul (ab 4611686018427387904) (ab r3))) (h4 : Hid (ab r4 = bin .sub A C)) (h3 : Hid (ab r3 = bin .sub (ab r1) (ab r2))) (h2 : Hid (ab r2 = bin .mul (ab 4611686018427387904) B)) (h1 : Hid (ab r1 = bin .add A C)) : ab r = betX A B C := by
  rw [h.out, h5.out, h4.out, h3.out, h2.out, h1.out]; rfl
theorem bet_in {A B C : Option Nat} {r : Nat} (e : ab r = betX A B C) (h : halfB (ab r) = true) : ab r = betF A B C := by
  unfold betF; rw [← e, if_pos h]
theorem bet_out {A B C : Option Nat} {r : Nat} (e : ab r = betX A B C) (h : halfB (ab r) = false) : ab 0 = betF A B C := by
  unfold betF; rw [← e, if_neg (by simp [h])]
theorem t21 (a b c : Nat) (w : World) : Calls Try.prog 21 #[.float .f64 a, .float .f64 b, .float .f64 c] w (FR w (betF (ab a) (ab b) (ab c))) := by
  go_enter Try.func21, Try.ntmps21
  go_wp2_with ((with_reducible refine upon_fl (by simp) ?_); intro r3 k3 hr3)
  all_goals
    have e := betX_of hr3 (by assumption) (by assumption) (by assumption) (by assumption) (by assumption)
    go_ret
    refine FR.mkN ?_
    first
      | exact bet_in e (by simp_all [halfB])
      | (refine bet_out e ?_; simp only [halfB, Bool.and_eq_false_iff, Bool.or_eq_false_iff]; rename_i h; first | exact h | exact Or.inl (by simpa using h))
theorem t22 (a b c : Nat) (w : World) : Calls Try.prog 22 #[.float .f64 a, .float .f64 b, .float .f64 c] w (FR w (betF (ab a) (ab b) (ab c))) := by
  go_enter Try.func22, Try.ntmps22
  go_wp2_with ((with_reducible refine upon_fl (by simp) ?_); intro r3 k3 hr3)
  all_goals
    have e := betX_of hr3 (by assumption) (by assumption) (by assumption) (by assumption) (by assumption)
    go_ret
    refine FR.mkN ?_
    first
      | exact bet_in e (by simp_all [halfB])
      | (refine bet_out e ?_; simp only [halfB, Bool.and_eq_false_iff, Bool.or_eq_false_iff]; rename_i h; first | exact h | exact Or.inl (by simpa using h))
end Go.Proofs.Ytephkmahnbhmbaa
