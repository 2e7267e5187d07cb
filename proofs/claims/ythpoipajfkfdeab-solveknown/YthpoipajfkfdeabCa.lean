/- Numbers: products, differences, quotients; Div. -/
import Derived.Test.YthpoipajfkfdeabBa
import Derived.Test.YthpoipajfkfdeabT
namespace Go.Proofs.Ythpoipajfkfdeab
open Go.ChangeShapes Go.WideShapes Go.ChangeAt Go.RowKit Go.Fl Ieee
attribute [local go_sem] run_store_float run_store_complex call43 call17 run_neg fold_eq fold_ne fold_lt fold_gt abs_eq

abbrev CN := Option Nat × Option Nat
def mulC (x y : CN) : CN := (mulR x.1 x.2 y.1 y.2, mulI x.1 x.2 y.1 y.2)
def subC (x y : CN) : CN := (bin .sub x.1 y.1, bin .sub x.2 y.2)
def sqC (x : CN) : Option Nat := abs2F x.1 x.2
def divRe (x y : CN) : CN :=
  (bin .quo (bin .add x.1 (bin .mul x.2 (bin .quo y.2 y.1))) (bin .add y.1 (bin .mul y.2 (bin .quo y.2 y.1))),
   bin .quo (bin .sub x.2 (bin .mul x.1 (bin .quo y.2 y.1))) (bin .add y.1 (bin .mul y.2 (bin .quo y.2 y.1))))
def divIm (x y : CN) : CN :=
  (bin .quo (bin .add (bin .mul x.1 (bin .quo y.1 y.2)) x.2) (bin .add (bin .mul y.1 (bin .quo y.1 y.2)) y.2),
   bin .quo (bin .sub (bin .mul x.2 (bin .quo y.1 y.2)) x.1) (bin .add (bin .mul y.1 (bin .quo y.1 y.2)) y.2))
def divC (x y : CN) : CN := if gtF (y.1.map abs) (y.2.map abs) || eqF (y.1.map abs) (y.2.map abs) then divRe x y else divIm x y
/-- What a call leaves that hands back a number, and only draws. -/
def NR (w : World) (z : CN) (e : Ending) (w' : World) : Prop := ∃ r i n, e = .returned (.complex .f64 r i) ∧ w' = w.drewN n ∧ Hid ((ab r, ab i) = z)
theorem NR.mkN {w : World} {z : CN} {r i n : Nat} (h : (ab r, ab i) = z) : NR w z (.returned (.complex .f64 r i)) (w.drewN n) := ⟨r, i, n, rfl, rfl, h⟩
set_option maxHeartbeats 1000000 in
set_option maxRecDepth 20000 in
theorem t40 (a b c d : Nat) (w : World) : Calls Try.prog 40 #[.complex .f64 a b, .complex .f64 c d] w (NR w (divRe (ab a, ab b) (ab c, ab d))) := by
  go_enter Try.func40, Try.ntmps40
  go_wp2_with ((with_reducible refine upon_fl (by simp) ?_); intro r n hr)
  go_ret
  refine NR.mkN ?_
  simp_all [divRe, Hid]
set_option maxHeartbeats 1000000 in
set_option maxRecDepth 20000 in
theorem t41 (a b c d : Nat) (w : World) : Calls Try.prog 41 #[.complex .f64 a b, .complex .f64 c d] w (NR w (divIm (ab a, ab b) (ab c, ab d))) := by
  go_enter Try.func41, Try.ntmps41
  go_wp2_with ((with_reducible refine upon_fl (by simp) ?_); intro r n hr)
  go_ret
  refine NR.mkN ?_
  simp_all [divIm, Hid]
theorem ab_abs' (x : Nat) : (ab x).map abs = ab (abs x) := (ab_abs x).symm
set_option maxHeartbeats 1000000 in
theorem t30 (a b c d : Nat) (w : World) : Calls Try.prog 30 #[.complex .f64 a b, .complex .f64 c d] w (NR w (divC (ab a, ab b) (ab c, ab d))) := by
  unfold divC
  simp only [ab_abs']
  cases hg : (gtF (ab (abs c)) (ab (abs d)) || eqF (ab (abs c)) (ab (abs d))) with
  | true =>
    go_enter Try.func30, Try.ntmps30
    go_wp2_with (first
      | (go_at_call 39; (with_reducible refine (t39 _ _).mono ?_); rintro e w' ⟨rfl, hw⟩; subst w')
      | (go_at_call 40; (with_reducible refine (t40 _ _ _ _ _).mono ?_); rintro e w' ⟨r, i, n, rfl, rfl, hr⟩))
    go_ret
    exact NR.mkN hr.out
  | false =>
    go_enter Try.func30, Try.ntmps30
    go_wp2_with (first
      | (go_at_call 39; (with_reducible refine (t39 _ _).mono ?_); rintro e w' ⟨rfl, hw⟩; subst w')
      | (go_at_call 41; (with_reducible refine (t41 _ _ _ _ _).mono ?_); rintro e w' ⟨r, i, n, rfl, rfl, hr⟩))
    go_ret
    exact NR.mkN hr.out
theorem t20c (a b c d : Nat) (w : World) : Calls Try.prog 20 #[.complex .f64 a b, .complex .f64 c d] w (NR w (mulC (ab a, ab b) (ab c, ab d))) :=
  (t20 a b c d w).mono fun e w' ⟨r, i, n, h1, h2, h3, h4⟩ => ⟨r, i, n, h1, h2, by show _ = _; rw [h3.out, h4.out]; rfl⟩
end Go.Proofs.Ythpoipajfkfdeab
