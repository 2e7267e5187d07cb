/- What the statement asks first. -/
import Derived.Test.YtkjpmmcfbaffoaaPe
namespace Go.Proofs.Ytkjpmmcfbaffoaa
open Go.ChangeShapes Go.WideShapes Go.ChangeAt Go.RowKit Go.Fl Ieee
attribute [local go_sem] run_store_float run_store_complex call35 call34 run_neg fold_eq fold_ne fold_lt fold_gt abs_eq

def TU (w : World) (e : Ending) (w' : World) : Prop := e = .returned (.bool true) ∧ Hid (Up w w')
set_option maxHeartbeats 4000000 in
theorem t9 (w : World) : Calls Try.prog 9 #[] w (TU w) := by
  have q1 : eqF (ab 4621819117588971520) (ab 4621819117588971520) = true := by decide +kernel
  have q2 : eqF (ab 0) (ab 0) = true := by decide +kernel
  have q3 : eqF (ab 13835058055282163712) (ab 13835058055282163712) = true := by decide +kernel
  have q4 : eqF (ab 4611686018427387904) (ab 4611686018427387904) = true := by decide +kernel
  have q5 : eqF (ab 4613937818241073152) (ab 4613937818241073152) = true := by decide +kernel
  go_enter Try.func9, Try.ntmps9
  go_wp2_with (first
    | (go_at_call 4; (with_reducible refine (w4a _).mono ?_); rintro e w1 ⟨g1, c1, rfl, k1, u1⟩)
    | (go_at_call 5; (with_reducible refine (w5a _).mono ?_); rintro e w2 ⟨g2, c2, rfl, k2, u2⟩; have k3 : Hid (KR _ w2 g1 4 c1 m4) := k1.out.up u2.out)
    | (go_at_call 4; (with_reducible refine (w4c k3).mono ?_); rintro e w4 ⟨g4, c4, rfl, k4, u4⟩
       have b0 := (k3.out.up u4.out).cell (i := 0) (by omega) rfl
       have b1 := (k3.out.up u4.out).cell (i := 1) (by omega) rfl
       have b2 := (k3.out.up u4.out).cell (i := 2) (by omega) rfl
       have d3 := (k2.out.up u4.out).cell (i := 3) (by omega) rfl
       have e2 := k4.out.cell (i := 2) (by omega) rfl
       have U : Hid (Up w w4) := (u1.out.trans u2.out).trans u4.out
       clear k1 k2 k3 k4 u1 u2 u4))
  go_ret
  exact ⟨rfl, U⟩
end Go.Proofs.Ytkjpmmcfbaffoaa
