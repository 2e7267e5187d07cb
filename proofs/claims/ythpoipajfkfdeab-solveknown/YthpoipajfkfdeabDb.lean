/- What the statements ask first. -/
import Derived.Test.YthpoipajfkfdeabDa
namespace Go.Proofs.Ythpoipajfkfdeab
open Go.ChangeShapes Go.WideShapes Go.ChangeAt Go.RowKit Go.Fl Ieee
attribute [local go_sem] run_store_float run_store_c call43 call17 run_neg fold_eq fold_ne fold_lt fold_gt abs_eq

/-- What a call leaves that answers yes. -/
def TU (w : World) (e : Ending) (w' : World) : Prop := e = .returned (.bool true) ∧ Hid (Up w w')
set_option maxHeartbeats 8000000 in
set_option maxRecDepth 20000 in
theorem t11 (w : World) : Calls Try.prog 11 #[] w (TU w) := by
  have p0 : ∀ w, (binOp .eql 26 (.complex .f64 4611686018427387904 0) (.complex .f64 4611686018427387904 0)).run Try.prog w = .ok (.bool true) w := fun w => by kernel_rfl
  have p1 : ∀ w, (binOp .eql 26 (.complex .f64 4616189618054758400 0) (.complex .f64 4616189618054758400 0)).run Try.prog w = .ok (.bool true) w := fun w => by kernel_rfl
  have p2 : ∀ w, (binOp .eql 26 (.complex .f64 4607182418800017408 0) (.complex .f64 4607182418800017408 0)).run Try.prog w = .ok (.bool true) w := fun w => by kernel_rfl
  have p3 : ∀ w, (binOp .eql 26 (.complex .f64 0 13835058055282163712) (.complex .f64 0 13835058055282163712)).run Try.prog w = .ok (.bool true) w := fun w => by kernel_rfl
  have p4 : ∀ w, (binOp .eql 26 (.complex .f64 0 0) (.complex .f64 0 0)).run Try.prog w = .ok (.bool true) w := fun w => by kernel_rfl
  have p5 : ∀ w, (binOp .eql 26 (.complex .f64 4617315517961601024 0) (.complex .f64 4617315517961601024 0)).run Try.prog w = .ok (.bool true) w := fun w => by kernel_rfl
  have p6 : ∀ w, (binOp .eql 26 (.complex .f64 0 4607182418800017408) (.complex .f64 0 4607182418800017408)).run Try.prog w = .ok (.bool true) w := fun w => by kernel_rfl
  go_enter Try.func11, Try.ntmps11
  go_upto_region 5 with (first
    | (go_at_call 8; (with_reducible refine (kA _).mono ?_); rintro e w1 ⟨A, B, rfl, HA, U1⟩)
    | (go_at_call 4; (with_reducible refine (kB _).mono ?_); rintro e w2 ⟨g2, rfl, HB, U2⟩)
    | (go_at_call 6; (with_reducible refine (kC _).mono ?_); rintro e w3 ⟨g3, h3, rfl, HC, U3⟩)
    | (go_at_call 9; (with_reducible refine (kD _).mono ?_); rintro e w4 ⟨g4, rfl, HD, U4⟩))
  have V3 : Hid (Up w3 w4) := U4
  have V2 : Hid (Up w2 w4) := U3.out.trans U4.out
  have V1 : Hid (Up w1 w4) := U2.out.trans V2.out
  have V0 : Hid (Up w w4) := U1.out.trans V1.out
  obtain ⟨a0, a1, a2, a3, a4⟩ := HA.out
  replace a0 := cell_up a0 V1.out
  replace a1 := cell_up a1 V1.out
  replace a2 := cell_up a2 V1.out
  replace a3 := cell_up a3 V1.out
  replace a4 := cell_up a4 V1.out
  obtain ⟨b0, b1⟩ := HB.out
  replace b0 := cell_up b0 V2.out
  replace b1 := cell_up b1 V2.out
  obtain ⟨c0, c1, c2⟩ := HC.out
  replace c0 := cell_up c0 V3.out
  replace c1 := cell_up c1 V3.out
  replace c2 := cell_up c2 V3.out
  obtain ⟨d0, d1⟩ := HD.out
  clear HA HB HC HD U1 U2 U3 U4 V1 V2 V3
  go_wp2
  go_ret
  exact ⟨rfl, V0⟩
end Go.Proofs.Ythpoipajfkfdeab
