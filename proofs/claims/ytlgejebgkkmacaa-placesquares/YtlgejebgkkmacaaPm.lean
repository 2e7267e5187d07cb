/- What the statements ask first. -/
import Derived.Test.YtlgejebgkkmacaaPl
namespace Go.Proofs.Ytlgejebgkkmacaa
open Go.ChangeShapes Go.WideShapes Go.ChangeAt Go.RowKit Go.Fl Ieee
attribute [local go_sem] run_store_float run_store_complex call39 call50 run_neg fold_eq fold_ne fold_lt fold_gt abs_eq

abbrev wQ (w : World) : World := w.alloc (.cells #[.float .f64 0, .float .f64 0, .float .f64 4616189618054758400, .float .f64 0, .float .f64 4616189618054758400, .float .f64 4616189618054758400, .float .f64 0, .float .f64 4616189618054758400] 24)
def sqF (j : Nat) : Nat × Nat := ([(0, 0), (4616189618054758400, 0), (4616189618054758400, 4616189618054758400), (0, 4616189618054758400)] : List (Nat × Nat))[j]!
theorem t28 (w : World) : Calls Try.prog 28 #[] w fun e w' => e = .returned (.slice (some ⟨w.heap.size, 0, none⟩) 4 4) ∧ w' = wQ w := by
  go_enter Try.func28, Try.ntmps28
  go_wp2
  go_ret
  exact ⟨rfl, rfl⟩
theorem wQ_pv (w : World) : PV (wQ w) w.heap.size 0 4 sqF := by
  intro j hj
  have q : j = 0 ∨ j = 1 ∨ j = 2 ∨ j = 3 := by omega
  rcases q with rfl | rfl | rfl | rfl <;> exact ⟨World.cell?_alloc_at _ _ _ _ rfl, World.cell?_alloc_at _ _ _ _ rfl⟩
theorem t28u (w : World) : Calls Try.prog 28 #[] w fun e w' => e = .returned (.slice (some ⟨w.heap.size, 0, none⟩) 4 4) ∧ Hid (Up w w') ∧ Hid (Up (wQ w) w') := by
  refine (t28 w).mono ?_
  rintro e w' ⟨rfl, rfl⟩
  exact ⟨rfl, Up.alloc _ _, Up.refl _⟩
theorem sr_some {f : Nat} {vs : Array Value} {w : World} {X Y : Option Nat} {c d : Nat} (h : Calls Try.prog f vs w (SR w X Y)) (hX : X = some c) (hY : Y = some d) : Calls Try.prog f vs w (VU w (.agg #[.float .f64 c, .float .f64 d])) := by
  refine h.mono ?_
  rintro e w' ⟨r, i, rfl, h1, h2, h3⟩
  rw [of_ab (h1.out.trans hX), of_ab (h2.out.trans hY)]
  exact ⟨rfl, h3⟩
theorem f2_some {f : Nat} {vs : Array Value} {w : World} {X Y : Option Nat} {c d : Nat} (h : Calls Try.prog f vs w (F2 w X Y)) (hX : X = some c) (hY : Y = some d) : Calls Try.prog f vs w (VU w (.tuple #[.float .f64 c, .float .f64 d])) := by
  refine h.mono ?_
  rintro e w' ⟨r, i, rfl, h1, h2, h3⟩
  rw [of_ab (h1.out.trans hX), of_ab (h2.out.trans hY)]
  exact ⟨rfl, h3⟩
theorem i2_some {f : Nat} {vs : Array Value} {w : World} {p : Int × Int} {c d : Int} (h : Calls Try.prog f vs w (I2 w p)) (hp : p = (c, d)) : Calls Try.prog f vs w (VU w (.tuple #[.int .i64 c, .int .i64 d])) := by
  refine h.mono ?_
  rintro e w' ⟨rfl, n, rfl⟩
  rw [hp]
  exact ⟨rfl, Up.drewN _ _⟩
theorem win_sq (x y : Nat) (b : Bool) (hb : winF sqF 4 (x, y) = b) (w w' : World) (hu : Up (wQ w) w') : Calls Try.prog 22 #[.slice (some ⟨w.heap.size, 0, none⟩) 4 4, .agg #[.float .f64 x, .float .f64 y]] w' (BU w' b) := by
  rw [← hb]
  exact t22 _ _ _ _ _ _ _ (fun _ => ⟨_, _, rfl, (wQ_pv w).up hu⟩)
theorem c1 (w : World) : Calls Try.prog 12 #[.float .f64 4636737291354636288, .float .f64 4598175219545276416] w (VU w (.agg #[.float .f64 4636737291354636288, .float .f64 0])) := sr_some (t12 _ _ _) (by decide +kernel) (by decide +kernel)
theorem c2 (w : World) : Calls Try.prog 9 #[.agg #[.float .f64 13840687554816376832, .float .f64 0]] w (VU w (.tuple #[.float .f64 4617315517961601024, .float .f64 4604930618986332160])) := f2_some (t9 _ _ _) (by decide +kernel) (by decide +kernel)
theorem c3 (w : World) : Calls Try.prog 15 #[.float .f64 4598355363530371236, .int .i64 4] w (VU w (.tuple #[.int .i64 1, .int .i64 0])) := i2_some (t15 _ _ _ (by decide) (by decide)) (by decide +kernel)
theorem in1 : winF sqF 4 (4607182418800017408, 4607182418800017408) = true := by decide +kernel
theorem out1 : winF sqF 4 (4616189618054758400, 4607182418800017408) = false := by decide +kernel
theorem run_equalIn_float (fuel : Nat) (x y : Nat) (w : World) : (Op.equalIn (fuel + 1) 22 (.float .f64 x) (.float .f64 y)).run Try.prog w = .ok (eqF (ab x) (ab y)) w := by
  unfold Op.equalIn
  simp
  exact fold_eq x y
set_option maxRecDepth 20000 in
theorem eq_fields24 (x y x' y' : Nat) (w : World) : (Op.equalIn 10000 24 (.agg #[.float .f64 x, .float .f64 y]) (.agg #[.float .f64 x', .float .f64 y'])).run Try.prog w = .ok (eqF (ab x) (ab x') && eqF (ab y) (ab y')) w := by
  have u3 := Try.underlying22
  have a3 := Try.isAgg22
  have z3 := Try.sizeOf22
  rw [show (10000 : Nat) = 9999 + 1 from rfl, run_equalIn_agg w 9999 24 _ _ (by kernel_rfl) (by kernel_rfl)]
  simp only [Program.fieldsOf, Try.underlying24]
  go_simp
  rw [show (9999 : Nat) = 9998 + 1 from rfl]
  simp only [run_equalIn_float, Result.andThen_ok]
  cases eqF (ab x) (ab x') <;> cases eqF (ab y) (ab y') <;> rfl
theorem eql24 (x y x' y' : Nat) (w : World) : (binOp .eql 24 (.agg #[.float .f64 x, .float .f64 y]) (.agg #[.float .f64 x', .float .f64 y'])).run Try.prog w = .ok (.bool (eqF (ab x) (ab x') && eqF (ab y) (ab y'))) w := by
  rw [run_eql_struct, eq_fields24]; rfl
theorem eqIn (a b : Nat) (w : World) : (Op.equalIn 9999 22 (.float .f64 a) (.float .f64 b)).run Try.prog w = .ok (eqF (ab a) (ab b)) w := run_equalIn_float 9998 a b w
attribute [local go_sem] eqIn
/-- What a call leaves that answers yes and may make memory. -/
def TU (w : World) (e : Ending) (w' : World) : Prop := e = .returned (.bool true) ∧ Hid (Up w w')
set_option maxHeartbeats 4000000 in
set_option maxRecDepth 20000 in
theorem t21 (w : World) : Calls Try.prog 21 #[] w (TU w) := by
  have q1 : eqF (ab 4636737291354636288) (ab 4636737291354636288) = true := by decide +kernel
  have q2 : eqF (ab 0) (ab 0) = true := by decide +kernel
  have q3 : eqF (ab 4617315517961601024) (ab 4617315517961601024) = true := by decide +kernel
  have q4 : eqF (ab 4604930618986332160) (ab 4604930618986332160) = true := by decide +kernel
  go_enter Try.func21, Try.ntmps21
  go_wp2_with (first
    | (go_at_call 12; (with_reducible refine (c1 _).mono ?_); rintro e w1 ⟨rfl, u1⟩; replace u1 : Hid _ := u1)
    | (go_at_call 9; (with_reducible refine (c2 _).mono ?_); rintro e w2 ⟨rfl, u2⟩; obtain ⟨k1, k2, _, _⟩ := facts2 (kept2 (heap_alloc_last w1 _) u2); replace u2 : Hid _ := u2)
    | (go_at_call 15; (with_reducible refine (c3 _).mono ?_); rintro e w3 ⟨rfl, u3⟩; have m1 := cell_up k1 u3; have m2 := cell_up k2 u3; clear k1 k2; replace u3 : Hid _ := u3)
    | (go_at_call 28; (with_reducible refine (t28u w3).mono ?_); rintro e w4 ⟨rfl, H4, H4'⟩)
    | (go_at_call 22; (with_reducible refine (win_sq _ _ true in1 w3 w4 H4'.out).mono ?_); rintro e w5 ⟨rfl, u5⟩; replace u5 : Hid _ := u5)
    | (go_at_call 28; (with_reducible refine (t28u w5).mono ?_); rintro e w6 ⟨rfl, H6, H6'⟩)
    | (go_at_call 22; (with_reducible refine (win_sq _ _ false out1 w5 w6 H6'.out).mono ?_); rintro e w7 ⟨rfl, u7⟩; replace u7 : Hid _ := u7))
  go_ret
  exact ⟨rfl, Up.trans (Up.trans (Up.trans (Up.trans (Up.trans (Up.trans u1.out (Up.trans (Up.alloc _ _) u2.out)) u3.out) H4.out) u5.out) H6.out) u7.out⟩
end Go.Proofs.Ytlgejebgkkmacaa
