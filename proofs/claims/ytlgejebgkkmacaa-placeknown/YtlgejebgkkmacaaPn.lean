/- The chapter's examples. -/
import Derived.Test.YtlgejebgkkmacaaPm
namespace Go.Proofs.Ytlgejebgkkmacaa
open Go.ChangeShapes Go.WideShapes Go.ChangeAt Go.RowKit Go.Fl Ieee
attribute [local go_sem] run_store_float run_store_complex call39 call50 run_neg fold_eq fold_ne fold_lt fold_gt abs_eq eqIn

theorem d1 (w : World) : Calls Try.prog 9 #[.agg #[.float .f64 0, .float .f64 4636737291354636288]] w (VU w (.tuple #[.float .f64 4636737291354636288, .float .f64 0])) := f2_some (t9 _ _ _) (by decide +kernel) (by decide +kernel)
theorem d2 (w : World) : Calls Try.prog 9 #[.agg #[.float .f64 0, .float .f64 0]] w (VU w (.tuple #[.float .f64 0, .float .f64 0])) := f2_some (t9 _ _ _) (by decide +kernel) (by decide +kernel)
theorem d3 (w : World) : Calls Try.prog 17 #[.agg #[.float .f64 4621819117588971520, .float .f64 4626322717216342016, .float .f64 4598175219545276416], .agg #[.float .f64 0, .float .f64 4617315517961601024]] w (VU w (.agg #[.float .f64 4624633867356078080, .float .f64 4626322717216342016])) := sr_some (t17 _ _ _ _ _ _) (by decide +kernel) (by decide +kernel)
theorem d4 (w : World) : Calls Try.prog 15 #[.float .f64 13800290266158863483, .int .i64 4] w (VU w (.tuple #[.int .i64 3, .int .i64 0])) := i2_some (t15 _ _ _ (by decide) (by decide)) (by decide +kernel)
theorem d5 (w : World) : Calls Try.prog 15 #[.float .f64 0, .int .i64 0] w (VU w (.tuple #[.int .i64 0, .int .i64 2])) := i2_some (t15 _ _ _ (by decide) (by decide)) (by decide +kernel)
theorem d6 (w : World) : Calls Try.prog 15 #[.float .f64 9221120237041090561, .int .i64 4] w (VU w (.tuple #[.int .i64 0, .int .i64 6])) := i2_some (t15 _ _ _ (by decide) (by decide)) (by decide +kernel)
theorem d7 (w : World) : Calls Try.prog 12 #[.float .f64 4636737291354636288, .float .f64 0] w (VU w (.agg #[.float .f64 0, .float .f64 4636737291354636288])) := sr_some (t12 _ _ _) (by decide +kernel) (by decide +kernel)
theorem d8 (w : World) : Calls Try.prog 12 #[.float .f64 4636737291354636288, .float .f64 4602678819172646912] w (VU w (.agg #[.float .f64 0, .float .f64 13860109328209412096])) := sr_some (t12 _ _ _) (by decide +kernel) (by decide +kernel)
theorem d9 (w : World) : Calls Try.prog 19 #[.agg #[.float .f64 4621819117588971520, .float .f64 4626322717216342016, .float .f64 4598175219545276416], .agg #[.float .f64 4624633867356078080, .float .f64 4626322717216342016]] w (VU w (.agg #[.float .f64 0, .float .f64 4617315517961601024])) := sr_some (t19 _ _ _ _ _ _) (by decide +kernel) (by decide +kernel)
theorem in2 : winF sqF 4 (0, 0) = true := by decide +kernel
theorem out2 : winF sqF 4 (4607182418800017408, 4616189618054758400) = false := by decide +kernel
theorem in3 : winF sqF 4 (4615964438073389875, 4615964438073389875) = true := by decide +kernel
theorem out3 : winF sqF 4 (9221120237041090561, 4607182418800017408) = false := by decide +kernel
theorem facts3 {w : World} {g : Nat} {u v x : Value} {t : TypeId} (h : w.heap[g]? = some (.cells #[u, v, x] t (0, 0))) : w.cell? ⟨g, 0, none⟩ = some u ∧ w.cell? ⟨g, 1, none⟩ = some v ∧ w.cell? ⟨g, 2, none⟩ = some x := by
  simp [World.cell?, h]
set_option maxHeartbeats 8000000 in
set_option maxRecDepth 20000 in
theorem t8 (w : World) : Calls Try.prog 8 #[] w (TU w) := by
  have q0 : eqF (ab 4636737291354636288) (ab 4636737291354636288) = true := by decide +kernel
  have q1 : eqF (ab 0) (ab 0) = true := by decide +kernel
  have q2 : eqF (ab 13860109328209412096) (ab 13860109328209412096) = true := by decide +kernel
  have q3 : eqF (ab 4624633867356078080) (ab 4624633867356078080) = true := by decide +kernel
  have q4 : eqF (ab 4626322717216342016) (ab 4626322717216342016) = true := by decide +kernel
  have q5 : eqF (ab 4617315517961601024) (ab 4617315517961601024) = true := by decide +kernel
  go_enter Try.func8, Try.ntmps8
  go_wp2_with (first
    | (go_at_call 9; (with_reducible refine (d1 _).mono ?_); rintro e w1 ⟨rfl, u1⟩; replace u1 : Hid _ := u1)
    | (go_at_call 9; (with_reducible refine (d2 _).mono ?_); rintro e w2 ⟨rfl, u2⟩; replace u2 : Hid _ := u2)
    | (go_at_call 17; (with_reducible refine (d3 _).mono ?_); rintro e w3 ⟨rfl, u3⟩; have G3 := kept2 (heap_alloc_last w2 _) u3; replace u3 : Hid _ := u3)
    | (go_at_call 15; (with_reducible refine (d4 _).mono ?_); rintro e w4 ⟨rfl, u4⟩; have G4 := kept2 G3 (Up.trans (Up.alloc _ _) u4); have M4 := kept2 (heap_alloc_last w3 _) u4; clear G3; replace u4 : Hid _ := u4)
    | (go_at_call 15; (with_reducible refine (d5 _).mono ?_); rintro e w5 ⟨rfl, u5⟩; have G5 := kept2 G4 u5; have M5 := kept2 M4 u5; clear G4 M4; replace u5 : Hid _ := u5)
    | (go_at_call 27; (with_reducible refine (t27 _).mono ?_); rintro e w' ⟨rfl, hw⟩; subst w')
    | (go_at_call 15; (with_reducible refine (d6 _).mono ?_); rintro e w6 ⟨rfl, u6⟩; have G6 := kept2 G5 u6; have M6 := kept2 M5 u6; clear G5 M5; replace u6 : Hid _ := u6)
    | (go_at_call 12; (with_reducible refine (d7 _).mono ?_); rintro e w7 ⟨rfl, u7⟩; have G7 := kept2 G6 u7; have M7 := kept2 M6 u7; clear G6 M6; replace u7 : Hid _ := u7)
    | (go_at_call 12; (with_reducible refine (d8 _).mono ?_); rintro e w8 ⟨rfl, u8⟩; obtain ⟨g0, g1, g2⟩ := facts3 (kept2 G7 u8); obtain ⟨m0, m1, _, _⟩ := facts2 (kept2 M7 u8); clear G7 M7; replace u8 : Hid _ := u8)
    | (go_at_call 19; (with_reducible refine (d9 _).mono ?_); rintro e w9 ⟨rfl, u9⟩; replace u9 : Hid _ := u9)
    | (go_at_call 28; (with_reducible refine (t28u w9).mono ?_); rintro e w10 ⟨rfl, H10, K10⟩)
    | (go_at_call 22; (with_reducible refine (win_sq _ _ true in2 w9 w10 K10.out).mono ?_); rintro e w11 ⟨rfl, u11⟩; replace u11 : Hid _ := u11)
    | (go_at_call 28; (with_reducible refine (t28u w11).mono ?_); rintro e w12 ⟨rfl, H12, K12⟩)
    | (go_at_call 22; (with_reducible refine (win_sq _ _ false out2 w11 w12 K12.out).mono ?_); rintro e w13 ⟨rfl, u13⟩; replace u13 : Hid _ := u13)
    | (go_at_call 28; (with_reducible refine (t28u w13).mono ?_); rintro e w14 ⟨rfl, H14, K14⟩)
    | (go_at_call 22; (with_reducible refine (win_sq _ _ true in3 w13 w14 K14.out).mono ?_); rintro e w15 ⟨rfl, u15⟩; replace u15 : Hid _ := u15)
    | (go_at_call 28; (with_reducible refine (t28u w15).mono ?_); rintro e w16 ⟨rfl, H16, K16⟩)
    | (go_at_call 22; (with_reducible refine (t22few _ 2 4 0 0 w16 (by decide)).mono ?_); rintro e w17 ⟨rfl, u17⟩; replace u17 : Hid _ := u17)
    | (go_at_call 28; (with_reducible refine (t28u w17).mono ?_); rintro e w18 ⟨rfl, H18, K18⟩)
    | (go_at_call 22; (with_reducible refine (win_sq _ _ false out3 w17 w18 K18.out).mono ?_); rintro e w19 ⟨rfl, u19⟩; replace u19 : Hid _ := u19)
    | (go_at_call 21; (with_reducible refine (t21 _).mono ?_); rintro e w20 ⟨rfl, u20⟩))
  go_ret
  exact ⟨rfl, (Up.trans (Up.trans (Up.trans (Up.trans (Up.trans (Up.trans (Up.trans (Up.trans (Up.trans (Up.trans (Up.trans (Up.trans (Up.trans (Up.trans (Up.trans (Up.trans (Up.trans (Up.trans (Up.trans u1.out u2.out) (Up.trans (Up.alloc _ _) u3.out)) (Up.trans (Up.alloc _ _) u4.out)) u5.out) u6.out) u7.out) u8.out) u9.out) H10.out) u11.out) H12.out) u13.out) H14.out) u15.out) H16.out) u17.out) H18.out) u19.out) u20.out)⟩
end Go.Proofs.Ytlgejebgkkmacaa
