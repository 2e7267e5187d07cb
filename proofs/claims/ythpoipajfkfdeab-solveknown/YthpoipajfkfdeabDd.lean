/- SolveKnown: the walk. -/
import Derived.Test.YthpoipajfkfdeabDc
namespace Go.Proofs.Ythpoipajfkfdeab
open Go.ChangeShapes Go.WideShapes Go.ChangeAt Go.RowKit Go.Fl Ieee
attribute [local go_sem] run_store_float run_store_c call43 call17 run_neg fold_eq fold_ne fold_lt fold_gt abs_eq

theorem k12 (w : World) : Calls Try.prog 7 #[.slice none 0 0, .int .i64 65] w (SqR 65 w) := t7 (n := 65) (by decide)
theorem k12b (w : World) : Calls Try.prog 7 #[.slice none 0 0, .int .i64 64] w (SqR 64 w) := t7 (n := 64) (by decide)
theorem upon_m65 {o : Oper} {a : Act} {next : Act → World → Prop} {Q : Exit → Act → World → Prop} {w : World} {F : Value → World → Result Next}
    (hk : ∀ g w', Hid (Made 65 g w w') → o.upon Try.prog a next Q (F (.slice (some ⟨g, 0, none⟩) 65 65) w')) :
    o.upon Try.prog a next Q (((Instr.makeSlice 22 (.int .i64 65) (.int .i64 65)).run Try.prog w).andThen F) := upon_makeC (n := 65) (by decide) hk
theorem upon_m64 {o : Oper} {a : Act} {next : Act → World → Prop} {Q : Exit → Act → World → Prop} {w : World} {F : Value → World → Result Next}
    (hk : ∀ g w', Hid (Made 64 g w w') → o.upon Try.prog a next Q (F (.slice (some ⟨g, 0, none⟩) 64 64) w')) :
    o.upon Try.prog a next Q (((Instr.makeSlice 22 (.int .i64 64) (.int .i64 64)).run Try.prog w).andThen F) := upon_makeC (n := 64) (by decide) hk
theorem made_z {n g : Nat} {w w' : World} (h : Made n g w w') : XR w.heap.size w' g n (fun _ => zC) := XR.made h
set_option maxHeartbeats 16000000 in
set_option maxRecDepth 100000 in
theorem t3 (w : World) : Calls Try.prog 3 #[] w (TU w) := by
  have p0 : ∀ w, (binOp .eql 26 (.complex .f64 4619567317775286272 0) (.complex .f64 4619567317775286272 0)).run Try.prog w = .ok (.bool true) w := fun w => by kernel_rfl
  have p1 : ∀ w, (binOp .eql 26 (.complex .f64 4617315517961601024 0) (.complex .f64 4617315517961601024 0)).run Try.prog w = .ok (.bool true) w := fun w => by kernel_rfl
  have p2 : ∀ w, (binOp .eql 26 (.complex .f64 4607182418800017408 0) (.complex .f64 4607182418800017408 0)).run Try.prog w = .ok (.bool true) w := fun w => by kernel_rfl
  have p3 : ∀ w, (binOp .eql 26 (.complex .f64 4602678819172646912 0) (.complex .f64 4602678819172646912 0)).run Try.prog w = .ok (.bool true) w := fun w => by kernel_rfl
  have p4 : ∀ w, (binOp .neq 26 (.complex .f64 4607182418800017408 0) (.complex .f64 4607182418800017408 0)).run Try.prog w = .ok (.bool false) w := fun w => by kernel_rfl
  go_enter Try.func3, Try.ntmps3
  go_upto_region 7 with (first
    | (go_at_call 4; (with_reducible refine (k1 _).mono ?_); rintro e v1 ⟨g1, rfl, H1, U1⟩)
    | (go_at_call 4; (with_reducible refine (k2 _).mono ?_); rintro e v2 ⟨rfl, U2⟩)
    | (go_at_call 4; (with_reducible refine (k3 _).mono ?_); rintro e v3 ⟨rfl, U3⟩)
    | (go_at_call 5; (with_reducible refine (t5 _).mono ?_); rintro e vn ⟨rfl, hw⟩; subst vn)
    | (go_at_call 4; (with_reducible refine (k4 _).mono ?_); rintro e v4 ⟨rfl, U4⟩)
    | (go_at_call 4; (with_reducible refine (k5 _).mono ?_); rintro e v5 ⟨rfl, U5⟩)
    | (go_at_call 4; (with_reducible refine (k6 _).mono ?_); rintro e v6 ⟨g6, rfl, U6⟩))
  have V6 : Hid (Up v1 v6) := U2.out.trans (U3.out.trans (U4.out.trans (U5.out.trans U6.out)))
  obtain ⟨a0, a1⟩ := H1.out
  replace a0 := cell_up a0 V6.out
  replace a1 := cell_up a1 V6.out
  have W6 : Hid (Up w v6) := U1.out.trans V6.out
  clear H1 U1 U2 U3 U4 U5 U6 V6
  go_upto_region 8 with (fail)
  clear a0 a1
  go_upto_region 13 with (first
    | (go_at_call 6; (with_reducible refine (k7 _).mono ?_); rintro e v7 ⟨g7, h7, rfl, H7, U7⟩)
    | (go_at_call 6; (with_reducible refine (k8 _).mono ?_); rintro e v8 ⟨rfl, U8⟩)
    | (go_at_call 6; (with_reducible refine (k9 _).mono ?_); rintro e v9 ⟨rfl, U9⟩)
    | (go_at_call 6; (with_reducible refine (k10 _).mono ?_); rintro e v10 ⟨rfl, U10⟩)
    | (go_at_call 6; (with_reducible refine (k11 _).mono ?_); rintro e v11 ⟨g11, h11, rfl, H11, U11⟩))
  have V11 : Hid (Up v7 v11) := U8.out.trans (U9.out.trans (U10.out.trans U11.out))
  obtain ⟨b0, b1⟩ := H7.out
  replace b0 := cell_up b0 V11.out
  obtain ⟨b2, b3⟩ := H11.out
  have W11 : Hid (Up w v11) := W6.out.trans (U7.out.trans V11.out)
  clear H7 H11 U7 U8 U9 U10 U11 V11 b1 b3 W6
  go_upto_region 14 with (fail)
  clear b0 b2
  go_upto_region 17 with (first
    | (go_at_call 7; (with_reducible refine (k12 _).mono ?_); rintro e v12 ⟨p12, c12, f12, rfl, H12, U12⟩)
    | ((with_reducible refine upon_m65 ?_); intro g13 v13 M13; (have U13 : Hid (Up v12 v13) := M13.out.2.2))
    | (go_at_call 4; (with_reducible refine (k13 H12.out.1 U13.out).mono ?_); rintro e v14 ⟨rfl, U14⟩)
    | (go_at_call 8; (with_reducible refine (k14 H12.out.1 (U13.out.trans U14.out)).mono ?_); rintro e v15 ⟨rfl, U15⟩))
  have W15 : Hid (Up w v15) := W11.out.trans (U12.out.trans (U13.out.trans (U14.out.trans U15.out)))
  clear W11 U12 M13 U13 U14 U15 H12
  go_region_held3 (fun _ => True) (exact True.intro) (first
    | (go_at_call 7; (with_reducible refine (k12b _).mono ?_); rintro e wa ⟨pa, ca, fa, rfl, Ha, Ua⟩)
    | ((with_reducible refine upon_m64 ?_); intro gb wb Mb; (have Xb : Hid (XR _ wb gb 64 (fun _ => zC)) := made_z Mb.out); (have Ub : Hid (Up _ wb) := Mb.out.2.2))
    | (go_at_call 4; (with_reducible refine (k15 Ha.out Xb.out Ub.out (Up.refl _)).mono ?_); rintro e wc ⟨gc, rfl, Uc⟩)
    | (go_at_call 4; (with_reducible refine (k15 Ha.out Xb.out (Up.refl _) Ua.out).mono ?_); rintro e wc ⟨gc, rfl, Uc⟩))
  have W17 : Hid (Up w wc) := W15.out.trans ((Up.drewN v15 1).trans (Ua.out.trans (Ub.out.trans Uc.out)))
  rotate_left
  have W17 : Hid (Up w wc) := W15.out.trans ((Up.drewN v15 1).trans (Ub.out.trans (Ua.out.trans Uc.out)))
  all_goals
    clear Ua Ub Uc Ha Xb Mb W15
    go_upto_region 24 with (first
      | (go_at_call 4; (with_reducible refine (k16 _).mono ?_); rintro e v16 ⟨rfl, U16⟩)
      | (go_at_call 9; (with_reducible refine (k17 _).mono ?_); rintro e v17 ⟨rfl, U17⟩)
      | (go_at_call 4; (with_reducible refine (k18 _).mono ?_); rintro e v18 ⟨g18, rfl, H18, U18⟩)
      | (go_at_call 4; (with_reducible refine (k19 _).mono ?_); rintro e v19 ⟨rfl, U19⟩)
      | (go_at_call 9; (with_reducible refine (k20 _).mono ?_); rintro e v20 ⟨g20, rfl, H20, U20⟩)
      | (go_at_call 10; (with_reducible refine (t10 _).mono ?_); rintro e vn ⟨rfl, hw⟩; subst vn)
      | (go_at_call 4; (with_reducible refine (k21 _).mono ?_); rintro e v21 ⟨rfl, U21⟩))
    have b0 := cell_up H20.out U21.out
    have W21 : Hid (Up w v21) := W17.out.trans (U16.out.trans (U17.out.trans (U18.out.trans (U19.out.trans (U20.out.trans U21.out)))))
    clear H20 U16 U17 U18 U19 U20 U21 W17
    go_wp2_with (go_at_call 11; (with_reducible refine (t11 _).mono ?_); rintro e v22 ⟨rfl, U22⟩)
    go_ret
    exact ⟨rfl, W21.out.trans U22.out⟩
end Go.Proofs.Ythpoipajfkfdeab
