/- Dwell: the closed run of the statement. -/
import Derived.Test.YtflngnnoibkkoaaGreatEq
import Derived.Test.YtflngnnoibkkoaaGreatEc
namespace Go.Proofs.YtflngnnoibkkoaaGreat
open Go.ChangeShapes Go.WideShapes Go.ChangeAt Go.RowKit Go.Fl Ieee
set_option maxRecDepth 200000
set_option maxHeartbeats 8000000
attribute [local go_sem] run_store_float run_store_complex run_store_fn call34 call33 run_neg fold_eq fold_ne fold_lt fold_gt abs_eq

theorem t9 (w : World) : Calls Tryz.prog 9 #[] w (fun e w' => e = .returned (.agg #[.float .f64 4621819117588971520, .float .f64 4602678819172646912, .float .f64 4652007308841189376, .int .i64 16, .int .i64 4, .int .i64 3, .int .i8 0, .int .i64 0, .int .i8 0, .int .i64 1, .int .i64 4, .int .i64 0, .float .f64 4620693217682128896, .float .f64 0]) ∧ Hid (Up w w')) := by
  go_enter Tryz.func9, Tryz.ntmps9
  go_wp2
  refine bodyPost_ret (results_cell_row Tryz.results9 _ _ w.heap.size 27 #[.float .f64 4621819117588971520, .float .f64 4602678819172646912, .float .f64 4652007308841189376, .int .i64 16, .int .i64 4, .int .i64 3, .int .i8 0, .int .i64 0, .int .i8 0, .int .i64 1, .int .i64 4, .int .i64 0, .float .f64 4620693217682128896, .float .f64 0] (0, 0) _ rfl ?_ Tryz.underlying27 rfl (by kernel_rfl)) rfl ⟨rfl, Up.alloc _ _⟩
  exact heap_last _ _
theorem k6 (w : World) : Calls Tryz.prog 6 #[.agg #[.float .f64 4621819117588971520, .float .f64 4602678819172646912, .float .f64 4652007308841189376, .int .i64 16, .int .i64 4, .int .i64 3, .int .i8 0, .int .i64 0, .int .i8 0, .int .i64 1, .int .i64 4, .int .i64 0, .float .f64 4620693217682128896, .float .f64 0]] w (IU w 0) := by
  have := t6 4621819117588971520 4602678819172646912 4652007308841189376 16 4 3 0 0 0 1 4 0 4620693217682128896 0 w
  rwa [ck_st] at this
theorem ck_st99 : stE 4621819117588971520 4602678819172646912 4652007308841189376 16 4 99 0 0 1 4 0 4620693217682128896 0 = 40 := by decide +kernel
theorem k6b (w : World) : Calls Tryz.prog 6 #[.agg #[.float .f64 4621819117588971520, .float .f64 4602678819172646912, .float .f64 4652007308841189376, .int .i64 16, .int .i64 4, .int .i64 99, .int .i8 0, .int .i64 0, .int .i8 0, .int .i64 1, .int .i64 4, .int .i64 0, .float .f64 4620693217682128896, .float .f64 0]] w (IU w 40) := by
  have := t6 4621819117588971520 4602678819172646912 4652007308841189376 16 4 99 0 0 0 1 4 0 4620693217682128896 0 w
  rwa [ck_st99] at this
abbrev TIK (w : World) (A B : Nat) : Prop := TI w A 4 16 (fun i => some ⟨B, i * 16, none⟩) (fun _ => 16) (fun _ => B) (fun i => i * 16) (fun _ g => rowK[g]!)
theorem k13 {w : World} {A B : Nat} (h : TIK w A B) : Calls Tryz.prog 13 #[.agg #[.float .f64 4621819117588971520, .float .f64 4602678819172646912, .float .f64 4652007308841189376, .int .i64 16, .int .i64 4, .int .i64 3, .int .i8 0, .int .i64 0, .int .i8 0, .int .i64 1, .int .i64 4, .int .i64 0, .float .f64 4620693217682128896, .float .f64 0], .slice (some ⟨A, 0, none⟩) 4 4] w (fun e w' => ∃ A' B', e = .returned (.tuple #[.slice (some ⟨A', 0, none⟩) 4 4, .int .i64 0]) ∧ Hid (w'.cell? ⟨A', 0, none⟩ = some (.slice (some ⟨B', 0, none⟩) 16 16) ∧ w'.cell? ⟨B', 5, none⟩ = some (.float .f64 4643211215818981376)) ∧ Hid (Up w w')) :=
  (t13 (n := 4) (m := 16) (win := 0) (way := 0) ck_st rfl rfl rfl h (Nat.le_refl _)).mono fun e w' hR => by
    obtain ⟨wb, vc, f3, D, fp, rfl, h1, h2, h3, h4, hu⟩ := hR
    have hp := pulse_k h2.out
    have hnl : (codeL 3).length = 4 := by decide +kernel
    obtain ⟨A', B', e1, -, k⟩ := h1.out.ex
    have h3' := h3.out
    rw [hp, hnl] at h3'
    have hD := cells_k h3' h4.out (fun i hi => (k i hi).2.1) 0 (by decide)
    obtain ⟨k1, -, -, k2⟩ := k 0 (by decide)
    refine ⟨A', B' 0, by rw [e1], ⟨k1, ?_⟩, hu⟩
    rw [k2 5 (by decide), hD]
    rfl
theorem k24 {w : World} {A B : Nat} (h : TIK w A B) : Calls Tryz.prog 24 #[.agg #[.float .f64 4621819117588971520, .float .f64 4602678819172646912, .float .f64 4652007308841189376, .int .i64 16, .int .i64 4, .int .i64 3, .int .i8 0, .int .i64 0, .int .i8 0, .int .i64 1, .int .i64 4, .int .i64 0, .float .f64 4620693217682128896, .float .f64 0], .slice (some ⟨A, 0, none⟩) 4 4, .float .f64 4598175219545276416, .float .f64 4619567317775286272] w (PlR w 4598175219545276416 4619567317775286272) :=
  t24 h (Nat.le_refl _) (by decide +kernel) ⟨by decide +kernel, by decide +kernel⟩ ⟨by decide, by decide⟩
theorem tl_k (w : World) : TL (w.alloc (.cells #[.float .f64 4632233691727265792, .float .f64 0, .float .f64 4607182418800017408, .float .f64 0, .float .f64 0] 41)) w.heap.size 1 tgK := fun i hi => by
  obtain rfl : i = 0 := by omega
  exact ⟨new_cell _ _ _ _ _ rfl, new_cell _ _ _ _ _ rfl, new_cell _ _ _ _ _ rfl, new_cell _ _ _ _ _ rfl, new_cell _ _ _ _ _ rfl⟩
theorem k12 (w : World) : Calls Tryz.prog 12 #[.agg #[.float .f64 4621819117588971520, .float .f64 4602678819172646912, .float .f64 4652007308841189376, .int .i64 16, .int .i64 4, .int .i64 3, .int .i8 0, .int .i64 0, .int .i8 0, .int .i64 1, .int .i64 4, .int .i64 0, .float .f64 4620693217682128896, .float .f64 0], .slice (some ⟨w.heap.size, 0, none⟩) 1 1, .float .f64 0, .int .u64 1] (w.alloc (.cells #[.float .f64 4632233691727265792, .float .f64 0, .float .f64 4607182418800017408, .float .f64 0, .float .f64 0] 41)) (MkR (w.alloc (.cells #[.float .f64 4632233691727265792, .float .f64 0, .float .f64 4607182418800017408, .float .f64 0, .float .f64 0] 41))) := t12 (tl_k w)
def WkR (w : World) (e : Ending) (w' : World) : Prop := e = .returned (.bool true) ∧ Hid (Up w w')
theorem t8 (w : World) : Calls Tryz.prog 8 #[] w (WkR w) := by
  go_enter Tryz.func8, Tryz.ntmps8
  go_upto_region 2 with (go_at_call 9; (with_reducible refine (t9 _).mono ?_); rintro e w1 ⟨rfl, HU1⟩)
  have HS1 : Hid (SB (w1.alloc (.cells #[.float .f64 4621819117588971520, .float .f64 4602678819172646912, .float .f64 4652007308841189376, .int .i64 16, .int .i64 4, .int .i64 3, .int .i8 0, .int .i64 0, .int .i8 0, .int .i64 1, .int .i64 4, .int .i64 0, .float .f64 4620693217682128896, .float .f64 0] 27)) w1.heap.size 4621819117588971520 4602678819172646912 4652007308841189376 16 4 3 0 0 0 1 4 0 4620693217682128896 0) := SB.new w1 _ _ _ _ _ _ _ _ _ _ _ _ _ _
  have HA1 : Hid (Up w (w1.alloc (.cells #[.float .f64 4621819117588971520, .float .f64 4602678819172646912, .float .f64 4652007308841189376, .int .i64 16, .int .i64 4, .int .i64 3, .int .i8 0, .int .i64 0, .int .i8 0, .int .i64 1, .int .i64 4, .int .i64 0, .float .f64 4620693217682128896, .float .f64 0] 27))) := HU1.out.trans (Up.alloc _ _)
  clear HU1
  generalize (w1.alloc (.cells #[.float .f64 4621819117588971520, .float .f64 4602678819172646912, .float .f64 4652007308841189376, .int .i64 16, .int .i64 4, .int .i64 3, .int .i8 0, .int .i64 0, .int .i8 0, .int .i64 1, .int .i64 4, .int .i64 0, .float .f64 4620693217682128896, .float .f64 0] 27)) = W1 at *
  generalize w1.heap.size = b at *
  obtain ⟨s0, s1, s2, s3, s4, s5, s6, s7, s8, s9, s10, s11, s12, s13⟩ := HS1.out
  go_upto_region 3 with (go_at_call 12; (with_reducible refine (k12 _).mono ?_); rintro e w2 ⟨A, B, rfl, HTI, HU2⟩)
  clear s0 s1 s2 s3 s4 s5 s6 s7 s8 s9 s10 s11 s12 s13
  have HA2 : Hid (Up W1 w2) := (Up.alloc _ _).trans HU2.out
  have HS2 : Hid (SB w2 b 4621819117588971520 4602678819172646912 4652007308841189376 16 4 3 0 0 0 1 4 0 4620693217682128896 0) := HS1.out.up HA2.out
  clear HU2
  obtain ⟨s0, s1, s2, s3, s4, s5, s6, s7, s8, s9, s10, s11, s12, s13⟩ := HS2.out
  go_upto_region 4 with (go_at_call 13; (with_reducible refine (k13 HTI.out).mono ?_); rintro e w3 ⟨A3, B3, rfl, HC3, HU3⟩)
  clear s0 s1 s2 s3 s4 s5 s6 s7 s8 s9 s10 s11 s12 s13
  have HS3 : Hid (SB w3 b 4621819117588971520 4602678819172646912 4652007308841189376 16 4 3 0 0 0 1 4 0 4620693217682128896 0) := HS2.out.up HU3.out
  obtain ⟨s0, s1, s2, s3, s4, s5, s6, s7, s8, s9, s10, s11, s12, s13⟩ := HS3.out
  go_upto_region 5 with (go_at_call 24; (with_reducible refine (k24 (HTI.out.up HU3.out)).mono ?_); rintro e w4 ⟨g, rfl, HP4, HU4⟩)
  clear s0 s1 s2 s3 s4 s5 s6 s7 s8 s9 s10 s11 s12 s13
  have HS4 : Hid (SB w4 b 4621819117588971520 4602678819172646912 4652007308841189376 16 4 3 0 0 0 1 4 0 4620693217682128896 0) := HS3.out.up HU4.out
  obtain ⟨s0, s1, s2, s3, s4, s5, s6, s7, s8, s9, s10, s11, s12, s13⟩ := HS4.out
  obtain ⟨c1, c2⟩ := HC3.out
  replace c1 := cell_up c1 HU4.out
  replace c2 := cell_up c2 HU4.out
  obtain ⟨d0, d1, d2, d3, d4⟩ := HP4.out
  simp only [Nat.zero_add] at d0 d1 d2 d3 d4
  go_upto_region 9 with fail
  have HX : Hid (SB (w4.alloc (.cells #[.float .f64 4621819117588971520, .float .f64 4602678819172646912, .float .f64 4652007308841189376, .int .i64 16, .int .i64 4, .int .i64 99, .int .i8 0, .int .i64 0, .int .i8 0, .int .i64 1, .int .i64 4, .int .i64 0, .float .f64 4620693217682128896, .float .f64 0] 27)) w4.heap.size 4621819117588971520 4602678819172646912 4652007308841189376 16 4 99 0 0 0 1 4 0 4620693217682128896 0) := SB.new w4 _ _ _ _ _ _ _ _ _ _ _ _ _ _
  have HSY : Hid (SB (w4.alloc (.cells #[.float .f64 4621819117588971520, .float .f64 4602678819172646912, .float .f64 4652007308841189376, .int .i64 16, .int .i64 4, .int .i64 99, .int .i8 0, .int .i64 0, .int .i8 0, .int .i64 1, .int .i64 4, .int .i64 0, .float .f64 4620693217682128896, .float .f64 0] 27)) b 4621819117588971520 4602678819172646912 4652007308841189376 16 4 3 0 0 0 1 4 0 4620693217682128896 0) := HS4.out.up (Up.alloc _ _)
  have HA4 : Hid (Up w (w4.alloc (.cells #[.float .f64 4621819117588971520, .float .f64 4602678819172646912, .float .f64 4652007308841189376, .int .i64 16, .int .i64 4, .int .i64 99, .int .i8 0, .int .i64 0, .int .i8 0, .int .i64 1, .int .i64 4, .int .i64 0, .float .f64 4620693217682128896, .float .f64 0] 27))) := (((HA1.out.trans HA2.out).trans HU3.out).trans HU4.out).trans (Up.alloc _ _)
  clear s0 s1 s2 s3 s4 s5 s6 s7 s8 s9 s10 s11 s12 s13
  replace c1 := cell_up c1 (Up.alloc w4 (.cells #[.float .f64 4621819117588971520, .float .f64 4602678819172646912, .float .f64 4652007308841189376, .int .i64 16, .int .i64 4, .int .i64 99, .int .i8 0, .int .i64 0, .int .i8 0, .int .i64 1, .int .i64 4, .int .i64 0, .float .f64 4620693217682128896, .float .f64 0] 27))
  replace c2 := cell_up c2 (Up.alloc w4 (.cells #[.float .f64 4621819117588971520, .float .f64 4602678819172646912, .float .f64 4652007308841189376, .int .i64 16, .int .i64 4, .int .i64 99, .int .i8 0, .int .i64 0, .int .i8 0, .int .i64 1, .int .i64 4, .int .i64 0, .float .f64 4620693217682128896, .float .f64 0] 27))
  replace d0 := cell_up d0 (Up.alloc w4 (.cells #[.float .f64 4621819117588971520, .float .f64 4602678819172646912, .float .f64 4652007308841189376, .int .i64 16, .int .i64 4, .int .i64 99, .int .i8 0, .int .i64 0, .int .i8 0, .int .i64 1, .int .i64 4, .int .i64 0, .float .f64 4620693217682128896, .float .f64 0] 27))
  replace d3 := cell_up d3 (Up.alloc w4 (.cells #[.float .f64 4621819117588971520, .float .f64 4602678819172646912, .float .f64 4652007308841189376, .int .i64 16, .int .i64 4, .int .i64 99, .int .i8 0, .int .i64 0, .int .i8 0, .int .i64 1, .int .i64 4, .int .i64 0, .float .f64 4620693217682128896, .float .f64 0] 27))
  replace d4 := cell_up d4 (Up.alloc w4 (.cells #[.float .f64 4621819117588971520, .float .f64 4602678819172646912, .float .f64 4652007308841189376, .int .i64 16, .int .i64 4, .int .i64 99, .int .i8 0, .int .i64 0, .int .i8 0, .int .i64 1, .int .i64 4, .int .i64 0, .float .f64 4620693217682128896, .float .f64 0] 27))
  clear d1 d2 HS1 HS2 HS3 HS4 HTI HC3 HP4 HU3 HU4 HA1 HA2
  generalize (w4.alloc (.cells #[.float .f64 4621819117588971520, .float .f64 4602678819172646912, .float .f64 4652007308841189376, .int .i64 16, .int .i64 4, .int .i64 99, .int .i8 0, .int .i64 0, .int .i8 0, .int .i64 1, .int .i64 4, .int .i64 0, .float .f64 4620693217682128896, .float .f64 0] 27)) = W5 at *
  generalize w4.heap.size = b9 at *
  obtain ⟨s0, s1, s2, s3, s4, s5, s6, s7, s8, s9, s10, s11, s12, s13⟩ := HSY.out
  go_wp2_with (first
    | (go_at_call 6; (with_reducible refine (k6 _).mono ?_); rintro e w6 ⟨rfl, HU6⟩; clear s0 s1 s2 s3 s4 s5 s6 s7 s8 s9 s10 s11 s12 s13; (have HX6 : Hid (SB w6 b9 4621819117588971520 4602678819172646912 4652007308841189376 16 4 99 0 0 0 1 4 0 4620693217682128896 0) := HX.out.up HU6.out); (obtain ⟨s0, s1, s2, s3, s4, s5, s6, s7, s8, s9, s10, s11, s12, s13⟩ := HX6.out))
    | (go_at_call 6; (with_reducible refine (k6b _).mono ?_); rintro e w7 ⟨rfl, HU7⟩))
  go_ret
  exact ⟨rfl, (HA4.out.trans HU6.out).trans HU7.out⟩
end Go.Proofs.YtflngnnoibkkoaaGreat
