/- The walk of SceneKnown. -/
import Derived.Test.YthifemkbemhmnaaDc
namespace Go.Proofs.Ythifemkbemhmnaa
open Go.ChangeShapes Go.WideShapes Go.ChangeAt Go.RowKit Go.Fl Ieee
attribute [local go_sem] run_store_float run_store_c isSome_set call69 call32 run_neg fold_eq fold_ne fold_lt fold_gt abs_eq

theorem Made.up {n g : Nat} {w w' : World} (h : Made n g w w') : Up w w' := h.2.2
theorem KS.start {w W : World} (u : Up w W) : KS w (pulse2 (W.alloc (.cells #[.float .f64 4621819117588971520, .float .f64 4602678819172646912, .float .f64 4652007308841189376, .int .i64 8, .int .i64 2] 31))) W.heap.size (W.heap.size + 1) [] := by
  have q := rd_p2 (W.alloc (.cells #[.float .f64 4621819117588971520, .float .f64 4602678819172646912, .float .f64 4652007308841189376, .int .i64 8, .int .i64 2] 31))
  rw [size_one] at q
  exact ⟨(BC.new W _ _ _ _ _).up (Up.alloc _ _), q, (u.trans (Up.alloc _ _)).trans (Up.alloc _ _), fun t ht => by cases ht⟩
set_option maxRecDepth 100000 in
set_option maxHeartbeats 16000000 in
theorem t4 (w : World) : Calls Try.prog 4 #[] w (TU w) := by
  have q1 : eqF (ab 4607182418800017408) (ab 4607182418800017408) = true := by decide +kernel
  have q2 : eqF (ab 0) (ab 0) = true := by decide +kernel
  go_enter Try.func4, Try.ntmps4
  go_wp2_with (go_at_call 13; (with_reducible refine (t13 _).mono ?_); rintro e wa ⟨rfl, u1⟩)
  have HS : Hid (KS w (pulse2 (wa.alloc (.cells #[.float .f64 4621819117588971520, .float .f64 4602678819172646912, .float .f64 4652007308841189376, .int .i64 8, .int .i64 2] 31))) wa.heap.size (wa.heap.size + 1) []) := KS.start u1.out
  clear u1
  (with_reducible refine (ex HS.out).mono ?_)
  rintro e W1 ⟨A1, B1, rfl, HT⟩
  clear HS
  have HS := HT
  clear HT
  generalize wa.heap.size = g at *
  generalize g + 1 = gp at *
  obtain ⟨c0, c1, c2, c3, c4⟩ := HS.out.bc
  go_wp2_with (first
    | (go_at_call 7; (with_reducible refine (ey HS.out).mono ?_); rintro e W2 ⟨A2, B2, rfl, HT⟩; clear HS c0 c1 c2 c3 c4; have HS := HT; clear HT; obtain ⟨c0, c1, c2, c3, c4⟩ := HS.out.bc)
    | (go_at_call 7; (with_reducible refine (ez HS.out).mono ?_); rintro e W3 ⟨A3, B3, rfl, HT⟩; clear HS c0 c1 c2 c3 c4; have HS := HT; clear HT; obtain ⟨c0, c1, c2, c3, c4⟩ := HS.out.bc)
    | (go_at_call 7; (with_reducible refine (ew HS.out).mono ?_); rintro e W4 ⟨A4, B4, rfl, HT⟩; clear HS c0 c1 c2 c3 c4; have HS := HT; clear HT; obtain ⟨c0, c1, c2, c3, c4⟩ := HS.out.bc))
  go_region_held3 (fun w' => w'.cell? ⟨g, 0, none⟩ = some (.float .f64 4621819117588971520) ∧ w'.cell? ⟨g, 1, none⟩ = some (.float .f64 4602678819172646912) ∧ w'.cell? ⟨g, 2, none⟩ = some (.float .f64 4652007308841189376) ∧ w'.cell? ⟨g, 3, none⟩ = some (.int .i64 8) ∧ w'.cell? ⟨g, 4, none⟩ = some (.int .i64 2))
    (first
      | go_keep
      | exact ⟨HT.out.bc.c0, HT.out.bc.c1, HT.out.bc.c2, HT.out.bc.c3, HT.out.bc.c4⟩)
    (first
      | (go_at_call 14; (with_reducible refine (t14 _).mono ?_); rintro e w' ⟨rfl, hw⟩; subst w')
      | (go_at_call 7; (with_reducible refine (eqe (HS.out.grow (Up.drew _))).mono ?_); rintro e W5 ⟨A5, B5, rfl, HT⟩))
  clear HS c0 c1 c2 c3 c4
  have HS := HT
  clear HT
  obtain ⟨c0, c1, c2, c3, c4⟩ := HS.out.bc
  go_wp2_with (first
    | (go_at_call 7; (with_reducible refine (em HS.out).mono ?_); rintro e W6 ⟨A6, B6, rfl, HT⟩; clear HS c0 c1 c2 c3 c4; have HS := HT; clear HT; obtain ⟨c0, c1, c2, c3, c4⟩ := HS.out.bc)
    | ((fail_if_success have := HZ); go_at_call 15; (with_reducible refine (t15k (B := B3) HS.out (by simp)).mono ?_); rintro e W7 ⟨rfl, HT⟩; clear HS c0 c1 c2 c3 c4; have HS := HT; have HZ := HT; clear HT; obtain ⟨c0, c1, c2, c3, c4⟩ := HS.out.bc)
    | (go_at_call 15; (with_reducible refine (t15k (B := B4) HS.out (by simp)).mono ?_); rintro e W8 ⟨rfl, HT⟩; clear HS c0 c1 c2 c3 c4; have HS := HT; clear HT; obtain ⟨c0, c1, c2, c3, c4⟩ := HS.out.bc
       have ax0 : W8.cell? ⟨A1, 0, none⟩ = some (.slice (some ⟨B1, 0, none⟩) 8 8) := (HS.out.tb (A1, B1, kx) (by simp)).1 0 (by omega)
       have ax1 : W8.cell? ⟨A1, 1, none⟩ = some (.slice (some ⟨B1, 8, none⟩) 8 8) := (HS.out.tb (A1, B1, kx) (by simp)).1 1 (by omega)
       have bx7 : W8.cell? ⟨B1, 7, none⟩ = some (.complex .f64 4607182418800017408 0) := (HS.out.tb (A1, B1, kx) (by simp)).2 7 (by omega)
       have bx8 : W8.cell? ⟨B1, 8, none⟩ = some (.complex .f64 4607182418800017408 0) := (HS.out.tb (A1, B1, kx) (by simp)).2 8 (by omega)
       have bx15 : W8.cell? ⟨B1, 15, none⟩ = some (.complex .f64 4607182418800017408 0) := (HS.out.tb (A1, B1, kx) (by simp)).2 15 (by omega)
       have ay0 : W8.cell? ⟨A2, 0, none⟩ = some (.slice (some ⟨B2, 0, none⟩) 8 8) := (HS.out.tb (A2, B2, ky) (by simp)).1 0 (by omega)
       have ay1 : W8.cell? ⟨A2, 1, none⟩ = some (.slice (some ⟨B2, 8, none⟩) 8 8) := (HS.out.tb (A2, B2, ky) (by simp)).1 1 (by omega)
       have by9 : W8.cell? ⟨B2, 9, none⟩ = some (.complex .f64 4607182418800017408 0) := (HS.out.tb (A2, B2, ky) (by simp)).2 9 (by omega)
       have by10 : W8.cell? ⟨B2, 10, none⟩ = some (.complex .f64 4607182418800017408 0) := (HS.out.tb (A2, B2, ky) (by simp)).2 10 (by omega)
       have by1 : W8.cell? ⟨B2, 1, none⟩ = some (.complex .f64 0 0) := (HS.out.tb (A2, B2, ky) (by simp)).2 1 (by omega)
       have aq0 : W8.cell? ⟨A5, 0, none⟩ = some (.slice (some ⟨B5, 0, none⟩) 8 8) := (HS.out.tb (A5, B5, kq) (by simp)).1 0 (by omega)
       have bq3 : W8.cell? ⟨B5, 3, none⟩ = some (.complex .f64 0 4607182418800017408) := (HS.out.tb (A5, B5, kq) (by simp)).2 3 (by omega)
       have am0 : W8.cell? ⟨A6, 0, none⟩ = some (.slice (some ⟨B6, 0, none⟩) 8 8) := (HS.out.tb (A6, B6, km) (by simp)).1 0 (by omega)
       have am1 : W8.cell? ⟨A6, 1, none⟩ = some (.slice (some ⟨B6, 8, none⟩) 8 8) := (HS.out.tb (A6, B6, km) (by simp)).1 1 (by omega)
       have bm3 : W8.cell? ⟨B6, 3, none⟩ = some (.complex .f64 4607182418800017408 0) := (HS.out.tb (A6, B6, km) (by simp)).2 3 (by omega)
       have bm12 : W8.cell? ⟨B6, 12, none⟩ = some (.complex .f64 4607182418800017408 0) := (HS.out.tb (A6, B6, km) (by simp)).2 12 (by omega)
       have bm11 : W8.cell? ⟨B6, 11, none⟩ = some (.complex .f64 0 0) := (HS.out.tb (A6, B6, km) (by simp)).2 11 (by omega))
    | (go_at_call 7; (with_reducible refine (r1 HS.out).mono ?_); rintro e W9 ⟨rfl, HT, HV⟩; clear HS c0 c1 c2 c3 c4 HZ ax0 ax1 bx7 bx8 bx15 ay0 ay1 by9 by10 by1 aq0 bq3 am0 am1 bm3 bm12 bm11; have HS := HT; clear HT HV; obtain ⟨c0, c1, c2, c3, c4⟩ := HS.out.bc))
  go_region_held3 (fun w' => w'.cell? ⟨g, 0, none⟩ = some (.float .f64 4621819117588971520) ∧ w'.cell? ⟨g, 1, none⟩ = some (.float .f64 4602678819172646912) ∧ w'.cell? ⟨g, 2, none⟩ = some (.float .f64 4652007308841189376) ∧ w'.cell? ⟨g, 3, none⟩ = some (.int .i64 8) ∧ w'.cell? ⟨g, 4, none⟩ = some (.int .i64 2))
    (first
      | go_keep
      | exact ⟨HT.out.bc.c0, HT.out.bc.c1, HT.out.bc.c2, HT.out.bc.c3, HT.out.bc.c4⟩)
    (first
      | (go_at_call 14; (with_reducible refine (t14 _).mono ?_); rintro e w' ⟨rfl, hw⟩; subst w')
      | (go_at_call 7; (with_reducible refine (r2 (HS.out.grow (Up.drew _))).mono ?_); rintro e W10 ⟨rfl, HT, HV⟩))
  clear HS c0 c1 c2 c3 c4
  have HS := HT
  clear HT
  obtain ⟨c0, c1, c2, c3, c4⟩ := HS.out.bc
  clear HV
  go_wp2_with (go_at_call 16; (with_reducible refine (r3 HS.out).mono ?_); rintro e W11 ⟨rfl, HT, HV⟩; clear HS c0 c1 c2 c3 c4; have HS := HT; clear HT HV; obtain ⟨c0, c1, c2, c3, c4⟩ := HS.out.bc)
  go_region_held3 (fun w' => w'.cell? ⟨g, 0, none⟩ = some (.float .f64 4621819117588971520) ∧ w'.cell? ⟨g, 1, none⟩ = some (.float .f64 4602678819172646912) ∧ w'.cell? ⟨g, 2, none⟩ = some (.float .f64 4652007308841189376) ∧ w'.cell? ⟨g, 3, none⟩ = some (.int .i64 8) ∧ w'.cell? ⟨g, 4, none⟩ = some (.int .i64 2))
    (first
      | go_keep
      | exact ⟨HT.out.bc.c0, HT.out.bc.c1, HT.out.bc.c2, HT.out.bc.c3, HT.out.bc.c4⟩
      | (go_split_ands; refine ⟨cell_up ?_ hm.out, cell_up ?_ hm.out, cell_up ?_ hm.out, cell_up ?_ hm.out, cell_up ?_ hm.out⟩ <;> assumption))
    (first
      | ((with_reducible refine upon_makeT ?_); intro gq W12 hm)
      | (go_at_call 16; (with_reducible refine (r4 (HS.out.grow ((Up.drew _).trans hm.out))).mono ?_); rintro e W13 ⟨rfl, HT, HV⟩))
  clear HS c0 c1 c2 c3 c4
  have HS := HT
  clear HT
  obtain ⟨c0, c1, c2, c3, c4⟩ := HS.out.bc
  clear HV hm
  go_wp2_with (go_at_call 7; (with_reducible refine (r5 HS.out).mono ?_); rintro e W14 ⟨rfl, HT, HV⟩; clear HS c0 c1 c2 c3 c4; have HS := HT; clear HT HV; obtain ⟨c0, c1, c2, c3, c4⟩ := HS.out.bc)
  go_region_held3 (fun w' => w'.cell? ⟨g, 0, none⟩ = some (.float .f64 4621819117588971520) ∧ w'.cell? ⟨g, 1, none⟩ = some (.float .f64 4602678819172646912) ∧ w'.cell? ⟨g, 2, none⟩ = some (.float .f64 4652007308841189376) ∧ w'.cell? ⟨g, 3, none⟩ = some (.int .i64 8) ∧ w'.cell? ⟨g, 4, none⟩ = some (.int .i64 2))
    (first
      | go_keep
      | exact ⟨HT.out.bc.c0, HT.out.bc.c1, HT.out.bc.c2, HT.out.bc.c3, HT.out.bc.c4⟩
      | (go_split_ands; refine ⟨cell_up ?_ (Made.up hm.out), cell_up ?_ (Made.up hm.out), cell_up ?_ (Made.up hm.out), cell_up ?_ (Made.up hm.out), cell_up ?_ (Made.up hm.out)⟩ <;> assumption))
    (first
      | ((with_reducible refine upon_makeCz 16385 rfl (by omega) ?_); intro gr W15 hm)
      | (go_at_call 7; (with_reducible refine (r6 (HS.out.grow ((Up.drew _).trans (Made.up hm.out)))).mono ?_); rintro e W16 ⟨rfl, HT, HV⟩))
  clear HS c0 c1 c2 c3 c4
  have HS := HT
  clear HT
  obtain ⟨c0, c1, c2, c3, c4⟩ := HS.out.bc
  clear HV hm
  go_wp2_with fail
  go_region_held3 (fun w' => w'.cell? ⟨g, 0, none⟩ = some (.float .f64 4621819117588971520) ∧ w'.cell? ⟨g, 1, none⟩ = some (.float .f64 4602678819172646912) ∧ w'.cell? ⟨g, 2, none⟩ = some (.float .f64 4652007308841189376) ∧ w'.cell? ⟨g, 3, none⟩ = some (.int .i64 8) ∧ w'.cell? ⟨g, 4, none⟩ = some (.int .i64 2))
    (first
      | go_keep
      | exact ⟨HT.out.bc.c0, HT.out.bc.c1, HT.out.bc.c2, HT.out.bc.c3, HT.out.bc.c4⟩)
    (first
      | (go_at_call 17; (with_reducible refine (t17 _).mono ?_); rintro e w' ⟨rfl, hw⟩; subst w')
      | (go_at_call 16; (with_reducible refine (r7 (HS.out.grow (Up.drew _))).mono ?_); rintro e W17 ⟨rfl, HT, HV⟩))
  clear HS c0 c1 c2 c3 c4
  have HS := HT
  clear HT
  obtain ⟨c0, c1, c2, c3, c4⟩ := HS.out.bc
  clear HV
  have HS0 : Hid (KS w W17 g gp []) := ⟨HS.out.bc, HS.out.rp, HS.out.up, fun t ht => by cases ht⟩
  clear HS c0 c1 c2 c3 c4
  go_wp2
  go_loopw [30] (fun vi wr => ∃ z : Nat, z ≤ 4 ∧ vi = .int .i64 z ∧ Hid (KS w wr g gp [])) (fun vi _ => 4 - (intOf vi).toNat)
  case atStart => exact ⟨0, by omega, rfl, HS0⟩
  case round =>
    clear HS0
    obtain ⟨z, hz, rfl, HS⟩ := hrel
    obtain rfl | rfl | rfl | rfl | rfl : z = 0 ∨ z = 1 ∨ z = 2 ∨ z = 3 ∨ z = 4 := by omega
    · have o0 : (wr.alloc (.cells #[.float .f64 9221120237041090561, .float .f64 0, .float .f64 0, .float .f64 0] 53)).cell? ⟨wr.heap.size, 0, none⟩ = some (.float .f64 9221120237041090561) := new_cell _ _ _ _ _ rfl
      have o1 : (wr.alloc (.cells #[.float .f64 9221120237041090561, .float .f64 0, .float .f64 0, .float .f64 0] 53)).cell? ⟨wr.heap.size, 1, none⟩ = some (.float .f64 0) := new_cell _ _ _ _ _ rfl
      have o2 : (wr.alloc (.cells #[.float .f64 9221120237041090561, .float .f64 0, .float .f64 0, .float .f64 0] 53)).cell? ⟨wr.heap.size, 2, none⟩ = some (.float .f64 0) := new_cell _ _ _ _ _ rfl
      have o3 : (wr.alloc (.cells #[.float .f64 9221120237041090561, .float .f64 0, .float .f64 0, .float .f64 0] 53)).cell? ⟨wr.heap.size, 3, none⟩ = some (.float .f64 0) := new_cell _ _ _ _ _ rfl
      have HSo : Hid (KS w (wr.alloc (.cells #[.float .f64 9221120237041090561, .float .f64 0, .float .f64 0, .float .f64 0] 53)) g gp []) := HS.out.grow (Up.alloc _ _)
      obtain ⟨c0, c1, c2, c3, c4⟩ := HSo.out.bc
      clear HS
      go_wp2_with (first
        | (go_at_call 14; (with_reducible refine (t14 _).mono ?_); rintro e w' ⟨rfl, hw⟩; subst w')
        | (go_at_call 7; (with_reducible refine (r2 HSo.out).mono ?_); rintro e W18 ⟨rfl, HT, HV⟩; replace o0 := cell_up o0 HV.out; replace o1 := cell_up o1 HV.out; replace o2 := cell_up o2 HV.out; replace o3 := cell_up o3 HV.out; clear c0 c1 c2 c3 c4; obtain ⟨c0, c1, c2, c3, c4⟩ := HT.out.bc)
        | (go_at_call 16; (with_reducible refine (rn HT.out (by decide +kernel) (by simp) rfl).mono ?_); rintro e W19 ⟨rfl, HT2, HV2⟩))
      go_roundw
      case rel => exact ⟨1, by omega, rfl, HT2⟩
      case measure => simp [intOf]
    · have o0 : (wr.alloc (.cells #[.float .f64 0, .float .f64 9221120237041090561, .float .f64 0, .float .f64 0] 53)).cell? ⟨wr.heap.size, 0, none⟩ = some (.float .f64 0) := new_cell _ _ _ _ _ rfl
      have o1 : (wr.alloc (.cells #[.float .f64 0, .float .f64 9221120237041090561, .float .f64 0, .float .f64 0] 53)).cell? ⟨wr.heap.size, 1, none⟩ = some (.float .f64 9221120237041090561) := new_cell _ _ _ _ _ rfl
      have o2 : (wr.alloc (.cells #[.float .f64 0, .float .f64 9221120237041090561, .float .f64 0, .float .f64 0] 53)).cell? ⟨wr.heap.size, 2, none⟩ = some (.float .f64 0) := new_cell _ _ _ _ _ rfl
      have o3 : (wr.alloc (.cells #[.float .f64 0, .float .f64 9221120237041090561, .float .f64 0, .float .f64 0] 53)).cell? ⟨wr.heap.size, 3, none⟩ = some (.float .f64 0) := new_cell _ _ _ _ _ rfl
      have HSo : Hid (KS w (wr.alloc (.cells #[.float .f64 0, .float .f64 9221120237041090561, .float .f64 0, .float .f64 0] 53)) g gp []) := HS.out.grow (Up.alloc _ _)
      obtain ⟨c0, c1, c2, c3, c4⟩ := HSo.out.bc
      clear HS
      go_wp2_with (first
        | (go_at_call 14; (with_reducible refine (t14 _).mono ?_); rintro e w' ⟨rfl, hw⟩; subst w')
        | (go_at_call 7; (with_reducible refine (n1 HSo.out).mono ?_); rintro e W18 ⟨rfl, HT, HV⟩; replace o0 := cell_up o0 HV.out; replace o1 := cell_up o1 HV.out; replace o2 := cell_up o2 HV.out; replace o3 := cell_up o3 HV.out; clear c0 c1 c2 c3 c4; obtain ⟨c0, c1, c2, c3, c4⟩ := HT.out.bc)
        | (go_at_call 16; (with_reducible refine (rn HT.out (by decide +kernel) (by simp) rfl).mono ?_); rintro e W19 ⟨rfl, HT2, HV2⟩))
      go_roundw
      case rel => exact ⟨2, by omega, rfl, HT2⟩
      case measure => simp [intOf]
    · have o0 : (wr.alloc (.cells #[.float .f64 0, .float .f64 0, .float .f64 9221120237041090561, .float .f64 0] 53)).cell? ⟨wr.heap.size, 0, none⟩ = some (.float .f64 0) := new_cell _ _ _ _ _ rfl
      have o1 : (wr.alloc (.cells #[.float .f64 0, .float .f64 0, .float .f64 9221120237041090561, .float .f64 0] 53)).cell? ⟨wr.heap.size, 1, none⟩ = some (.float .f64 0) := new_cell _ _ _ _ _ rfl
      have o2 : (wr.alloc (.cells #[.float .f64 0, .float .f64 0, .float .f64 9221120237041090561, .float .f64 0] 53)).cell? ⟨wr.heap.size, 2, none⟩ = some (.float .f64 9221120237041090561) := new_cell _ _ _ _ _ rfl
      have o3 : (wr.alloc (.cells #[.float .f64 0, .float .f64 0, .float .f64 9221120237041090561, .float .f64 0] 53)).cell? ⟨wr.heap.size, 3, none⟩ = some (.float .f64 0) := new_cell _ _ _ _ _ rfl
      have HSo : Hid (KS w (wr.alloc (.cells #[.float .f64 0, .float .f64 0, .float .f64 9221120237041090561, .float .f64 0] 53)) g gp []) := HS.out.grow (Up.alloc _ _)
      obtain ⟨c0, c1, c2, c3, c4⟩ := HSo.out.bc
      clear HS
      go_wp2_with (first
        | (go_at_call 14; (with_reducible refine (t14 _).mono ?_); rintro e w' ⟨rfl, hw⟩; subst w')
        | (go_at_call 7; (with_reducible refine (n2 HSo.out).mono ?_); rintro e W18 ⟨rfl, HT, HV⟩; replace o0 := cell_up o0 HV.out; replace o1 := cell_up o1 HV.out; replace o2 := cell_up o2 HV.out; replace o3 := cell_up o3 HV.out; clear c0 c1 c2 c3 c4; obtain ⟨c0, c1, c2, c3, c4⟩ := HT.out.bc)
        | (go_at_call 16; (with_reducible refine (rn HT.out (by decide +kernel) (by simp) rfl).mono ?_); rintro e W19 ⟨rfl, HT2, HV2⟩))
      go_roundw
      case rel => exact ⟨3, by omega, rfl, HT2⟩
      case measure => simp [intOf]
    · have o0 : (wr.alloc (.cells #[.float .f64 0, .float .f64 0, .float .f64 0, .float .f64 9221120237041090561] 53)).cell? ⟨wr.heap.size, 0, none⟩ = some (.float .f64 0) := new_cell _ _ _ _ _ rfl
      have o1 : (wr.alloc (.cells #[.float .f64 0, .float .f64 0, .float .f64 0, .float .f64 9221120237041090561] 53)).cell? ⟨wr.heap.size, 1, none⟩ = some (.float .f64 0) := new_cell _ _ _ _ _ rfl
      have o2 : (wr.alloc (.cells #[.float .f64 0, .float .f64 0, .float .f64 0, .float .f64 9221120237041090561] 53)).cell? ⟨wr.heap.size, 2, none⟩ = some (.float .f64 0) := new_cell _ _ _ _ _ rfl
      have o3 : (wr.alloc (.cells #[.float .f64 0, .float .f64 0, .float .f64 0, .float .f64 9221120237041090561] 53)).cell? ⟨wr.heap.size, 3, none⟩ = some (.float .f64 9221120237041090561) := new_cell _ _ _ _ _ rfl
      have HSo : Hid (KS w (wr.alloc (.cells #[.float .f64 0, .float .f64 0, .float .f64 0, .float .f64 9221120237041090561] 53)) g gp []) := HS.out.grow (Up.alloc _ _)
      obtain ⟨c0, c1, c2, c3, c4⟩ := HSo.out.bc
      clear HS
      go_wp2_with (first
        | (go_at_call 14; (with_reducible refine (t14 _).mono ?_); rintro e w' ⟨rfl, hw⟩; subst w')
        | (go_at_call 7; (with_reducible refine (n3 HSo.out).mono ?_); rintro e W18 ⟨rfl, HT, HV⟩; replace o0 := cell_up o0 HV.out; replace o1 := cell_up o1 HV.out; replace o2 := cell_up o2 HV.out; replace o3 := cell_up o3 HV.out; clear c0 c1 c2 c3 c4; obtain ⟨c0, c1, c2, c3, c4⟩ := HT.out.bc)
        | (go_at_call 16; (with_reducible refine (rn HT.out (by decide +kernel) (by simp) rfl).mono ?_); rintro e W19 ⟨rfl, HT2, HV2⟩))
      go_roundw
      case rel => exact ⟨4, by omega, rfl, HT2⟩
      case measure => simp [intOf]
    · go_wp2_with (go_at_call 6; (with_reducible refine (t6 _).mono ?_); rintro e W20 ⟨rfl, u20⟩)
      go_ret
      exact ⟨rfl, HS.out.up.trans u20.out⟩
end Go.Proofs.Ythifemkbemhmnaa
