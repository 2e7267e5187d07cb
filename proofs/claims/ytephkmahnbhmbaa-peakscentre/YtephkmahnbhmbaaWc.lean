/- PeaksCentre: the walk. -/
import Derived.Test.YtephkmahnbhmbaaWb
import Derived.Test.YtephkmahnbhmbaaVa
namespace Go.Proofs.Ytephkmahnbhmbaa
open Go.ChangeShapes Go.WideShapes Go.ChangeAt Go.RowKit Go.Fl Go.Sort
attribute [local go_sem] run_store_float call52 run_neg fold_eq fold_ne fold_lt fold_gt abs_eq
set_option maxRecDepth 20000
theorem t20s {x y : Nat} (h : ab x = ab y) (w : World) : Calls Try.prog 20 #[.float .f64 x, .float .f64 y] w fun e w' => e = .returned (.bool true) ∧ w' = w :=
  (t20 x y w).mono fun _ _ ⟨h1, h2⟩ => ⟨by rw [h1, h]; simp, h2⟩
theorem eg17 (args : Array Value) (w : World) : (callFunc 17 args).run Try.prog w = .ok (.enter 17 args) w := enters Try.func17 (by kernel_rfl) (by kernel_rfl) _ _
theorem eg21 (args : Array Value) (w : World) : (callFunc 21 args).run Try.prog w = .ok (.enter 21 args) w := enters Try.func21 (by kernel_rfl) (by kernel_rfl) _ _
theorem eg22 (args : Array Value) (w : World) : (callFunc 22 args).run Try.prog w = .ok (.enter 22 args) w := enters Try.func22 (by kernel_rfl) (by kernel_rfl) _ _
theorem eg20 (args : Array Value) (w : World) : (callFunc 20 args).run Try.prog w = .ok (.enter 20 args) w := enters Try.func20 (by kernel_rfl) (by kernel_rfl) _ _
theorem eg13 (args : Array Value) (w : World) : (callFunc 13 args).run Try.prog w = .ok (.enter 13 args) w := enters Try.func13 (by kernel_rfl) (by kernel_rfl) _ _
theorem ends_true {w W : World} (h : Up w W) : (fun (e : Ending) w' => e = Ending.returned (.bool true) ∧ Hid (Up w w')) (.returned (.bool true)) W := ⟨rfl, h⟩
set_option maxHeartbeats 4000000 in
theorem t5k {w : World} {p : Option Addr} {n cap : Nat} {d : Array Spt} (bins : Int) (h0 h1 h2 : Nat) (h : SpV w p n cap d) (hf1 : (n + 1) * 24 ≤ 140737488355328) : Calls Try.prog 5 #[.slice p n cap, .int .i64 bins, .agg #[.float .f64 h0, .float .f64 h1, .float .f64 h2]] w fun e w' => e = .returned (.bool true) ∧ Hid (Up w w') := by
  have HU0 : Hid (Up w (w.alloc (.cells #[.float .f64 h0, .float .f64 h1, .float .f64 h2] 37))) := Up.alloc _ _
  have HC0 : Hid _ := three_box w (.float .f64 h0) (.float .f64 h1) (.float .f64 h2) 37
  have HSV : Hid (SpV w p n cap d) := h
  have C14 : Hid (Calls Try.prog 14 #[.slice p n cap] (w.alloc (.cells #[.float .f64 h0, .float .f64 h1, .float .f64 h2] 37)) fun e w' => ∃ g c, e = .returned (.slice (some ⟨g, 0, none⟩) n c) ∧ Hid (Lent w' g c d ∧ (w.alloc (.cells #[.float .f64 h0, .float .f64 h1, .float .f64 h2] 37)).heap.size ≤ g) ∧ Hid (Up (w.alloc (.cells #[.float .f64 h0, .float .f64 h1, .float .f64 h2] 37)) w')) := t14 (h.up HU0.out) hf1
  clear h
  go_enter Try.func5, Try.ntmps5
  go_wp2_with (first
    | (go_at_call 14; (with_reducible refine C14.out.mono ?_); rintro e w3 ⟨g, c, rfl, HL, HU3⟩; (have HU03 : Hid (Up w w3) := HU0.out.trans HU3.out); (have C18 : Hid (Calls Try.prog 18 #[.slice (some ⟨g, 0, none⟩) n c, .int .i64 bins] w3 (CR w3 n (centF d n bins))) := t18 bins (HL.out.1.view HSV.out.len HSV.out.few HSV.out.wf HSV.out.fit)))
    | (go_at_call 18; (with_reducible refine C18.out.mono ?_); rintro e w4 ⟨x1, x2, x3, rfl, HX, HU4⟩; (have C19 : Hid (Calls Try.prog 19 #[.slice p n cap, .int .i64 bins] (w4.alloc (row4 x1 x2 x3 n)) (CR (w4.alloc (row4 x1 x2 x3 n)) n (centF d n bins))) := t19 bins (HSV.out.up (HU03.out.trans (HU4.out.trans (Up.alloc _ _))))); simp only [row4] at C19)
    | (go_at_call 19; (with_reducible refine C19.out.mono ?_); rintro e w5 ⟨y1, y2, y3, rfl, HY, HU5⟩;
       (have HRX : Hid ((w5.alloc (row4 y1 y2 y3 n)).heap[w4.heap.size]? = some (row4 x1 x2 x3 n)) := row4_up (row4_up (heap_alloc_last w4 (row4 x1 x2 x3 n)) HU5.out) (Up.alloc _ _));
       (have HRY : Hid ((w5.alloc (row4 y1 y2 y3 n)).heap[w5.heap.size]? = some (row4 y1 y2 y3 n)) := heap_alloc_last _ _);
       (have HW : Hid (Up w3 (w5.alloc (row4 y1 y2 y3 n))) := (HU4.out.trans (Up.alloc _ _)).trans (HU5.out.trans (Up.alloc _ _)));
       (have E1 : Hid (∀ w, Calls Try.prog 20 #[.float .f64 x1, .float .f64 y1] w fun e w' => e = .returned (.bool true) ∧ w' = w) := fun w => t20s (HX.out.1.trans HY.out.1.symm) w);
       (have E2 : Hid (∀ w, Calls Try.prog 20 #[.float .f64 x2, .float .f64 y2] w fun e w' => e = .returned (.bool true) ∧ w' = w) := fun w => t20s (HX.out.2.1.trans HY.out.2.1.symm) w);
       (have E3 : Hid (∀ w, Calls Try.prog 20 #[.float .f64 x3, .float .f64 y3] w fun e w' => e = .returned (.bool true) ∧ w' = w) := fun w => t20s (HX.out.2.2.trans HY.out.2.2.symm) w);
       simp only [row4] at HRX HRY HW; (obtain ⟨⟨r0, r1, r2, r3⟩, -⟩ := row4_cells HRX.out); (obtain ⟨⟨m0, m1, m2, m3⟩, -⟩ := row4_cells HRY.out))
    | (go_at_call 20; (with_reducible refine (E1.out _).mono ?_); rintro e w' ⟨rfl, hw⟩; subst w')
    | (go_at_call 20; (with_reducible refine (E2.out _).mono ?_); rintro e w' ⟨rfl, hw⟩; subst w')
    | (go_at_call 20; (with_reducible refine (E3.out _).mono ?_); rintro e w' ⟨rfl, hw⟩; subst w'))
  clear r0 r1 r2 r3 m0 m1 m2 m3 C14 C18 C19 E1 E2 E3
  have e0 := cell_up HC0.out.1 (HU3.out.trans HW.out)
  have e1 := cell_up HC0.out.2.1 (HU3.out.trans HW.out)
  have e2 := cell_up HC0.out.2.2 (HU3.out.trans HW.out)
  generalize w5.alloc (.cells #[.float .f64 y1, .float .f64 y2, .float .f64 y3, .int .i64 n] 39) = W at *
  generalize hhb : w.heap.size = hb at *
  refine wp_region_shut 26 [(0, none), (1, none), (2, none), (3, none), (4, some true), (5, none), (6, none), (7, none), (8, some false), (9, none), (10, some false), (11, none), (12, some false), (14, none), (15, some false), (16, none), (17, some false), (18, none), (19, some false), (13, some true), (20, some true), (21, some true), (22, none), (23, none), (24, some true), (25, none)] (fun w' => Up W w') (by kernel_rfl) (by decide) rfl (by kernel_rfl) (fun _ _ d _ _ h => by cases d <;> exact h) (Up.drewN W 1) ?_
  refine OrdS.looks (.bool true) (some 45) _ rfl rfl (Or.inl ⟨by kernel_rfl, fun w' hS => ?_⟩) ?_
  · go_simp
  refine OrdS.looks (.bool true) (some 46) _ rfl rfl (Or.inl ⟨by kernel_rfl, fun w' hS => ?_⟩) ?_
  · go_simp
  refine OrdS.looks (.slice (some ⟨g, 0, none⟩) n c) (some 47) _ rfl rfl (Or.inl ⟨by kernel_rfl, fun w' hS => ?_⟩) ?_
  · go_simp
  refine OrdS.looks (.slice p n cap) (some 48) _ rfl rfl (Or.inl ⟨by kernel_rfl, fun w' hS => ?_⟩) ?_
  · go_simp
  refine OrdS.does ?_
  refine wpOp_callG (f := 17) (some 49) rfl rfl (by kernel_rfl) rfl #[.slice (some ⟨g, 0, none⟩) n c, .slice p n cap] (by kernel_rfl) (eg17 _ _) ?_
  refine (t17 (HL.out.1.up ((show Up w3 W from HW.out).trans (Up.drewN W 1))) (HSV.out.up ((HU03.out.trans HW.out).trans (Up.drewN W 1)))).mono ?_
  rintro e wa ⟨rfl, ka, hwa⟩
  subst wa
  have HA : Hid (Up W ((W.drewN 1).drewN ka)) := (show Up W (W.drewN 1) from Up.drewN _ _).trans (Up.drewN _ _)
  refine ⟨_, rfl, HA.out, ?_⟩
  simp only [Act.put, List.setIfInBounds_toArray, List.set_cons_succ, List.set_cons_zero]
  refine OrdS.looks (.bool true) (some 50) _ rfl rfl (Or.inl ⟨by kernel_rfl, fun w' hS => ?_⟩) ?_
  · go_simp
  refine OrdS.looks (.bool true) (some 51) _ rfl rfl (Or.inl ⟨by kernel_rfl, fun w' hS => ?_⟩) ?_
  · go_simp
  refine OrdS.looks (.pointer (some ⟨hb, 0, none⟩)) (some 52) _ rfl rfl (Or.inl ⟨by kernel_rfl, fun w' hS => ?_⟩) ?_
  · go_simp
  refine OrdS.reads (.float .f64 h0) (some 53) _ rfl rfl (Or.inl ⟨by kernel_rfl, fun w' hS => ?_⟩) ?_
  · have q0 := cell_up e0 hS
    have q1 := cell_up e1 hS
    have q2 := cell_up e2 hS
    go_simp
  refine OrdS.looks (.pointer (some ⟨hb, 1, none⟩)) (some 54) _ rfl rfl (Or.inl ⟨by kernel_rfl, fun w' hS => ?_⟩) ?_
  · go_simp
  refine OrdS.reads (.float .f64 h1) (some 55) _ rfl rfl (Or.inl ⟨by kernel_rfl, fun w' hS => ?_⟩) ?_
  · have q0 := cell_up e0 hS
    have q1 := cell_up e1 hS
    have q2 := cell_up e2 hS
    go_simp
  refine OrdS.looks (.pointer (some ⟨hb, 2, none⟩)) (some 56) _ rfl rfl (Or.inl ⟨by kernel_rfl, fun w' hS => ?_⟩) ?_
  · go_simp
  refine OrdS.reads (.float .f64 h2) (some 57) _ rfl rfl (Or.inl ⟨by kernel_rfl, fun w' hS => ?_⟩) ?_
  · have q0 := cell_up e0 hS
    have q1 := cell_up e1 hS
    have q2 := cell_up e2 hS
    go_simp
  refine OrdS.looks (.pointer (some ⟨hb, 0, none⟩)) (some 59) _ rfl rfl (Or.inl ⟨by kernel_rfl, fun w' hS => ?_⟩) ?_
  · go_simp
  refine OrdS.reads (.float .f64 h0) (some 60) _ rfl rfl (Or.inl ⟨by kernel_rfl, fun w' hS => ?_⟩) ?_
  · have q0 := cell_up e0 hS
    have q1 := cell_up e1 hS
    have q2 := cell_up e2 hS
    go_simp
  refine OrdS.looks (.pointer (some ⟨hb, 1, none⟩)) (some 61) _ rfl rfl (Or.inl ⟨by kernel_rfl, fun w' hS => ?_⟩) ?_
  · go_simp
  refine OrdS.reads (.float .f64 h1) (some 62) _ rfl rfl (Or.inl ⟨by kernel_rfl, fun w' hS => ?_⟩) ?_
  · have q0 := cell_up e0 hS
    have q1 := cell_up e1 hS
    have q2 := cell_up e2 hS
    go_simp
  refine OrdS.looks (.pointer (some ⟨hb, 2, none⟩)) (some 63) _ rfl rfl (Or.inl ⟨by kernel_rfl, fun w' hS => ?_⟩) ?_
  · go_simp
  refine OrdS.reads (.float .f64 h2) (some 64) _ rfl rfl (Or.inl ⟨by kernel_rfl, fun w' hS => ?_⟩) ?_
  · have q0 := cell_up e0 hS
    have q1 := cell_up e1 hS
    have q2 := cell_up e2 hS
    go_simp
  simp only [Act.put, List.setIfInBounds_toArray, List.set_cons_succ, List.set_cons_zero]
  refine OrdS.does ?_
  refine wpOp_callG (f := 21) (some 58) rfl rfl (by kernel_rfl) rfl #[.float .f64 h0, .float .f64 h1, .float .f64 h2] (by kernel_rfl) (eg21 _ _) ?_
  refine (t21 _ _ _ _).mono ?_
  rintro e wb ⟨rb, kb, rfl, hwb, HRB⟩
  subst wb
  have HB : Hid (Up W (((W.drewN 1).drewN ka).drewN kb)) := HA.out.trans (Up.drewN _ _)
  refine ⟨_, rfl, HB.out, ?_⟩
  refine OrdS.does ?_
  refine wpOp_callG (f := 22) (some 65) rfl rfl (by kernel_rfl) rfl #[.float .f64 h0, .float .f64 h1, .float .f64 h2] (by kernel_rfl) (eg22 _ _) ?_
  refine (t22 _ _ _ _).mono ?_
  rintro e wd ⟨rd, kd, rfl, hwd, HRD⟩
  subst wd
  have HD : Hid (Up W ((((W.drewN 1).drewN ka).drewN kb).drewN kd)) := HB.out.trans (Up.drewN _ _)
  refine ⟨_, rfl, HD.out, ?_⟩
  refine OrdS.does ?_
  refine wpOp_callG (f := 20) (some 66) rfl rfl (by kernel_rfl) rfl #[.float .f64 rb, .float .f64 rd] (by kernel_rfl) (eg20 _ _) ?_
  refine (t20s (HRB.out.trans HRD.out.symm) _).mono ?_
  rintro e we ⟨rfl, hwe⟩
  subst we
  refine ⟨_, rfl, HD.out, ?_⟩
  simp only [Act.put, List.setIfInBounds_toArray, List.set_cons_succ, List.set_cons_zero]
  refine OrdS.looks (.bool true) (some 67) _ rfl rfl (Or.inl ⟨by kernel_rfl, fun w' hS => ?_⟩) ?_
  · go_simp
  refine OrdS.looks (.bool true) (some 68) _ rfl rfl (Or.inl ⟨by kernel_rfl, fun w' hS => ?_⟩) ?_
  · go_simp
  refine OrdS.does ?_
  refine wpOp_callG (f := 13) (some 69) rfl rfl (by kernel_rfl) rfl #[] (by kernel_rfl) (eg13 _ _) ?_
  refine (t13 _).mono ?_
  rintro e wf ⟨rfl, HUF⟩
  have HF : Hid (Up W wf) := HD.out.trans HUF.out
  refine ⟨_, rfl, HF.out, ?_⟩
  refine OrdS.looks (.bool true) (some 70) _ rfl rfl (Or.inl ⟨by kernel_rfl, fun w' hS => ?_⟩) ?_
  · go_simp
  refine OrdS.ends ?_
  simp only [List.drop_succ_cons, List.drop_zero, Act.put, List.setIfInBounds_toArray, List.set_cons_succ, List.set_cons_zero]
  go_wp2
  go_ret
  exact ⟨rfl, HU03.out.trans (HW.out.trans HF.out)⟩
end Go.Proofs.Ytephkmahnbhmbaa
