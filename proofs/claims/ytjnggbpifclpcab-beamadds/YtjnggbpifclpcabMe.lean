/- BeamAdds: the walk. -/
import Derived.Test.YtjnggbpifclpcabMd
namespace Go.Proofs.Ytjnggbpifclpcab
open Go.ChangeShapes Go.WideShapes Go.ChangeAt Go.RowKit Go.Fl Ieee

attribute [local go_sem] run_store_float run_store_complex call20 call19 run_neg fold_eq fold_ne fold_lt fold_gt abs_eq

theorem eg6 (args : Array Value) (w : World) : (callFunc 6 args).run Try.prog w = .ok (.enter 6 args) w := enters Try.func6 (by kernel_rfl) (by kernel_rfl) _ _
set_option maxHeartbeats 4000000 in
set_option maxRecDepth 20000 in
theorem t3a {w : World} {p1 p2 p3 : Option Addr} {n1 n2 n c1 c2 c3 : Nat} (h : n < 1 ∨ 64 < n ∨ n1 < n ∨ n2 < n) : Calls Try.prog 3 #[.slice p1 n1 c1, .slice p2 n2 c2, .slice p3 n c3] w (TU w) := by
  by_cases h1 : n < 1
  · have z1 : (n : Int) < 1 := by omega
    clear h
    go_enter Try.func3, Try.ntmps3
    go_wp2_with (go_at_call 6; (with_reducible refine (t6 _).mono ?_); rintro e w2 ⟨rfl, U2⟩)
    go_ret
    exact ⟨rfl, U2⟩
  · have z1 : ¬ (n : Int) < 1 := by omega
    by_cases h2 : 64 < n
    · have z2 : (64 : Int) < (n : Int) := by omega
      clear h
      go_enter Try.func3, Try.ntmps3
      go_wp2_with (go_at_call 6; (with_reducible refine (t6 _).mono ?_); rintro e w2 ⟨rfl, U2⟩)
      go_ret
      exact ⟨rfl, U2⟩
    · have z2 : (n : Int) ≤ 64 := by omega
      by_cases h3 : n1 < n
      · have z3 : (n1 : Int) < (n : Int) := by omega
        clear h
        go_enter Try.func3, Try.ntmps3
        go_wp2_with (go_at_call 6; (with_reducible refine (t6 _).mono ?_); rintro e w2 ⟨rfl, U2⟩)
        go_ret
        exact ⟨rfl, U2⟩
      · have z3 : ¬ (n1 : Int) < (n : Int) := by omega
        have z4 : (n2 : Int) < (n : Int) := by omega
        clear h
        go_enter Try.func3, Try.ntmps3
        go_wp2_with (go_at_call 6; (with_reducible refine (t6 _).mono ?_); rintro e w2 ⟨rfl, U2⟩)
        go_ret
        exact ⟨rfl, U2⟩
set_option maxHeartbeats 16000000 in
set_option maxRecDepth 20000 in
theorem t3b {w : World} {p1 p2 p3 : Option Addr} {n1 n2 m c1 c2 c3 : Nat} {f1 f2 f3 : Nat → Int × Int} (h1 : PI w p1 n1 f1) (h2 : PI w p2 n2 f2) (h3 : PI w p3 (m + 1) f3) (hm : m < 64) (hn1 : m + 1 ≤ n1) (hn2 : m + 1 ≤ n2) : Calls Try.prog 3 #[.slice p1 n1 c1, .slice p2 n2 c2, .slice p3 (m + 1) c3] w (TU w) := by
  obtain ⟨i25, hi25, hy0, hy1, hy2⟩ := info_parts info27
  obtain ⟨i26, hi26, hz0, hz1, hz2⟩ := info_parts info41
  obtain ⟨P1, Q1, P2, Q2, P3, Q3, R0, S0, a1, a2, a3, a4, a5, a6, a7⟩ := place0 f1 f2 f3 hm
  obtain ⟨P4, Q4', P5, Q5, P6, Q6, R1, S1, b1, b2, b3, b4, b5, b6, b7⟩ := place1 f1 f2 f3 hm
  have ra0 : ∀ w, (binOp .add 26 (.complex .f64 P1 Q1) (.complex .f64 P2 Q2)).run Try.prog w = .ok (.complex .f64 R0 S0) w := fun w => run_cadd_some 26 w a4 a5
  have ra1 : ∀ w, (binOp .add 26 (.complex .f64 P4 Q4') (.complex .f64 P5 Q5)).run Try.prog w = .ok (.complex .f64 R1 S1) w := fun w => run_cadd_some 26 w b4 b5
  have re0 : ∀ w, (binOp .eql 26 (.complex .f64 P3 Q3) (.complex .f64 R0 S0)).run Try.prog w = .ok (.bool true) w := fun w => by rw [run_eqc, a6, a7]; rfl
  have re1 : ∀ w, (binOp .eql 26 (.complex .f64 P6 Q6) (.complex .f64 R1 S1)).run Try.prog w = .ok (.bool true) w := fun w => by rw [run_eqc, b6, b7]; rfl
  have HA0 : Hid (formF (FA f1 f2) (fun j => (DV f3 (m + 1))[j]!) (m + 1) 0 = (some P1, some Q1) ∧ formF (FA f1 f2) (fun j => (DV f3 (m + 1))[j]!) (m + 1) 1 = (some P4, some Q4')) := ⟨a1, b1⟩
  have HB0 : Hid (formF (FB f2) (fun j => (DV f3 (m + 1))[j]!) (m + 1) 0 = (some P2, some Q2) ∧ formF (FB f2) (fun j => (DV f3 (m + 1))[j]!) (m + 1) 1 = (some P5, some Q5)) := ⟨a2, b2⟩
  have HC0 : Hid (formF (FC f1 f2) (fun j => (DV f3 (m + 1))[j]!) (m + 1) 0 = (some P3, some Q3) ∧ formF (FC f1 f2) (fun j => (DV f3 (m + 1))[j]!) (m + 1) 1 = (some P6, some Q6)) := ⟨a3, b3⟩
  clear a1 a2 a3 a4 a5 a6 a7 b1 b2 b3 b4 b5 b6 b7
  have H1 : Hid (PI w p1 n1 f1) := h1
  have H2 : Hid (PI w p2 n2 f2) := h2
  have H3 : Hid (PI w p3 (m + 1) f3) := h3
  clear h1 h2 h3
  generalize hN : m + 1 = N at *
  have l1 : 1 ≤ N := by omega
  have l2 : N ≤ 64 := by omega
  clear hN hm
  have z0 : (N : Int) ≤ 64 := by omega
  have z1 : ¬ (N : Int) < 1 := by omega
  have z2 : ¬ (n1 : Int) < (N : Int) := by omega
  have z3 : ¬ (n2 : Int) < (N : Int) := by omega
  go_enter Try.func3, Try.ntmps3
  go_wp2
  go_loopw [7, 8, 9, 10, 11, 12, 13] (fun va vb vc vv vi _ _ wr => ∃ k : Nat, k ≤ N ∧ vi = .int .i64 k ∧ Hid (Q4 w wr va vb vc vv k k k k (FA f1 f2) (FB f2) (FC f1 f2) (DV f3 k))) (fun _ _ _ _ vi _ _ _ => N - (intOf vi).toNat)
  case atStart => exact ⟨0, by omega, rfl, Q4.start _ _ _ _⟩
  case round =>
    obtain ⟨k, hk, rfl, HQ⟩ := hrel
    rename World => wr
    by_cases hlt : k < N
    · obtain ⟨bb1, oo1, rfl, hr1⟩ := H1.out (by omega)
      obtain ⟨bb2, oo2, rfl, hr2⟩ := H2.out (by omega)
      obtain ⟨bb3, oo3, rfl, hr3⟩ := H3.out (by omega)
      obtain ⟨x1, x2, hx⟩ : ∃ x1 x2, f1 k = (x1, x2) := ⟨_, _, rfl⟩
      obtain ⟨y1, y2, hy⟩ : ∃ y1 y2, f2 k = (y1, y2) := ⟨_, _, rfl⟩
      obtain ⟨v1, v2, hv⟩ : ∃ v1 v2, f3 k = (v1, v2) := ⟨_, _, rfl⟩
      have HXY : Hid (f1 k = (x1, x2) ∧ f2 k = (y1, y2) ∧ f3 k = (v1, v2)) := ⟨hx, hy, hv⟩
      have HC1 : Hid (∀ W, Up w W → W.cell? ⟨bb1, oo1 + k * 2, none⟩ = some (.int .i64 x1) ∧ W.cell? ⟨bb1, oo1 + k * 2 + 1, none⟩ = some (.int .i64 x2)) := fun W hu => by
        have := hr1 k (by omega); rw [hx] at this; exact ⟨cell_up this.1 hu, cell_up this.2 hu⟩
      have HC2 : Hid (∀ W, Up w W → W.cell? ⟨bb2, oo2 + k * 2, none⟩ = some (.int .i64 y1) ∧ W.cell? ⟨bb2, oo2 + k * 2 + 1, none⟩ = some (.int .i64 y2)) := fun W hu => by
        have := hr2 k (by omega); rw [hy] at this; exact ⟨cell_up this.1 hu, cell_up this.2 hu⟩
      have HC3 : Hid (∀ W, Up w W → W.cell? ⟨bb3, oo3 + k * 2, none⟩ = some (.int .i64 v1) ∧ W.cell? ⟨bb3, oo3 + k * 2 + 1, none⟩ = some (.int .i64 v2)) := fun W hu => by
        have := hr3 k (by omega); rw [hv] at this; exact ⟨cell_up this.1 hu, cell_up this.2 hu⟩
      clear hr1 hr2 hr3 hx hy hv
      have rc0 : ∀ w, (binOp .add 26 (.complex .f64 (wf x1) (wf x2)) (.complex .f64 (wf y1) (wf y2))).run Try.prog w = .ok (.complex .f64 (sw (wf x1) (wf y1)) (sw (wf x2) (wf y2))) w := fun w => run_cadd_some 26 w (sw_rm _ _).1 (sw_rm _ _).1
      have rc1 : ∀ w, (binOp .add 26 (.complex .f64 (wf y1) (wf y2)) (.complex .f64 4607182418800017408 0)).run Try.prog w = .ok (.complex .f64 (sw (wf y1) oneW) (sw (wf y2) 0)) w := fun w => run_cadd_some 26 w (sw_one _).1 (sw_nought _).1
      obtain ⟨q1, q2⟩ := HC1.out wr HQ.out.up
      have q9 : (k : Int) < (N : Int) := by omega
      have q8 : (k : Int) < (n1 : Int) := by omega
      have q7 : (k : Int) < (n2 : Int) := by omega
      have q6 : (0 : Int) ≤ (k : Int) := by omega
      go_wp2_with (first
        | (go_at_call 7; (with_reducible refine (t7 x1 x2 wr).mono ?_); rintro e w1 ⟨rfl, u1⟩; (have HQ1 : Hid (Q4 w w1 u7 u8 u9 u10 k k k k (FA f1 f2) (FB f2) (FC f1 f2) (DV f3 k)) := HQ.out.mono u1.out); obtain ⟨q3, q4⟩ := HC2.out w1 HQ1.out.up)
        | (go_at_call 7; (with_reducible refine (t7 y1 y2 w1).mono ?_); rintro e w2 ⟨rfl, u2⟩; (have HQ2 : Hid (Q4 w w2 u7 u8 u9 u10 k k k k (FA f1 f2) (FB f2) (FC f1 f2) (DV f3 k)) := HQ1.out.mono u2.out); obtain ⟨G2, hG2⟩ := HQ2.out.A.row; (have s2 := HQ2.out.up.size); (have g2 := hG2.1))
        | (at_builtin; refine wpList_append_own_at _ rfl _ _ 24 rfl w.heap.size 25 i25 (.slice none 0 0) 1 24 Try.underlying24 hi25 hy0 hy1 hy2 rfl (by decide) u7 k _ rfl (owns_up g2 ((Up.alloc _ _).trans (Up.alloc _ _))) ⟨w2.heap.size + 1, 0, none⟩ 1 1 [.slice (some ⟨w2.heap.size, 0, none⟩) 2 2] rfl rfl (news2 _ _ _ _) (one_slice _) (by unfold maxLen; omega) (by omega) (by simp; omega) ?_; intro va3 w3 ho3 hg3 _ hat3
           have HQ3 : Hid (Q4 w w3 va3 u8 u9 u10 (k + 1) k k k (FA f1 f2) (FB f2) (FC f1 f2) (DV f3 k)) := HQ2.out.push hG2 ho3 hg3 hat3 (x := (wf x1, wf x2)) (y := (wf y1, wf y2)) (by unfold FA; rw [HXY.out.1]; rfl) (by unfold FA; rw [HXY.out.2.1]; rfl)
           obtain ⟨G3, hG3⟩ := HQ3.out.B.row
           have s3 := HQ3.out.up.size
           have g3 := hG3.1
           clear ho3 hg3 hat3 g2 hG2)
        | (at_builtin; refine wpList_append_own_at _ rfl _ _ 24 rfl w.heap.size 25 i25 (.slice none 0 0) 1 24 Try.underlying24 hi25 hy0 hy1 hy2 rfl (by decide) u8 k _ rfl (owns_up g3 ((Up.alloc _ _).trans (Up.alloc _ _))) ⟨w3.heap.size + 1, 0, none⟩ 1 1 [.slice (some ⟨w3.heap.size, 0, none⟩) 2 2] rfl rfl (news2 _ _ _ _) (one_slice _) (by unfold maxLen; omega) (by omega) (by simp; omega) ?_; intro vb4 w4 ho4 hg4 _ hat4
           have HQ4 : Hid (Q4 w w4 va3 vb4 u9 u10 (k + 1) (k + 1) k k (FA f1 f2) (FB f2) (FC f1 f2) (DV f3 k)) := (HQ3.out.swapB.push hG3 ho4 hg4 hat4 (x := (wf y1, wf y2)) (y := (oneW, 0)) (by unfold FB; rw [HXY.out.2.1]; rfl) (by unfold FB; rfl)).swapB
           obtain ⟨G4, hG4⟩ := HQ4.out.C.row
           have s4 := HQ4.out.up.size
           have g4 := hG4.1
           clear ho4 hg4 hat4 g3 hG3)
        | (at_builtin; refine wpList_append_own_at _ rfl _ _ 24 rfl w.heap.size 25 i25 (.slice none 0 0) 1 24 Try.underlying24 hi25 hy0 hy1 hy2 rfl (by decide) u9 k _ rfl (owns_up g4 ((Up.alloc _ _).trans (Up.alloc _ _))) ⟨w4.heap.size + 1, 0, none⟩ 1 1 [.slice (some ⟨w4.heap.size, 0, none⟩) 2 2] rfl rfl (news2 _ _ _ _) (one_slice _) (by unfold maxLen; omega) (by omega) (by simp; omega) ?_; intro vc5 w5 ho5 hg5 _ hat5
           have HQ5 : Hid (Q4 w w5 va3 vb4 vc5 u10 (k + 1) (k + 1) (k + 1) k (FA f1 f2) (FB f2) (FC f1 f2) (DV f3 k)) := (HQ4.out.swapC.push hG4 ho5 hg5 hat5 (x := (sw (wf x1) (wf y1), sw (wf x2) (wf y2))) (y := (sw (wf y1) oneW, sw (wf y2) 0)) (by unfold FC; rw [HXY.out.1, HXY.out.2.1]; rfl) (by unfold FC; rw [HXY.out.2.1]; rfl)).swapC
           obtain ⟨t1, t2⟩ := HC3.out w5 HQ5.out.up
           clear ho5 hg5 hat5 g4 hG4)
        | (go_at_call 7; (with_reducible refine (t7 v1 v2 w5).mono ?_); rintro e w6 ⟨rfl, u6⟩; (have HQ6 : Hid (Q4 w w6 va3 vb4 vc5 u10 (k + 1) (k + 1) (k + 1) k (FA f1 f2) (FB f2) (FC f1 f2) (DV f3 k)) := HQ5.out.mono u6.out); (have s6 := HQ6.out.up.size); (have g6 := HQ6.out.V.1))
        | (at_builtin; refine wpList_append_own_at _ rfl _ _ 25 rfl w.heap.size 26 i26 (.complex .f64 0 0) 1 16 Try.underlying25 hi26 hz0 hz1 hz2 rfl (by decide) u10 k _ rfl (owns_up g6 (Up.alloc _ _)) ⟨w6.heap.size, 0, none⟩ 1 1 [ce (wf v1, wf v2)] rfl rfl (news1 _ _ _) (one_cx _) (by unfold maxLen; omega) (by omega) (by simp; omega) ?_; intro vv7 w7 ho7 hg7 _ hat7
           have HQ7 : Hid (Q4 w w7 va3 vb4 vc5 vv7 (k + 1) (k + 1) (k + 1) (k + 1) (FA f1 f2) (FB f2) (FC f1 f2) (DV f3 (k + 1))) := by
             rw [show DV f3 (k + 1) = DV f3 k ++ [(wf v1, wf v2)] by rw [DV_step, HXY.out.2.2]]
             exact HQ6.out.pushV ho7 hg7 hat7
           clear ho7 hg7 hat7 g6))
      go_roundw
      case rel => exact ⟨k + 1, by omega, by go_num, HQ7⟩
      case measure => simp [intOf]; omega
    · obtain rfl : k = N := by omega
      obtain ⟨pa, ca, ea, ta⟩ := HQ.out.A.tr l1
      obtain ⟨pb, cb, eb, tb⟩ := HQ.out.B.tr l1
      obtain ⟨pc, cc, ec, tc⟩ := HQ.out.C.tr l1
      obtain ⟨pv, cv, ev, tv⟩ := list_rv HQ.out.V.1 HQ.out.V.2 l1
      have HUR : Hid (Up w wr) := HQ.out.up
      subst ea
      subst eb
      subst ec
      subst ev
      have K1 : Hid (Calls Try.prog 8 #[.slice pa k ca, .slice pv k cv] wr (LR 2 (formF (FA f1 f2) (fun j => (DV f3 k)[j]!) k) 0 wr)) := t8 ta tv l1 l2 (by omega)
      have K2 : Hid (∀ W, Up wr W → Calls Try.prog 8 #[.slice pb k cb, .slice pv k cv] W (LR 2 (formF (FB f2) (fun j => (DV f3 k)[j]!) k) 0 W)) := fun W hu => t8 (tb.up hu) (tv.up hu) l1 l2 (by omega)
      have K3 : Hid (∀ W, Up wr W → Calls Try.prog 8 #[.slice pc k cc, .slice pv k cv] W (LR 2 (formF (FC f1 f2) (fun j => (DV f3 k)[j]!) k) 0 W)) := fun W hu => t8 (tc.up hu) (tv.up hu) l1 l2 (by omega)
      clear ta tb tc tv HQ
      go_upto_region 21 with (first
        | (go_at_call 8; (with_reducible refine K1.out.mono ?_); rintro e wa ⟨gA, rfl, XA, UA⟩)
        | (go_at_call 8; (with_reducible refine (K2.out _ UA.out).mono ?_); rintro e wb ⟨gB, rfl, XB, UB⟩)
        | (go_at_call 8; (with_reducible refine (K3.out _ (UA.out.trans UB.out)).mono ?_); rintro e wq ⟨gC, rfl, XC, UC⟩))
      have HS : Hid (∀ w', Up wq w' → w'.cell? ⟨gC, 0, none⟩ = some (.complex .f64 P3 Q3) ∧ w'.cell? ⟨gC, 1, none⟩ = some (.complex .f64 P6 Q6) ∧ w'.cell? ⟨gA, 0, none⟩ = some (.complex .f64 P1 Q1) ∧ w'.cell? ⟨gA, 1, none⟩ = some (.complex .f64 P4 Q4') ∧ w'.cell? ⟨gB, 0, none⟩ = some (.complex .f64 P2 Q2) ∧ w'.cell? ⟨gB, 1, none⟩ = some (.complex .f64 P5 Q5)) := fun W hu =>
        ⟨cell_up (XC.out.known (by omega) HC0.out.1) hu, cell_up (XC.out.known (by omega) HC0.out.2) hu, cell_up (XA.out.known (by omega) HA0.out.1) ((UB.out.trans UC.out).trans hu), cell_up (XA.out.known (by omega) HA0.out.2) ((UB.out.trans UC.out).trans hu), cell_up (XB.out.known (by omega) HB0.out.1) (UC.out.trans hu), cell_up (XB.out.known (by omega) HB0.out.2) (UC.out.trans hu)⟩
      refine wp_region_shut 26 [(0, none), (1, none), (2, some false), (3, none), (4, none), (5, some false), (6, none), (7, none), (8, some false), (9, none), (10, none), (11, none), (12, none), (13, none), (14, some false), (15, none), (16, none), (17, some false), (18, none), (19, none), (20, some false), (21, none), (22, none), (23, none), (24, none), (25, some true)] (fun w9 => Up wq w9) (by kernel_rfl) (by decide) rfl (by kernel_rfl) (fun _ _ d _ _ h => by cases d <;> exact h) (Up.drewN wq 1) ?_
      refine OrdS.looks (.slice (some ⟨gC, 0, none⟩) 2 2) (some 130) _ rfl rfl (Or.inl ⟨by kernel_rfl, fun w' hS => ?_⟩) ?_
      · go_simp
      refine OrdS.looks (.pointer (some ⟨gC, 0, none⟩)) (some 131) _ rfl rfl (Or.inl ⟨by kernel_rfl, fun w' hS => ?_⟩) ?_
      · go_simp
      refine OrdS.reads (.complex .f64 P3 Q3) (some 132) _ rfl rfl (Or.inl ⟨by kernel_rfl, fun w' hS => ?_⟩) ?_
      · obtain ⟨l0, l1, l2, l3, l4, l5⟩ := HS.out _ hS
        go_simp
      refine OrdS.looks (.slice (some ⟨gA, 0, none⟩) 2 2) (some 133) _ rfl rfl (Or.inl ⟨by kernel_rfl, fun w' hS => ?_⟩) ?_
      · go_simp
      refine OrdS.looks (.pointer (some ⟨gA, 0, none⟩)) (some 134) _ rfl rfl (Or.inl ⟨by kernel_rfl, fun w' hS => ?_⟩) ?_
      · go_simp
      refine OrdS.reads (.complex .f64 P1 Q1) (some 135) _ rfl rfl (Or.inl ⟨by kernel_rfl, fun w' hS => ?_⟩) ?_
      · obtain ⟨l0, l1, l2, l3, l4, l5⟩ := HS.out _ hS
        go_simp
      refine OrdS.looks (.slice (some ⟨gB, 0, none⟩) 2 2) (some 136) _ rfl rfl (Or.inl ⟨by kernel_rfl, fun w' hS => ?_⟩) ?_
      · go_simp
      refine OrdS.looks (.pointer (some ⟨gB, 0, none⟩)) (some 137) _ rfl rfl (Or.inl ⟨by kernel_rfl, fun w' hS => ?_⟩) ?_
      · go_simp
      refine OrdS.reads (.complex .f64 P2 Q2) (some 138) _ rfl rfl (Or.inl ⟨by kernel_rfl, fun w' hS => ?_⟩) ?_
      · obtain ⟨l0, l1, l2, l3, l4, l5⟩ := HS.out _ hS
        go_simp
      refine OrdS.looks (.complex .f64 R0 S0) (some 139) _ rfl rfl (Or.inl ⟨by kernel_rfl, fun w' hS => ?_⟩) ?_
      · go_simp
      refine OrdS.looks (.bool true) (some 140) _ rfl rfl (Or.inl ⟨by kernel_rfl, fun w' hS => ?_⟩) ?_
      · go_simp
      refine OrdS.looks (.bool true) (some 141) _ rfl rfl (Or.inl ⟨by kernel_rfl, fun w' hS => ?_⟩) ?_
      · go_simp
      simp only [Act.put, List.setIfInBounds_toArray, List.set_cons_succ, List.set_cons_zero]
      refine OrdS.looks (.slice (some ⟨gC, 0, none⟩) 2 2) (some 142) _ rfl rfl (Or.inl ⟨by kernel_rfl, fun w' hS => ?_⟩) ?_
      · go_simp
      refine OrdS.looks (.pointer (some ⟨gC, 1, none⟩)) (some 143) _ rfl rfl (Or.inl ⟨by kernel_rfl, fun w' hS => ?_⟩) ?_
      · go_simp
      refine OrdS.reads (.complex .f64 P6 Q6) (some 144) _ rfl rfl (Or.inl ⟨by kernel_rfl, fun w' hS => ?_⟩) ?_
      · obtain ⟨l0, l1, l2, l3, l4, l5⟩ := HS.out _ hS
        go_simp
      refine OrdS.looks (.slice (some ⟨gA, 0, none⟩) 2 2) (some 145) _ rfl rfl (Or.inl ⟨by kernel_rfl, fun w' hS => ?_⟩) ?_
      · go_simp
      refine OrdS.looks (.pointer (some ⟨gA, 1, none⟩)) (some 146) _ rfl rfl (Or.inl ⟨by kernel_rfl, fun w' hS => ?_⟩) ?_
      · go_simp
      refine OrdS.reads (.complex .f64 P4 Q4') (some 147) _ rfl rfl (Or.inl ⟨by kernel_rfl, fun w' hS => ?_⟩) ?_
      · obtain ⟨l0, l1, l2, l3, l4, l5⟩ := HS.out _ hS
        go_simp
      refine OrdS.looks (.slice (some ⟨gB, 0, none⟩) 2 2) (some 148) _ rfl rfl (Or.inl ⟨by kernel_rfl, fun w' hS => ?_⟩) ?_
      · go_simp
      refine OrdS.looks (.pointer (some ⟨gB, 1, none⟩)) (some 149) _ rfl rfl (Or.inl ⟨by kernel_rfl, fun w' hS => ?_⟩) ?_
      · go_simp
      refine OrdS.reads (.complex .f64 P5 Q5) (some 150) _ rfl rfl (Or.inl ⟨by kernel_rfl, fun w' hS => ?_⟩) ?_
      · obtain ⟨l0, l1, l2, l3, l4, l5⟩ := HS.out _ hS
        go_simp
      refine OrdS.looks (.complex .f64 R1 S1) (some 151) _ rfl rfl (Or.inl ⟨by kernel_rfl, fun w' hS => ?_⟩) ?_
      · go_simp
      refine OrdS.looks (.bool true) (some 152) _ rfl rfl (Or.inl ⟨by kernel_rfl, fun w' hS => ?_⟩) ?_
      · go_simp
      refine OrdS.looks (.bool true) (some 153) _ rfl rfl (Or.inl ⟨by kernel_rfl, fun w' hS => ?_⟩) ?_
      · go_simp
      refine OrdS.looks (.bool true) (some 154) _ rfl rfl (Or.inl ⟨by kernel_rfl, fun w' hS => ?_⟩) ?_
      · go_simp
      simp only [Act.put, List.setIfInBounds_toArray, List.set_cons_succ, List.set_cons_zero]
      refine OrdS.does ?_
      refine wpOp_callG (f := 6) (some 155) rfl rfl (by kernel_rfl) rfl #[] (by kernel_rfl) (eg6 _ _) ?_
      refine (t6 _).mono ?_
      rintro e wz ⟨rfl, uz⟩
      have HUZ : Hid (Up wq wz) := (Up.drewN wq 1).trans uz.out
      refine ⟨_, rfl, HUZ.out, ?_⟩
      refine OrdS.ends ?_
      simp only [List.drop_succ_cons, List.drop_zero, Act.put, List.setIfInBounds_toArray, List.set_cons_succ, List.set_cons_zero]
      go_wp2
      go_ret
      exact ⟨rfl, (((HUR.out.trans UA.out).trans UB.out).trans UC.out).trans HUZ.out⟩
theorem t3 {w : World} {p1 p2 p3 : Option Addr} {n1 n2 n c1 c2 c3 : Nat} {f1 f2 f3 : Nat → Int × Int} (h1 : PI w p1 n1 f1) (h2 : PI w p2 n2 f2) (h3 : PI w p3 n f3) : Calls Try.prog 3 #[.slice p1 n1 c1, .slice p2 n2 c2, .slice p3 n c3] w (TU w) := by
  by_cases h : n < 1 ∨ 64 < n ∨ n1 < n ∨ n2 < n
  · exact t3a h
  · obtain ⟨m, rfl⟩ : ∃ m, n = m + 1 := ⟨n - 1, by omega⟩
    exact t3b h1 h2 h3 (by omega) (by omega) (by omega)
end Go.Proofs.Ytjnggbpifclpcab
