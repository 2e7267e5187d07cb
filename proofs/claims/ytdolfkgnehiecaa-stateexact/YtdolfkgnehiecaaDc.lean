/- The law StateExact. -/
import Derived.Test.YtdolfkgnehiecaaDb
import Derived.Test.YtdolfkgnehiecaaLq
import Derived.Deep.DeepCutAuto
import Derived.Deep.RegionHeld3
namespace Go.Proofs.Ytdolfkgnehiecaa
open Go.ChangeShapes Go.WideShapes Go.ChangeAt Go.RowKit Go.Fl Ieee
attribute [local go_sem] run_store_float call28 call35 run_neg fold_eq fold_ne fold_lt fold_gt abs_eq

theorem eg14 (args : Array Value) (w : World) : (callFunc 14 args).run Try.prog w = .ok (.enter 14 args) w := enters Try.func14 (by kernel_rfl) (by kernel_rfl) _ _
theorem eg19 (args : Array Value) (w : World) : (callFunc 19 args).run Try.prog w = .ok (.enter 19 args) w := enters Try.func19 (by kernel_rfl) (by kernel_rfl) _ _
theorem s5_ext {s : S5} {x v a b c : Option Nat} (h1 : s.x = x) (h2 : s.v = v) (h3 : s.a = a) (h4 : s.b = b) (h5 : s.c = c) : s = ⟨x, v, a, b, c⟩ := by
  cases s
  simp_all
theorem ws_eq {s t : S5} {z0 z1 z2 z3 z4 : Int} (h : WS s z0 z1 z2 z3 z4) (k : WS t z0 z1 z2 z3 z4) : eqS s t = true := by
  unfold eqS
  rw [WH.eq h.x k.x, WH.eq h.v k.v, WH.eq h.a k.a, WH.eq h.b k.b, WH.eq h.c k.c]
  simp
theorem LoosO.eqS {ops : Array Oper} {C : World → Prop} {o : Oper} {a : Act} {x y : Operand} {xs ys : Array Value} {t2 : TypeId} (hg : o.guard = none) (hop : o.op = .binOp .eql 24 x y t2) (hx : a.eval x = .agg xs) (hy : a.eval y = .agg ys) (h : ∀ w : World, (binOp .eql 24 (.agg xs) (.agg ys)).run Try.prog w = .ok (.bool true) w) : LoosO Try.prog ops C (Sp.val (.bool true)).T o a := by
  refine LoosO.is hg fun w _ => ?_
  simp [execOp, hop, hx, hy, run_eqGuard_agg w .eql 24 x y xs ys guard24, h]
theorem cells5 (w : World) (n0 n1 n2 n3 n4 : Int) : (w.alloc (.cells #[.int .i32 n0, .int .i32 n1, .int .i32 n2, .int .i32 n3, .int .i32 n4] 45)).cell? ⟨w.heap.size, 0, none⟩ = some (.int .i32 n0) ∧ (w.alloc (.cells #[.int .i32 n0, .int .i32 n1, .int .i32 n2, .int .i32 n3, .int .i32 n4] 45)).cell? ⟨w.heap.size, 1, none⟩ = some (.int .i32 n1) ∧ (w.alloc (.cells #[.int .i32 n0, .int .i32 n1, .int .i32 n2, .int .i32 n3, .int .i32 n4] 45)).cell? ⟨w.heap.size, 2, none⟩ = some (.int .i32 n2) ∧ (w.alloc (.cells #[.int .i32 n0, .int .i32 n1, .int .i32 n2, .int .i32 n3, .int .i32 n4] 45)).cell? ⟨w.heap.size, 3, none⟩ = some (.int .i32 n3) ∧ (w.alloc (.cells #[.int .i32 n0, .int .i32 n1, .int .i32 n2, .int .i32 n3, .int .i32 n4] 45)).cell? ⟨w.heap.size, 4, none⟩ = some (.int .i32 n4) := by
  have e := heap_alloc_last w (.cells #[.int .i32 n0, .int .i32 n1, .int .i32 n2, .int .i32 n3, .int .i32 n4] 45)
  refine ⟨?_, ?_, ?_, ?_, ?_⟩ <;> (unfold World.cell?; simp only [e]; rfl)
theorem five_up {w w2 : World} {g : Nat} {n0 n1 n2 n3 n4 : Int} (h : w.cell? ⟨g, 0, none⟩ = some (.int .i32 n0) ∧ w.cell? ⟨g, 1, none⟩ = some (.int .i32 n1) ∧ w.cell? ⟨g, 2, none⟩ = some (.int .i32 n2) ∧ w.cell? ⟨g, 3, none⟩ = some (.int .i32 n3) ∧ w.cell? ⟨g, 4, none⟩ = some (.int .i32 n4)) (hu : Up w w2) : w2.cell? ⟨g, 0, none⟩ = some (.int .i32 n0) ∧ w2.cell? ⟨g, 1, none⟩ = some (.int .i32 n1) ∧ w2.cell? ⟨g, 2, none⟩ = some (.int .i32 n2) ∧ w2.cell? ⟨g, 3, none⟩ = some (.int .i32 n3) ∧ w2.cell? ⟨g, 4, none⟩ = some (.int .i32 n4) :=
  ⟨up_cell hu h.1, up_cell hu h.2.1, up_cell hu h.2.2.1, up_cell hu h.2.2.2.1, up_cell hu h.2.2.2.2⟩
set_option maxHeartbeats 4000000 in
set_option maxRecDepth 100000 in
theorem t7 (n0 n1 n2 n3 n4 t u : Int) (h0 : -2147483648 ≤ n0 ∧ n0 ≤ 2147483647) (h1 : -2147483648 ≤ n1 ∧ n1 ≤ 2147483647) (h2 : -2147483648 ≤ n2 ∧ n2 ≤ 2147483647) (h3 : -2147483648 ≤ n3 ∧ n3 ≤ 2147483647) (h4 : -2147483648 ≤ n4 ∧ n4 ≤ 2147483647) (ht : 0 ≤ t ∧ t ≤ 255) (hu : 0 ≤ u ∧ u ≤ 255) (w : World) : Calls Try.prog 7 #[.agg #[.int .i32 n0, .int .i32 n1, .int .i32 n2, .int .i32 n3, .int .i32 n4], .int .u8 t, .int .u8 u] w (TU w) := by
  have C0 : Hid (∀ w, Calls Try.prog 26 #[.int .i32 n0, .int .i64 (-1048576), .int .i64 1048576] w fun e w' => e = .returned (.float .f64 (floatOfInt .f64 (smI n0 (-1048576) 2097153))) ∧ w' = w) := fun w => t26 n0 _ _ (by omega) (by omega) (by omega) h0.1 h0.2 w
  have C1 : Hid (∀ w, Calls Try.prog 26 #[.int .i32 n1, .int .i64 (-1048576), .int .i64 1048576] w fun e w' => e = .returned (.float .f64 (floatOfInt .f64 (smI n1 (-1048576) 2097153))) ∧ w' = w) := fun w => t26 n1 _ _ (by omega) (by omega) (by omega) h1.1 h1.2 w
  have C2 : Hid (∀ w, Calls Try.prog 26 #[.int .i32 n2, .int .i64 0, .int .i64 1048576] w fun e w' => e = .returned (.float .f64 (floatOfInt .f64 (smI n2 0 1048577))) ∧ w' = w) := fun w => t26 n2 _ _ (by omega) (by omega) (by omega) h2.1 h2.2 w
  have C3 : Hid (∀ w, Calls Try.prog 26 #[.int .i32 n3, .int .i64 0, .int .i64 1048576] w fun e w' => e = .returned (.float .f64 (floatOfInt .f64 (smI n3 0 1048577))) ∧ w' = w) := fun w => t26 n3 _ _ (by omega) (by omega) (by omega) h3.1 h3.2 w
  have C4 : Hid (∀ w, Calls Try.prog 26 #[.int .i32 n4, .int .i64 0, .int .i64 1048576] w fun e w' => e = .returned (.float .f64 (floatOfInt .f64 (smI n4 0 1048577))) ∧ w' = w) := fun w => t26 n4 _ _ (by omega) (by omega) (by omega) h4.1 h4.2 w
  have Z0 := sm_in (n := n0) (lo := -1048576) (show (0 : Int) < 2097153 by omega)
  have Z1 := sm_in (n := n1) (lo := -1048576) (show (0 : Int) < 2097153 by omega)
  have Z2 := sm_in (n := n2) (lo := 0) (show (0 : Int) < 1048577 by omega)
  have Z3 := sm_in (n := n3) (lo := 0) (show (0 : Int) < 1048577 by omega)
  have Z4 := sm_in (n := n4) (lo := 0) (show (0 : Int) < 1048577 by omega)
  generalize smI n0 (-1048576) 2097153 = z0 at *
  generalize smI n1 (-1048576) 2097153 = z1 at *
  generalize smI n2 0 1048577 = z2 at *
  generalize smI n3 0 1048577 = z3 at *
  generalize smI n4 0 1048577 = z4 at *
  have hP : P53 = 9007199254740992 := rfl
  have W0 : Hid (WH (ab (floatOfInt .f64 z0)) z0) := WH.int (by omega) (by omega)
  have W1 : Hid (WH (ab (floatOfInt .f64 z1)) z1) := WH.int (by omega) (by omega)
  have W2 : Hid (WH (ab (floatOfInt .f64 z2)) z2) := WH.int (by omega) (by omega)
  have W3 : Hid (WH (ab (floatOfInt .f64 z3)) z3) := WH.int (by omega) (by omega)
  have W4 : Hid (WH (ab (floatOfInt .f64 z4)) z4) := WH.int (by omega) (by omega)
  have WT : Hid (WH (ab (floatOfInt .f64 (t % 16 + 1))) (t % 16 + 1)) := WH.int (by omega) (by omega)
  have WU : Hid (WH (ab (floatOfInt .f64 (u % 16 + 1))) (u % 16 + 1)) := WH.int (by omega) (by omega)
  clear hP
  generalize floatOfInt .f64 z0 = x at *
  generalize floatOfInt .f64 z1 = v at *
  generalize floatOfInt .f64 z2 = a at *
  generalize floatOfInt .f64 z3 = b at *
  generalize floatOfInt .f64 z4 = c at *
  obtain ⟨b0, b1, b2, b3, b4⟩ := cells5 w n0 n1 n2 n3 n4
  go_enter Try.func7, Try.ntmps7
  go_upto_region 1 with fail
  go_cut [7] (fun v7 wx => ∃ g : Nat, v7 = .pointer (some ⟨g, 0, none⟩) ∧ Hid (wx.heap[g]? = some (.cells #[.float .f64 x, .float .f64 v, .float .f64 a, .float .f64 b, .float .f64 c] 24)) ∧ Hid (Up w wx))
  case first =>
    have HU : Hid (Up w (w.alloc (.cells #[.int .i32 n0, .int .i32 n1, .int .i32 n2, .int .i32 n3, .int .i32 n4] 45))) := Up.alloc _ _
    generalize w.alloc (.cells #[.int .i32 n0, .int .i32 n1, .int .i32 n2, .int .i32 n3, .int .i32 n4] 45) = W at *
    generalize hg : w.heap.size = g at *
    have hgl : g < W.heap.size := World.block_lt_of_cell? W _ b0
    go_region_held3 (fun w' => w'.cell? ⟨g, 0, none⟩ = some (.int .i32 n0) ∧ w'.cell? ⟨g, 1, none⟩ = some (.int .i32 n1) ∧ w'.cell? ⟨g, 2, none⟩ = some (.int .i32 n2) ∧ w'.cell? ⟨g, 3, none⟩ = some (.int .i32 n3) ∧ w'.cell? ⟨g, 4, none⟩ = some (.int .i32 n4)) (first | exact ⟨b0, b1, b2, b3, b4⟩ | exact five_up (by assumption) (Up.al (Up.refl _) _) | exact five_up (w := W) ⟨b0, b1, b2, b3, b4⟩ ((Up.al (Up.refl _) _).trans (Up.drew _)) | assumption) (first
      | (go_at_call 26; (with_reducible refine (C0.out _).mono ?_); rintro e w1 ⟨rfl, hw⟩; subst w1)
      | (go_at_call 26; (with_reducible refine (C1.out _).mono ?_); rintro e w1 ⟨rfl, hw⟩; subst w1)
      | (go_at_call 26; (with_reducible refine (C2.out _).mono ?_); rintro e w1 ⟨rfl, hw⟩; subst w1)
      | (go_at_call 26; (with_reducible refine (C3.out _).mono ?_); rintro e w1 ⟨rfl, hw⟩; subst w1)
      | (go_at_call 26; (with_reducible refine (C4.out _).mono ?_); rintro e w1 ⟨rfl, hw⟩; subst w1))
    all_goals go_wp2
    all_goals go_meet
    all_goals exact ⟨_, rfl, heap_alloc_last W _, (HU.out.al _).trans (Up.drew _)⟩
  case rest =>
    rename World => W
    obtain ⟨g, rfl, HR, HU⟩ := hcut
    clear C0 C1 C2 C3 C4 b0 b1 b2 b3 b4
    have hP : P53 = 9007199254740992 := rfl
    have HA := WH.add WT.out WU.out (by omega) (by omega)
    obtain ⟨tu, etu, ftu, vtu⟩ := HA
    have WV : WH (ab tu) (t % 16 + 1 + (u % 16 + 1)) := ⟨tu, Fnt.ab ftu, ftu, vtu⟩
    obtain ⟨y0, y1, y2, y3, y4, A1, q0, q1, q2, q3, q4, A2, A3⟩ := ahead_two (s := ⟨ab x, ab v, ab a, ab b, ab c⟩) ⟨W0.out, W1.out, W2.out, W3.out, W4.out⟩ WT.out WU.out WV (by omega) (by omega) (by omega) (by omega) (by omega) (by omega) (by omega) (by omega) (by omega) (by omega) (by omega) (by omega) (by omega) (by omega)
    clear hP W0 W1 W2 W3 W4
    go_upto_region 4 with fail
    generalize floatOfInt .f64 (t % 16 + 1) = tb at *
    generalize floatOfInt .f64 (u % 16 + 1) = ub at *
    have F8 : ∀ w : World, (binOp .add 22 (.float .f64 tb) (.float .f64 ub)).run Try.prog w = .ok (.float .f64 tu) w := fun w => run_float_arith w .add 22 .f64 tb ub tu (by rw [bits_ab]; exact etu)
    obtain ⟨⟨x1, e10, f10, g10⟩, ⟨v1, e11, f11, g11⟩, ⟨a1, e12, f12, g12⟩, ⟨b1, e13, f13, g13⟩, ⟨c1, e14, f14, g14⟩⟩ := A1
    have E1 : aheadF ⟨ab x, ab v, ab a, ab b, ab c⟩ (ab tb) (ab 0) = ⟨ab x1, ab v1, ab a1, ab b1, ab c1⟩ := s5_ext (by rw [e10, Fnt.ab f10]) (by rw [e11, Fnt.ab f11]) (by rw [e12, Fnt.ab f12]) (by rw [e13, Fnt.ab f13]) (by rw [e14, Fnt.ab f14])
    rw [E1] at A2
    have D := ws_eq A2 A3
    obtain ⟨⟨x2, e20, f20, g20⟩, ⟨v2, e21, f21, g21⟩, ⟨a2, e22, f22, g22⟩, ⟨b2, e23, f23, g23⟩, ⟨c2, e24, f24, g24⟩⟩ := A2
    obtain ⟨⟨x3, e30, f30, g30⟩, ⟨v3, e31, f31, g31⟩, ⟨a3, e32, f32, g32⟩, ⟨b3, e33, f33, g33⟩, ⟨c3, e34, f34, g34⟩⟩ := A3
    have D2 : eqS ⟨ab x2, ab v2, ab a2, ab b2, ab c2⟩ ⟨ab x3, ab v3, ab a3, ab b3, ab c3⟩ = true := by
      rw [Fnt.ab f20, Fnt.ab f21, Fnt.ab f22, Fnt.ab f23, Fnt.ab f24, Fnt.ab f30, Fnt.ab f31, Fnt.ab f32, Fnt.ab f33, Fnt.ab f34, ← e20, ← e21, ← e22, ← e23, ← e24, ← e30, ← e31, ← e32, ← e33, ← e34]
      exact D
    have K1 : Hid (∀ w, Calls Try.prog 14 #[.agg #[.float .f64 x, .float .f64 v, .float .f64 a, .float .f64 b, .float .f64 c], .float .f64 tb, .float .f64 0] w (SE w x1 v1 a1 b1 c1)) := fun w => (t14 _ _ _ _ _ _ _ w).mono fun _ _ h => h.exact ⟨e10, e11, e12, e13, e14⟩
    have K2 : Hid (∀ w, Calls Try.prog 14 #[.agg #[.float .f64 x1, .float .f64 v1, .float .f64 a1, .float .f64 b1, .float .f64 c1], .float .f64 ub, .float .f64 0] w (SE w x2 v2 a2 b2 c2)) := fun w => (t14 _ _ _ _ _ _ _ w).mono fun _ _ h => h.exact ⟨e20, e21, e22, e23, e24⟩
    have K3 : Hid (∀ w, Calls Try.prog 14 #[.agg #[.float .f64 x, .float .f64 v, .float .f64 a, .float .f64 b, .float .f64 c], .float .f64 tu, .float .f64 0] w (SE w x3 v3 a3 b3 c3)) := fun w => (t14 _ _ _ _ _ _ _ w).mono fun _ _ h => h.exact ⟨e30, e31, e32, e33, e34⟩
    have L : ∀ w : World, (binOp .eql 24 (.agg #[.float .f64 x2, .float .f64 v2, .float .f64 a2, .float .f64 b2, .float .f64 c2]) (.agg #[.float .f64 x3, .float .f64 v3, .float .f64 a3, .float .f64 b3, .float .f64 c3])).run Try.prog w = .ok (.bool true) w := fun w => by rw [eql24, D2]
    have G := guard24
    have HRr : Hid (∀ w, Up W.drew w → w.heap[g]? = some (.cells #[.float .f64 x, .float .f64 v, .float .f64 a, .float .f64 b, .float .f64 c] 24)) := fun w hw => by
      have hl : g < W.heap.size := (Array.getElem?_eq_some_iff.1 HR.out).1
      exact (RowKit.Below.block ((Up.drew W).trans hw) g hl).trans HR.out
    clear E1 D D2 e10 e11 e12 e13 e14 e20 e21 e22 e23 e24 e30 e31 e32 e33 e34 f10 f11 f12 f13 f14 f20 f21 f22 f23 f24 f30 f31 f32 f33 f34 g10 g11 g12 g13 g14 g20 g21 g22 g23 g24 g30 g31 g32 g33 g34 HR
    refine wp_region_sp 14 [.val (.agg #[.float .f64 x, .float .f64 v, .float .f64 a, .float .f64 b, .float .f64 c]), .val (.float .f64 tb), .val (.agg #[.float .f64 x1, .float .f64 v1, .float .f64 a1, .float .f64 b1, .float .f64 c1]), .val (.float .f64 ub), .val (.agg #[.float .f64 x2, .float .f64 v2, .float .f64 a2, .float .f64 b2, .float .f64 c2]), .val (.agg #[.float .f64 x, .float .f64 v, .float .f64 a, .float .f64 b, .float .f64 c]), .val (.float .f64 tb), .val (.float .f64 ub), .val (.float .f64 tu), .val (.agg #[.float .f64 x3, .float .f64 v3, .float .f64 a3, .float .f64 b3, .float .f64 c3]), .val (.bool true), .val (.bool true), .val (.bool true), .val (.bool true)] (UpC _) (by kernel_rfl) (by decide) rfl (by kernel_rfl) trivial (UpC.start _) ?_
    intro rs hF
    clear hF
    simp only [List.take_succ_cons, List.take_zero, valsL, FillL, Act.put, List.setIfInBounds_toArray, List.set_cons_succ, List.set_cons_zero]
    refine ⟨⟨LoosO.row (by kernel_rfl) rfl rfl rfl (fun w hw => HRr.out w hw),
        LoosO.is rfl (fun w hw => by go_simp),
        LoosO.callV (by kernel_rfl) rfl #[.agg #[.float .f64 x, .float .f64 v, .float .f64 a, .float .f64 b, .float .f64 c], .float .f64 tb, .float .f64 0] (by kernel_rfl) (eg14 _) (fun w hw => (K1.out w).mono fun _ _ h => ⟨h.1, UpC.then hw h.2.out⟩),
        LoosO.is rfl (fun w hw => by go_simp),
        LoosO.callV (by kernel_rfl) rfl #[.agg #[.float .f64 x1, .float .f64 v1, .float .f64 a1, .float .f64 b1, .float .f64 c1], .float .f64 ub, .float .f64 0] (by kernel_rfl) (eg14 _) (fun w hw => (K2.out w).mono fun _ _ h => ⟨h.1, UpC.then hw h.2.out⟩),
        LoosO.row (by kernel_rfl) rfl rfl rfl (fun w hw => HRr.out w hw),
        LoosO.is rfl (fun w hw => by go_simp),
        LoosO.is rfl (fun w hw => by go_simp),
        LoosO.is rfl (fun w hw => by go_simp),
        LoosO.callV (by kernel_rfl) rfl #[.agg #[.float .f64 x, .float .f64 v, .float .f64 a, .float .f64 b, .float .f64 c], .float .f64 tu, .float .f64 0] (by kernel_rfl) (eg14 _) (fun w hw => (K3.out w).mono fun _ _ h => ⟨h.1, UpC.then hw h.2.out⟩),
        LoosO.eqS rfl rfl rfl rfl L,
        LoosO.is rfl (fun w hw => by go_simp),
        LoosO.callV (by kernel_rfl) rfl #[] (by kernel_rfl) (eg19 _) (fun w hw => (t19 w).mono fun _ _ h => ⟨h.1, UpC.then hw h.2.out⟩),
        LoosO.is rfl (fun w hw => by go_simp), trivial⟩, ?_⟩
    intro w9 hw9
    simp only [List.drop_succ_cons, List.drop_zero]
    have HT9 : Hid (Up w w9) := (HU.out.trans (Up.drew _)).trans hw9
    clear hw9
    go_wp2
    go_ret
    exact ⟨rfl, HT9⟩
end Go.Proofs.Ytdolfkgnehiecaa
