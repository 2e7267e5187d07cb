/- StillWeighed: the walk. -/
import Derived.Test.YtgalgnopjcpocaaVe
namespace Go.Proofs.Ytgalgnopjcpocaa
open Go.ChangeShapes Go.WideShapes Go.ChangeAt Go.RowKit Go.Fl Ieee
attribute [local go_sem] run_store_float run_store_c isSome_set call20 call33 run_neg fold_eq fold_ne fold_lt fold_gt abs_eq
set_option maxRecDepth 20000 in
set_option maxHeartbeats 8000000 in
/-- Where it goes on. -/
theorem t6ok {w : World} {R ro N c o : Nat} {P : Nat → Option Addr} {Ln Cp : Nat → Nat} {f : Nat → Nat → Int × Int} {mx my : Int} (h : GP w R ro N P Ln Cp f) (hN1 : 1 ≤ N) (hN : N ≤ 200) (hL : Ln 0 ≤ 200) (o8 : o ≤ 8) (hoN : o < N) :
    Calls Try.prog 6 #[.slice (some ⟨R, ro, none⟩) N c, .int .i64 o, .agg #[.int .i64 mx, .int .i64 my]] w (YS w) := by
  have H : Hid (GP w R ro N P Ln Cp f) := h
  clear h
  go_enter Try.func6, Try.ntmps6
  go_upto_region 1 with fail
  obtain ⟨W0, hW0⟩ : ∃ W0, w.alloc (.cells #[.int .i64 mx, .int .i64 my] 47) = W0 := ⟨_, rfl⟩
  have U0 : Hid (Up w W0) := by show Up w W0; rw [← hW0]; exact Up.alloc _ _
  have HBX : Hid (W0.cell? ⟨w.heap.size, 0, none⟩ = some (.int .i64 mx) ∧ W0.cell? ⟨w.heap.size, 1, none⟩ = some (.int .i64 my)) := by
    constructor <;> (rw [← hW0]; simp)
  rw [hW0]
  generalize w.heap.size = bx at *
  clear hW0
  have c0 : W0.cell? ⟨R, ro, none⟩ = some (.slice (P 0) (Ln 0) (Cp 0)) := by simpa using cell_up (H.out.hdr 0 hN1) U0.out
  have z1 : ¬ (200 : Int) < (N : Int) := by omega
  have z2 : (0 : Int) < (N : Int) := by omega
  have z3 : ¬ (200 : Int) < (Ln 0 : Int) := by omega
  have a2 : ¬ (o : Int) < 0 := by omega
  have a3 : ¬ (8 : Int) < (o : Int) := by omega
  have a5 : ¬ (N : Int) ≤ (o : Int) := by omega
  go_upto_region 3 with fail
  clear c0 z1 z2 z3 a2 a3 a5
  obtain ⟨n, hn⟩ : ∃ n, mn Ln N = n := ⟨_, rfl⟩
  have hn2 : n ≤ 200 := by rw [← hn]; exact Nat.le_trans (mn_le Ln N 0 (by omega)) hL
  obtain ⟨m, hm⟩ : ∃ m, o + m = N := ⟨N - o, by omega⟩
  have HM : Hid (o + m = N) := hm
  have m1 : 1 ≤ m := by omega
  have H21 : Hid (∀ wx, Up W0 wx → Calls Try.prog 21 #[.slice (some ⟨R, ro, none⟩) N c] wx (WO wx N n f)) := fun wx u => by
    have u2 := U0.out.trans u
    refine t21 (P := P) (Ln := Ln) (Cp := Cp) ⟨fun i hi => cell_up (H.out.hdr i hi) u2, fun i hi h0 => ?_⟩ hN1 hN hL hn
    obtain ⟨b, o, e, r⟩ := H.out.row i hi h0
    exact ⟨b, o, e, fun j hj => ⟨cell_up (r j hj).1 u2, cell_up (r j hj).2 u2⟩⟩
  have H9 : Hid (∀ wx, Calls Try.prog 9 #[.int .i64 o] wx (fun e w' => ∃ wb cap, e = .returned (.slice (some ⟨wb, 0, none⟩) (o + 1) cap) ∧ Hid (∀ j, j ≤ o → w'.cell? ⟨wb, j, none⟩ = some (.int .i64 (wgt o j))) ∧ Hid (Up wx w'))) := fun wx => w9 o8 wx
  have FB : Hid ((∀ a g, -549755813888 ≤ (cutZ (f a g)).1 ∧ (cutZ (f a g)).1 ≤ 549755813888) ∧ ∀ a g, -549755813888 ≤ (cutZ (f a g)).2 ∧ (cutZ (f a g)).2 ≤ 549755813888) :=
    ⟨fun a g => by have := tmod_le (f a g).1; unfold cutZ; omega, fun a g => by have := tmod_le (f a g).2; unfold cutZ; omega⟩
  have e1 : (N : Int) - (o : Int) = (m : Int) := by omega
  have t1 := tmod_le mx
  have t2 := tmod_le my
  obtain ⟨rx, hrx⟩ : ∃ r, mx.tmod 549755813888 = r := ⟨_, rfl⟩
  obtain ⟨ry, hry⟩ : ∃ r, my.tmod 549755813888 = r := ⟨_, rfl⟩
  rw [hrx] at t1
  rw [hry] at t2
  obtain ⟨t3, t4⟩ := t1
  obtain ⟨t5, t6⟩ := t2
  obtain ⟨k1, k2⟩ := HBX.out
  clear HBX hn hm
  have o9 : (o : Int) ≤ 8 := by omega
  have n9 : (N : Int) ≤ 200 := by omega
  have m9 : (m : Int) ≤ 200 := by omega
  go_upto_region 9 with (first
    | (go_at_call 21; (with_reducible refine (H21.out _ (Up.refl _)).mono ?_); rintro e W1 ⟨A1, cap1, P1, C1, D1, rfl, HT1, HV1⟩
       replace k1 := cell_up k1 HT1.out.up
       replace k2 := cell_up k2 HT1.out.up)
    | (go_at_call 9; (with_reducible refine (H9.out _).mono ?_); rintro e W2 ⟨wb, cw, rfl, HW, U2⟩
       replace k1 := cell_up k1 U2.out
       replace k2 := cell_up k2 U2.out
       have HX0 : Hid (Calls Try.prog 22 #[.slice (some ⟨A1, 0, none⟩) N cap1, .int .i64 o] W2 (XO W2 N n o m (fun a g => cutZ (f a g)))) := by
         (refine w22 (M := 549755813888) (HT1.out.upw U2.out) (fun a ha g hg => ?_) (by omega) (by omega) FB.out.1 FB.out.2 hN hn2 o8 HM.out m1
          rw [HV1.out a ha g hg]
          exact wv_wh _))
    | (go_at_call 22; (with_reducible refine HX0.out.mono ?_); rintro e W3 ⟨AX, BX, rfl, HX1, HX2, U3⟩
       replace k1 := cell_up k1 U3.out
       replace k2 := cell_up k2 U3.out))
  have UA : Hid (Up W0 W3) := (HT1.out.up.trans U2.out).trans U3.out
  go_upto_region 10 with (go_at_call 21; (with_reducible refine (H21.out _ UA.out).mono ?_); rintro e W4 ⟨A2, cap2, P2, C2, D2, rfl, HT2, HV2⟩)
  have HA0 : Hid (AS W3 W4 A2 cap2 N n P2 C2 D2 (fun a g => cutZ (f a g)) (rx, ry) 0 0) := ⟨HT2.out, fun a ha g hg => by
    rw [HV2.out a ha g hg]
    unfold mF
    rw [if_neg (by omega)]
    exact wv_wh _⟩
  have HMW : Hid (WH (ab (floatOfInt .f64 rx)) rx ∧ WH (ab (floatOfInt .f64 ry)) ry) := ⟨WH.int (by unfold P53; omega) (by unfold P53; omega), WH.int (by unfold P53; omega) (by unfold P53; omega)⟩
  clear HT2 HV2 k1 k2 H21 H9 HX0
  go_wp2
  go_loopw [13, 14] (fun v13 _ wr => ∃ (i : Nat) (D : Nat → List (Nat × Nat)), i ≤ N ∧ v13 = .int .i64 i ∧ Hid (AS W3 wr A2 cap2 N n P2 C2 D (fun a g => cutZ (f a g)) (rx, ry) i 0)) (fun v13 _ _ => N - (intOf v13).toNat)
  case atStart => exact ⟨0, D2, by omega, rfl, HA0⟩
  case round =>
    clear HA0
    obtain ⟨i, D, hi, rfl, HA⟩ := hrel
    rcases Nat.lt_or_ge i N with hlt | hge
    · have y1 : (i : Int) < (N : Int) := by omega
      have y2 : (0 : Int) ≤ (i : Int) := by omega
      go_wp2
      go_loopw [14] (fun v14 wr => ∃ (k : Nat) (D : Nat → List (Nat × Nat)), k ≤ n ∧ v14 = .int .i64 k ∧ Hid (AS W3 wr A2 cap2 N n P2 C2 D (fun a g => cutZ (f a g)) (rx, ry) i k)) (fun v14 _ => n - (intOf v14).toNat)
      case atStart => exact ⟨0, D, by omega, rfl, HA⟩
      case round =>
        clear HA
        obtain ⟨k, D, hk, rfl, HA⟩ := hrel
        have c1 := HA.out.tt.hdr hlt
        rcases Nat.lt_or_ge k n with hlt2 | hge2
        · have y3 : (k : Int) < (n : Int) := by omega
          have y4 : (0 : Int) ≤ (k : Int) := by omega
          have c2 := c1
          rw [HA.out.tt.at_ hlt (by omega)] at c2
          have c3 := HA.out.tt.cell hlt hlt2
          have HW1 := HA.out.val i hlt k hlt2
          have e5 : mF (fun a g => cutZ (f a g)) (rx, ry) i k i k = cutZ (f i k) := by unfold mF; rw [if_neg (by omega)]
          rw [e5] at HW1
          have f1 := (HA.out.tt.crow hlt (by omega)).frz k
          have i1 : (wr.cell? ⟨blk (P2 i), k, none⟩).isSome = true := by rw [c3]; rfl
          generalize (D i)[k]! = xy at c3 HW1
          obtain ⟨x, y⟩ := xy
          have fb := FB.out
          have fb1 := fb.1 i k
          have fb2 := fb.2 i k
          have a1 : WH _ _ := HW1.1.add HMW.out.1 (by unfold P53; omega) (by unfold P53; omega)
          have a2 : WH _ _ := HW1.2.add HMW.out.2 (by unfold P53; omega) (by unfold P53; omega)
          obtain ⟨u, hu, fu, vu⟩ := a1
          obtain ⟨v, hv, fv, vv⟩ := a2
          have F1 : ∀ w, (binOp .add 53 (.complex .f64 x y) (.complex .f64 (floatOfInt .f64 rx) (floatOfInt .f64 ry))).run Try.prog w = .ok (.complex .f64 u v) w := fun w => run_cadd6 53 w hu hv
          have HUV : Hid (WH2 (ab u, ab v) ((cutZ (f i k)).1 + rx, (cutZ (f i k)).2 + ry)) := ⟨⟨u, Fnt.ab fu, fu, vu⟩, ⟨v, Fnt.ab fv, fv, vv⟩⟩
          clear fb fb1 fb2 hu hv fu vu fv vv HW1 e5
          have HA1 : Hid (AS W3 wr.drew A2 cap2 N n P2 C2 D (fun a g => cutZ (f a g)) (rx, ry) i k) := HA.out.upw (Up.drew1 _)
          have f2 := (HA1.out.tt.crow hlt (by omega)).frz k
          have i2 : (wr.drew.cell? ⟨blk (P2 i), k, none⟩).isSome = true := by rw [HA1.out.tt.cell hlt hlt2]; rfl
          generalize hG : blk (P2 i) = G at *
          have HG : Hid (blk (P2 i) = G) := hG
          clear hG f1 i1
          generalize hci : C2 i = ci at *
          go_wp2_with fail
          refine wp_region_ord 15 [(0, none), (1, none), (2, none), (3, some false), (4, none), (5, none), (6, none), (7, none), (8, some false), (9, none), (10, none), (11, some false), (12, none), (13, none), (14, none)] (fun w' => w'.cell? ⟨A2, i, none⟩ = some (.slice (some ⟨G, 0, none⟩) n ci) ∧ w'.cell? ⟨G, k, none⟩ = some (.complex .f64 x y)) (by kernel_rfl) (by decide) rfl (by kernel_rfl) (fun _ _ d _ _ h => by cases d <;> exact h) (⟨cell_up c2 (Up.drew1 _), cell_up c3 (Up.drew1 _)⟩) ?_
          refine ⟨_, .slice (some ⟨A2, 0, none⟩) N cap2, some 105, rfl, rfl, Or.inl ⟨rfl, fun w' hS => ?_⟩, ?_⟩
          · go_simp
          refine ⟨_, .int .i64 i, some 106, rfl, rfl, Or.inl ⟨rfl, fun w' hS => ?_⟩, ?_⟩
          · go_simp
          refine ⟨_, .pointer (some ⟨A2, i, none⟩), some 107, rfl, rfl, Or.inl ⟨rfl, fun w' hS => ?_⟩, ?_⟩
          · go_simp
          refine ⟨_, .slice (some ⟨G, 0, none⟩) n ci, some 108, rfl, rfl, Or.inl ⟨rfl, fun w' hS => ?_⟩, ?_⟩
          · obtain ⟨h0, h1⟩ := hS
            go_simp
          refine ⟨_, .int .i64 k, some 109, rfl, rfl, Or.inl ⟨rfl, fun w' hS => ?_⟩, ?_⟩
          · go_simp
          refine ⟨_, .slice (some ⟨A2, 0, none⟩) N cap2, some 110, rfl, rfl, Or.inl ⟨rfl, fun w' hS => ?_⟩, ?_⟩
          · go_simp
          refine ⟨_, .int .i64 i, some 111, rfl, rfl, Or.inl ⟨rfl, fun w' hS => ?_⟩, ?_⟩
          · go_simp
          refine ⟨_, .pointer (some ⟨A2, i, none⟩), some 112, rfl, rfl, Or.inl ⟨rfl, fun w' hS => ?_⟩, ?_⟩
          · go_simp
          refine ⟨_, .slice (some ⟨G, 0, none⟩) n ci, some 113, rfl, rfl, Or.inl ⟨rfl, fun w' hS => ?_⟩, ?_⟩
          · obtain ⟨h0, h1⟩ := hS
            go_simp
          refine ⟨_, .int .i64 k, some 114, rfl, rfl, Or.inl ⟨rfl, fun w' hS => ?_⟩, ?_⟩
          · go_simp
          refine ⟨_, .pointer (some ⟨G, k, none⟩), some 115, rfl, rfl, Or.inl ⟨rfl, fun w' hS => ?_⟩, ?_⟩
          · go_simp
          refine ⟨_, .complex .f64 x y, some 116, rfl, rfl, Or.inl ⟨rfl, fun w' hS => ?_⟩, ?_⟩
          · obtain ⟨h0, h1⟩ := hS
            go_simp
          refine ⟨_, .complex .f64 (floatOfInt .f64 rx) (floatOfInt .f64 ry), some 117, rfl, rfl, Or.inl ⟨rfl, fun w' hS => ?_⟩, ?_⟩
          · go_simp
          refine ⟨_, .complex .f64 u v, some 118, rfl, rfl, Or.inl ⟨rfl, fun w' hS => ?_⟩, ?_⟩
          · go_simp
          refine ⟨_, .pointer (some ⟨G, k, none⟩), some 119, rfl, rfl, Or.inl ⟨rfl, fun w' hS => ?_⟩, ?_⟩
          · go_simp
          simp only [OrdW, List.drop_succ_cons, List.drop_zero, Act.put, List.setIfInBounds_toArray, List.set_cons_succ, List.set_cons_zero]
          go_wp2
          go_roundw
          case rel => exact ⟨k + 1, _, by omega, by go_num, by
            have := HA1.out.put hlt hlt2 HUV.out
            rw [HG.out] at this
            exact this⟩
          case measure => simp [intOf]; omega
        · obtain rfl : k = n := by omega
          go_wp2
          go_roundw
          case rel => exact ⟨i + 1, D, by omega, by go_num, HA.out.tt, fun a ha g hg => by
            rw [← mF_row _ _ hg]; exact HA.out.val a ha g hg⟩
          case measure => simp [intOf]; omega
    · obtain rfl : i = N := by omega
      have HY0 : Hid (Calls Try.prog 22 #[.slice (some ⟨A2, 0, none⟩) i cap2, .int .i64 o] wr (XO wr i n o m (fun a g => ((cutZ (f a g)).1 + rx, (cutZ (f a g)).2 + ry)))) := by
        have fb := FB.out
        refine w22 (M := 1099511627776) HA.out.tt (fun a ha g hg => ?_) (by omega) (by omega) (fun a g => by have := fb.1 a g; simp only; omega) (fun a g => by have := fb.2 a g; simp only; omega) hN hn2 o8 HM.out m1
        have := HA.out.val a ha g hg
        unfold mF at this
        rw [if_pos (Or.inl ha)] at this
        exact this
      have UW : Hid (Up W3 wr) := HA.out.tt.up
      clear HA HMW
      go_upto_region 20 with (go_at_call 22; (with_reducible refine HY0.out.mono ?_); rintro e W6 ⟨AY, BY, rfl, HY1, HY2, U6⟩)
      have HZ0 : Hid (ZS w W6 A1 AX AY wb i n o P1 C1 BX BY (fun a g => cutZ (f a g))) := zs_of (m := (rx, ry)) U0.out HT1.out HV1.out HW.out U2.out HX1.out HX2.out U3.out UW.out HY1.out HY2.out U6.out
      clear HY0 UW HY1 HY2 U6 U0 HT1 HV1 HW U2 HX1 HX2 U3 UA H
      go_wp2
      go_loopw [17, 18, 19, 20] (fun v17 _ _ _ wr => ∃ p : Nat, p ≤ m ∧ v17 = .int .i64 p ∧ Hid (ZS w wr A1 AX AY wb i n o P1 C1 BX BY (fun a g => cutZ (f a g)))) (fun v17 _ _ _ _ => m - (intOf v17).toNat)
      case atStart => exact ⟨0, by omega, rfl, HZ0⟩
      case round =>
        clear HZ0
        obtain ⟨p, hp, rfl, HZ⟩ := hrel
        rcases Nat.lt_or_ge p m with hlt | hge
        · have y1 : (p : Int) < (m : Int) := by omega
          have y2 : (0 : Int) ≤ (p : Int) := by omega
          have y3 : (p : Int) < (i : Int) := by omega
          have HPM : Hid (o + p < i ∧ p < i) := by show _ ∧ _; have := HM.out; omega
          have h1 := HZ.out.xh (o + p) HPM.out.1
          have h2 := HZ.out.th p HPM.out.2
          have h3 := HZ.out.yh (o + p) HPM.out.1
          have g1 : ((n : Int) != (n : Int)) = false := by simp
          go_upto_region 23 with fail
          go_quiet (fail)
          have HQ : Hid (∀ j, ZS w (wr.drewN j) A1 AX AY wb i n o P1 C1 BX BY (fun a g => cutZ (f a g))) := fun j => HZ.out.upw (Up.drewN _ j)
          clear HZ h1 h2 h3 g1
          go_wp2
          go_loopw [18, 19, 20] (fun v18 _ _ wr => ∃ k : Nat, k ≤ n ∧ v18 = .int .i64 k ∧ Hid (ZS w wr A1 AX AY wb i n o P1 C1 BX BY (fun a g => cutZ (f a g)))) (fun v18 _ _ _ => n - (intOf v18).toNat)
          case atStart => exact ⟨0, by omega, rfl, HQ.out _⟩
          case round =>
            clear HQ
            obtain ⟨k, hk, rfl, HZ⟩ := hrel
            have h1 := HZ.out.xh (o + p) HPM.out.1
            rcases Nat.lt_or_ge k n with hlt2 | hge2
            · have x1 : (k : Int) < (n : Int) := by omega
              have x2 : (0 : Int) ≤ (k : Int) := by omega
              go_wp2
              clear h1
              go_loopw [19, 20] (fun v19 v20 wr => ∃ j sx sy : Nat, j ≤ o + 1 ∧ v20 = .int .i64 j ∧ v19 = .complex .f64 sx sy ∧ Hid (WH (ab sx) (ws (wgt o) (fun b => (cutZ (f b k)).1) p j) ∧ WH (ab sy) (ws (wgt o) (fun b => (cutZ (f b k)).2) p j)) ∧ Hid (ZS w wr A1 AX AY wb i n o P1 C1 BX BY (fun a g => cutZ (f a g)))) (fun _ v20 _ => o + 1 - (intOf v20).toNat)
              case atStart => exact ⟨0, 0, 0, by omega, rfl, rfl, ⟨WH.zero, WH.zero⟩, HZ⟩
              case round =>
                clear HZ
                obtain ⟨j, sx, sy, hj, rfl, rfl, HS, HZ⟩ := hrel
                rcases Nat.lt_or_ge o j with hgt | hle
                · obtain rfl : j = o + 1 := by omega
                  have x5 : ¬ ((o + 1 : Nat) : Int) ≤ (o : Int) := by omega
                  have h1 := HZ.out.xh (o + p) HPM.out.1
                  obtain ⟨ax, ay, c1, q1, q2⟩ := HZ.out.xc (o + p) k HPM.out.1 hlt2
                  have E1 : eqF (ab ax) (ab sx) = true := by
                    have e : zk (fun b => (cutZ (f b k)).1) o (o + p) = ws (wgt o) (fun b => (cutZ (f b k)).1) p (o + 1) := by rw [Nat.add_comm o p, zk_ws o o8]
                    rw [WH.eq q1 HS.out.1]
                    exact decide_eq_true e
                  have E2 : eqF (ab ay) (ab sy) = true := by
                    have e : zk (fun b => (cutZ (f b k)).2) o (o + p) = ws (wgt o) (fun b => (cutZ (f b k)).2) p (o + 1) := by rw [Nat.add_comm o p, zk_ws o o8]
                    rw [WH.eq q2 HS.out.2]
                    exact decide_eq_true e
                  rcases Nat.eq_zero_or_pos o with o0 | o0
                  · subst o0
                    clear q1 q2
                    simp only [Nat.zero_add] at h1 c1
                    go_upto_region 33 with fail
                    go_quiet (fail)
                    all_goals (try go_wp2)
                    go_roundw
                    case rel => exact ⟨k + 1, by omega, by go_num, HZ.out.upw (Up.drewN _ _)⟩
                    case measure => simp [intOf]; omega
                  · have x6 : (0 : Int) < (o : Int) := by omega
                    have h3 := HZ.out.yh (o + p) HPM.out.1
                    obtain ⟨bx', by', c2, q3, q4⟩ := HZ.out.yc (o + p) k o0 (by omega) HPM.out.1 hlt2
                    have E3 : eqF (ab bx') (ab ax) = true := by
                      rw [WH.eq q3 q1]; exact decide_eq_true rfl
                    have E4 : eqF (ab by') (ab ay) = true := by
                      rw [WH.eq q4 q2]; exact decide_eq_true rfl
                    clear q1 q2 q3 q4
                    go_upto_region 33 with fail
                    go_quiet (fail)
                    all_goals (try go_wp2)
                    go_roundw
                    case rel => exact ⟨k + 1, by omega, by go_num, HZ.out.upw (Up.drewN _ _)⟩
                    case measure => simp [intOf]; omega
                · have x5 : (j : Int) ≤ (o : Int) := by omega
                  have x8 : (j : Int) < (o : Int) + 1 := by omega
                  have x9 : (0 : Int) ≤ (j : Int) := by omega
                  have cw := HZ.out.wc j hle
                  obtain ⟨q, hq⟩ : ∃ q, p + j = q := ⟨_, rfl⟩
                  have hqi : q < i := by have := HM.out; omega
                  have x6 : (p : Int) + (j : Int) = (q : Int) := by omega
                  have x7 : (q : Int) < (i : Int) := by omega
                  have x10 : (0 : Int) ≤ (q : Int) := by omega
                  have h2 := HZ.out.th q hqi
                  obtain ⟨tx, ty, et, c1, w1, w2⟩ := HZ.out.tc q k hqi hlt2
                  rw [et] at h2
                  obtain ⟨u1, v1, m1', a1, r1⟩ := ws_step (F := fun b => (cutZ (f b k)).1) o8 hle (fun a => FB.out.1 a k) HS.out.1 (by rw [hq]; exact w1)
                  obtain ⟨u2, v2, m2', a2, r2⟩ := ws_step (F := fun b => (cutZ (f b k)).2) o8 hle (fun a => FB.out.2 a k) HS.out.2 (by rw [hq]; exact w2)
                  have HR : Hid (WH (ab v1) (ws (wgt o) (fun b => (cutZ (f b k)).1) p (j + 1)) ∧ WH (ab v2) (ws (wgt o) (fun b => (cutZ (f b k)).2) p (j + 1))) := ⟨r1, r2⟩
                  have F1 : ∀ w, (binOp .mul 26 (.float .f64 (floatOfInt .f64 (wgt o j))) (.float .f64 tx)).run Try.prog w = .ok (.float .f64 u1) w := fun w => run_fl6 .mul 26 w m1'
                  have F2 : ∀ w, (binOp .mul 26 (.float .f64 (floatOfInt .f64 (wgt o j))) (.float .f64 ty)).run Try.prog w = .ok (.float .f64 u2) w := fun w => run_fl6 .mul 26 w m2'
                  have F3 : ∀ w, (binOp .add 53 (.complex .f64 sx sy) (.complex .f64 u1 u2)).run Try.prog w = .ok (.complex .f64 v1 v2) w := fun w => run_cadd6 53 w a1 a2
                  clear r1 r2 m1' m2' a1 a2 w1 w2 et hq HS
                  generalize wgt o j = wj at *
                  generalize blk (P1 q) = G at *
                  go_upto_region 32 with fail
                  go_quiet (fail)
                  all_goals (try go_wp2)
                  go_roundw
                  case rel => exact ⟨j + 1, v1, v2, by omega, by go_num, rfl, HR, HZ.out.upw (Up.drewN _ _)⟩
                  case measure => simp [intOf]; omega
            · obtain rfl : k = n := by omega
              go_wp2
              go_roundw
              case rel => exact ⟨p + 1, by omega, by go_num, HZ⟩
              case measure => simp [intOf]; omega
        · obtain rfl : p = m := by omega
          go_wp2_with (go_at_call 11; (with_reducible refine (t11 _).mono ?_); rintro e w1 ⟨rfl, U1⟩)
          go_ret
          exact ⟨rfl, HZ.out.up.trans U1.out⟩
theorem t6 {w : World} {R ro N c : Nat} {p : Option Addr} {P : Nat → Option Addr} {Ln Cp : Nat → Nat} {f : Nat → Nat → Int × Int} {od mx my : Int} (h : GP w R ro N P Ln Cp f) (hp : 0 < N → p = some ⟨R, ro, none⟩) :
    Calls Try.prog 6 #[.slice p N c, .int .i64 od, .agg #[.int .i64 mx, .int .i64 my]] w (YS w) := by
  by_cases hb : 1 ≤ N ∧ N ≤ 200 ∧ Ln 0 ≤ 200 ∧ 0 ≤ od ∧ od ≤ 8 ∧ od < N
  · obtain ⟨h1, h2, h3, h4, h5, h6⟩ := hb
    obtain ⟨o, rfl⟩ : ∃ o : Nat, od = (o : Int) := ⟨od.toNat, by omega⟩
    rw [hp (by omega)]
    exact t6ok h h1 h2 h3 (by omega) (by omega)
  · exact t6bad h hp hb
end Go.Proofs.Ytgalgnopjcpocaa
