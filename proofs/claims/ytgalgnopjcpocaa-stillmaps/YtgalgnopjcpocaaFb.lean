/- StillMaps: the walk. -/
import Derived.Test.YtgalgnopjcpocaaFd
namespace Go.Proofs.Ytgalgnopjcpocaa
open Go.ChangeShapes Go.WideShapes Go.ChangeAt Go.RowKit Go.Fl Ieee
attribute [local go_sem] run_store_float run_store_c isSome_set call20 call33 run_neg fold_eq fold_ne fold_lt fold_gt abs_eq

set_option maxRecDepth 20000 in
set_option maxHeartbeats 8000000 in
theorem t4 {w : World} {g : Int} {s : Nat} {p : Option Addr} {R ro n c : Nat} {P : Nat → Option Addr} {Ln Cp : Nat → Nat} {f : Nat → Nat → Nat} (h : GR w R ro n P Ln Cp f) (hp : 0 < n → p = some ⟨R, ro, none⟩) (hn : n ≤ 17592186044416) : Calls Try.prog 4 #[.int .i64 g, .float .f64 s, .slice p n c] w (YS w) := by
  have H : Hid (GR w R ro n P Ln Cp f) := h
  have HP : Hid (0 < n → p = some ⟨R, ro, none⟩) := hp
  have z0 : (n : Int) ≤ 17592186044416 := by omega
  clear h hp
  go_enter Try.func4, Try.ntmps4
  go_wp2
  go_loopw [7, 8] (fun vs vi wr => ∃ (i x : Nat), i ≤ n ∧ i ≤ 513 ∧ x ≤ 17592186109952 ∧ vi = .int .i64 i ∧ vs = .int .i64 x ∧ Hid (∀ j, j < i → Ln j ≤ x) ∧ wr = w) (fun _ vi _ => n - (intOf vi).toNat)
  case atStart => exact ⟨0, 0, by omega, by omega, by omega, rfl, rfl, fun j hj => by omega, rfl⟩
  case round =>
    obtain ⟨i, x, hi, hi2, hx, rfl, rfl, HX, hw⟩ := hrel
    subst wr
    by_cases hc : i < n ∧ i ≤ 512 ∧ x ≤ 65536
    · obtain ⟨c1, c2, c3⟩ := hc
      have y1 : (i : Int) < (n : Int) := by omega
      have y2 : (i : Int) ≤ 512 := by omega
      have y3 : (x : Int) ≤ 65536 := by omega
      have y4 : (0 : Int) ≤ (i : Int) := by omega
      have hp := HP.out (by omega)
      subst hp
      have k1 := H.out.hdr i c1
      have HS : Hid (Ln i ≤ 17592186044416) := H.out.small i c1
      obtain ⟨y, hy⟩ : ∃ y, x + Ln i = y := ⟨_, rfl⟩
      have y5 : (x : Int) + (Ln i : Int) = (y : Int) := by omega
      have HY : Hid (y ≤ 17592186109952 ∧ x ≤ y ∧ Ln i ≤ y) := by have := HS.out; show _ ∧ _; omega
      have y6 : (y : Int) ≤ 17592186109952 := by have := HY.out.1; omega
      clear hy
      go_wp2
      go_roundw
      case rel => exact ⟨i + 1, y, by omega, by omega, HY.out.1, by go_num, rfl, fun j hj => by
        by_cases e : j = i
        · subst e; exact HY.out.2.2
        · exact Nat.le_trans (HX.out j (by omega)) HY.out.2.1, trivial⟩
      case measure => simp [intOf]; omega
    · by_cases hbig : x ≤ 65536 ∧ n ≤ 512
      · obtain ⟨b1, b2⟩ := hbig
        obtain rfl : i = n := by omega
        have HL : Hid (∀ j, j < i → Ln j ≤ 65536) := fun j hj => Nat.le_trans (HX.out j hj) b1
        have y1 : ¬ (65536 : Int) < (x : Int) := by omega
        have y2 : ¬ (512 : Int) < (i : Int) := by omega
        have y3 : (i : Int) ≤ 512 := by omega
        clear hc hx HX hi2 b1
        by_cases he : newE g (ab s) = 0
        · have hg := new_range he
          have HSH : Hid (shareF (ab s) = true) := new_share he
          obtain ⟨N, rfl⟩ : ∃ N : Nat, g = N := ⟨g.toNat, by omega⟩
          have hN1 : 1 ≤ N := by omega
          have hN2 : N ≤ 16384 := by omega
          have x1 : (1 : Int) ≤ (N : Int) := by omega
          have x2 : (N : Int) ≤ 16384 := by omega
          clear he hg
          go_wp2_with (first
            | (go_at_call 12; (fail_if_success have := HM); (with_reducible refine (t12 N s _ hN1 hN2 HSH.out).mono ?_); rintro e w1 ⟨M, L, rfl, HM, U1⟩)
            | (go_at_call 13; (with_reducible refine (t13 N s _ hN1 hN2 HSH.out).mono ?_); rintro e w2 ⟨M1, L1, rfl, HM1, U2⟩)
            | (go_at_call 12; (with_reducible refine (t12 N _ _ hN1 hN2 share_one).mono ?_); rintro e w3 ⟨M2, L2, rfl, HM2, U3⟩))
          have HS0 : Hid (SM w w3 M L M1 L1 M2 L2 N s w1.heap.size w2.heap.size false false (fun _ => some 0)) := by
            refine ⟨⟨_, (HM.out.up U2.out).up U3.out, fun i hi => rep_ab hi⟩, ⟨_, (HM1.out.base U1.out.size).up U3.out, fun i hi => rep_ab hi⟩, ⟨_, fun _ => some 0, HM2.out.base (Nat.le_trans U1.out.size U2.out.size), fun i hi => rep_ab hi⟩, ?_, (U1.out.trans U2.out).trans U3.out⟩
            exact ⟨HM.out.lt, HM.out.lt2.2, HM1.out.lo, HM1.out.lt2.1, HM1.out.lt, HM1.out.lt2.2, HM2.out.lo, HM2.out.lt2.1⟩
          generalize w1.heap.size = ba at *
          generalize w2.heap.size = bb at *
          clear HM HM1 HM2 U1 U2 U3 HSH
          go_loopw [15] (fun vi wr => ∃ (j : Nat) (fed : Bool) (lv : Nat → Option Nat), j ≤ i ∧ vi = .int .i64 j ∧ Hid (SM w wr M L M1 L1 M2 L2 N s ba bb fed fed lv)) (fun vi _ => i - (intOf vi).toNat)
          case atStart => exact ⟨0, _, _, by omega, rfl, HS0⟩
          case round =>
            clear HS0
            obtain ⟨j, fed, lv, hj, rfl, HS⟩ := hrel
            by_cases hlt : j < i
            · have v1 : (j : Int) < (i : Int) := by omega
              have v2 : (0 : Int) ≤ (j : Int) := by omega
              have hp := HP.out (by omega)
              subst hp
              have k1 := cell_up (H.out.hdr j hlt) HS.out.up
              have HV : Hid (VF w (P j) (Ln j) (f j)) := H.out.row j hlt
              obtain ⟨n', hn'⟩ : ∃ n', Ln j = n' := ⟨_, rfl⟩
              have HNL : Hid (n' ≤ 65536) := by rw [← hn']; exact HL.out j hlt
              rw [hn'] at k1 HV
              have HKW := H.out.hdr j hlt
              rw [hn'] at HKW
              generalize P j = q at k1 HV HKW
              generalize Cp j = cq at k1 HKW
              replace HKW : Hid (w.cell? ⟨R, ro + j, none⟩ = some (.slice q n' cq)) := HKW
              obtain ⟨fr, hfr⟩ : ∃ fr, f j = fr := ⟨_, rfl⟩
              rw [hfr] at HV
              clear hfr
              generalize hW : wr = W at *
              clear hW hn'
              go_upto_region 16 with fail
              go_cut [16] from 96 to 244 (fun s16 wx => ∃ gm cm : Nat, s16 = .slice (some ⟨gm, 0, none⟩) n' cm ∧ n' + 1 ≤ cm ∧ Hid (FO W.heap.size wx (.slice (some ⟨gm, 0, none⟩) (n' + 1) cm) (cutN fr n' ++ [4635118810238550016])) ∧ Hid (Up W wx))
              case first =>
                obtain ⟨i0, hi0, hz0, hz1, hz2⟩ := info_parts info26
                have hnl := HNL.out
                have HVW : Hid (VF W q n' fr) := HV.out.up HS.out.up
                have l1 := World.block_lt_of_cell? W _ k1
                have m1 : (n' : Int) ≤ 65536 := by omega
                have m0 : (0 : Int) ≤ (n' : Int) := by omega
                go_region_held3 (fun w' => w'.cell? ⟨R, ro + j, none⟩ = some (.slice q n' cq))
                  (first
                    | go_keep
                    | exact cell_up k1 HU2.out
                    | exact cell_up k1 HU1.out)
                  (first
                    | ((refine step_app_vf (by rfl) _ _ (by rfl) W.heap.size W.heap.size q n' cq fr (by rfl) (by rfl) (((own_empty W (Nat.le_refl _)).alloc _).drew) (HVW.out.up (((Up.alloc _ _).trans (Up.alloc _ _)).trans (Up.drewN _ 1))) (by omega) (by first | omega | (simp; done) | (simp; omega)) ?_); intro g1 c1 w1 hown1 hgr1 hat1
                       have HU1 : Hid (Up W w1) := Below.grown (((Up.alloc _ _).trans (Up.alloc _ _)).trans (Up.drewN _ 1)) hgr1 (by first | omega | (simp; done) | (simp; omega)) (fun x hx => by cases hx; exact Nat.le_refl _)
                       have h77 : w1.cell? ⟨W.heap.size + 1, 0, none⟩ = some (.float .f64 4635118810238550016) := by
                         rw [hgr1.cell_far _ (by simp) (by simp)]; exact cell_up (new_cell1 W _ _ _ 0 _ rfl) (Up.drewN _ 1))
                    | ((refine step_app_vf (by rfl) _ _ (by rfl) W.heap.size (W.heap.size + 1) q n' cq fr (by rfl) (by rfl) (by have := (own_empty (W.alloc (.cells #[.float .f64 4635118810238550016] 26)) (b := W.heap.size) (by simp)).drew; simpa using this) (HVW.out.up (((Up.alloc _ _).trans (Up.alloc _ _)).trans (Up.drewN _ 1))) (by omega) (by first | omega | (simp; done) | (simp; omega)) ?_); intro g1 c1 w1 hown1 hgr1 hat1
                       have HU1 : Hid (Up W w1) := Below.grown (((Up.alloc _ _).trans (Up.alloc _ _)).trans (Up.drewN _ 1)) hgr1 (by first | omega | (simp; done) | (simp; omega)) (fun x hx => by cases hx; omega)
                       have h77 : w1.cell? ⟨W.heap.size, 0, none⟩ = some (.float .f64 4635118810238550016) := by
                         rw [hgr1.cell_far _ (by simp; omega) (by simp)]; exact cell_up (new_cell W _ _ 0 _ rfl) ((Up.alloc _ _).trans (Up.drewN _ 1)))
                    | ((refine step_app_vf (by rfl) _ _ (by rfl) W.heap.size W.heap.size q n' cq fr (by rfl) (by rfl) ((own_empty W (Nat.le_refl _)).drew) (HVW.out.up ((Up.alloc _ _).trans (Up.drewN _ 1))) (by omega) (by first | omega | (simp; done) | (simp; omega)) ?_); intro g1 c1 w1 hown1 hgr1 hat1
                       have HU1 : Hid (Up W w1) := Below.grown ((Up.alloc _ _).trans (Up.drewN _ 1)) hgr1 (by first | omega | (simp; done) | (simp; omega)) (fun x hx => by cases hx; exact Nat.le_refl _))
                    | ((refine step_append_lies _ (by rfl) _ _ _ (by rfl) W.heap.size 26 i0 _ 1 8 Try.underlying28 hi0 hz0 hz1 hz2 rfl (by omega) (.slice (some ⟨g1, 0, none⟩) n' c1) n' _ (by rfl) hown1 ⟨W.heap.size + 1, 0, none⟩ 1 1 [.float .f64 4635118810238550016] (by rfl) (by rfl) (news1 h77) (one_cell rfl) (by omega) (by unfold maxLen; omega) (by omega) HU1.out.size w1.heap.size rfl ?_); intro g2 c2 w2 hown2 hgr2 hat2 hlt2
                       have HU2 : Hid (Up W w2) := Below.grown HU1.out hgr2 HU1.out.size (fun x hx => (hown1.lt x hx).1)
                       have o2 := (mine_own hown2).2
                       have o3 : (n' : Int) ≤ (c2 : Int) := by omega)
                    | ((refine step_append_lies _ (by rfl) _ _ _ (by rfl) W.heap.size 26 i0 _ 1 8 Try.underlying28 hi0 hz0 hz1 hz2 rfl (by omega) (.slice (some ⟨g1, 0, none⟩) n' c1) n' _ (by rfl) hown1 ⟨W.heap.size, 0, none⟩ 1 1 [.float .f64 4635118810238550016] (by rfl) (by rfl) (news1 h77) (one_cell rfl) (by omega) (by unfold maxLen; omega) (by omega) HU1.out.size w1.heap.size rfl ?_); intro g2 c2 w2 hown2 hgr2 hat2 hlt2
                       have HU2 : Hid (Up W w2) := Below.grown HU1.out hgr2 HU1.out.size (fun x hx => (hown1.lt x hx).1)
                       have o2 := (mine_own hown2).2
                       have o3 : (n' : Int) ≤ (c2 : Int) := by omega)
                    | ((refine step_append_lies _ (by rfl) _ _ _ (by rfl) W.heap.size 26 i0 _ 1 8 Try.underlying28 hi0 hz0 hz1 hz2 rfl (by omega) (.slice (some ⟨g1, 0, none⟩) n' c1) n' _ (by rfl) (hown1.alloc _) ⟨w1.heap.size, 0, none⟩ 1 1 [.float .f64 4635118810238550016] (by rfl) (by rfl) (one_new w1 _ _) (one_cell rfl) (by omega) (by unfold maxLen; omega) (by omega) (Nat.le_trans HU1.out.size (Up.alloc _ _).size) (w1.heap.size + 1) (by simp) ?_); intro g2 c2 w2 hown2 hgr2 hat2 hlt2
                       have HU2 : Hid (Up W w2) := Below.grown (HU1.out.trans (Up.alloc _ _)) hgr2 (Nat.le_trans HU1.out.size (Up.alloc _ _).size) (fun x hx => (hown1.lt x hx).1)
                       have o2 := (mine_own hown2).2
                       have o3 : (n' : Int) ≤ (c2 : Int) := by omega))
                all_goals
                  have o1 := (mine_own hown2).1
                  have HO : Hid (FO W.heap.size w2 (.slice (some ⟨g2, 0, none⟩) (n' + 1) c2) (cutN fr n' ++ [4635118810238550016])) := o1
                  have o4 : (n' : Int) + 1 ≤ (c2 : Int) := by omega
                  clear o1 hown1 hown2 hgr1 hgr2 hat1 hat2 hlt2
                  try go_wp2
                  go_meet
                  case rel => exact ⟨g2, c2, rfl, o2, HO, HU2⟩
              case rest =>
                obtain ⟨gm, cm, rfl, hcm, HMI, UM⟩ := hcut
                have HSC : Hid (SM w wc M L M1 L1 M2 L2 N s ba bb fed fed lv) := HS.out.grow UM.out
                have HLW : Hid (Low M L M1 L1 M2 L2 W.heap.size) := HS.out.low
                have HGM : Hid (W.heap.size ≤ gm ∧ gm < wc.heap.size ∧ n' + 1 ≤ cm) := ⟨(OR.at_ HMI.out).1, (OR.at_ HMI.out).2, hcm⟩
                replace k1 := cell_up k1 UM.out
                have o4 : (n' : Int) + 1 ≤ (cm : Int) := by omega
                have m1 : (n' : Int) ≤ 65536 := by have := HNL.out; omega
                have m0 : (0 : Int) ≤ (n' : Int) := by omega
                have HR : Hid (R < w.heap.size) := World.block_lt_of_cell? w _ (H.out.hdr j hlt)
                have e77 : eqF (ab 4635118810238550016) (ab 4635118810238550016) = true := by decide +kernel
                clear HS UM hcm
                by_cases hN : n' = N
                · subst hN
                  obtain ⟨qb, qo, hq, hr⟩ := HV.out (by omega)
                  subst hq
                  have HRW : Hid (RF w qb qo n' fr ∧ qb < w.heap.size) := ⟨hr, World.block_lt_of_cell? w _ (hr 0 (by omega))⟩
                  clear hr
                  obtain ⟨dp, mp, vp⟩ := HSC.out.p
                  obtain ⟨dm, mm, vm⟩ := HSC.out.m
                  have H14 : Hid (Calls Try.prog 14 #[.pointer (some ⟨M1, 0, none⟩), .slice (some ⟨qb, qo, none⟩) n' cq] wc (FE w.heap.size wc M1 L1 n' s fed lv fr)) := feed14 mp vp (HRW.out.1.up HSC.out.up) hN1 hN2 (by have := HRW.out.2; have := mp.lo; omega) (by have := HRW.out.2; have := mp.lt2.1; omega)
                  have H15 : Hid (∀ wb, Two M1 L1 wc wb → Calls Try.prog 15 #[.pointer (some ⟨M, 0, none⟩), .slice (some ⟨gm, 0, none⟩) n' cm] wb (FE w.heap.size wb M L n' s fed lv (fun i => (cutN fr n' ++ [4635118810238550016])[i]!))) := fun wb ht => by
                    have g1 := HGM.out
                    have g2 := HLW.out
                    have g3 := HSC.out.apart
                    unfold Low at g2
                    have ho : FO W.heap.size wb (.slice (some ⟨gm, 0, none⟩) (n' + 1) cm) (cutN fr n' ++ [4635118810238550016]) := OR.two HMI.out ht (by simp [Value.ownBlock]; omega) (by simp [Value.ownBlock]; omega)
                    exact feed15 (mm.two ht (by omega) (by omega) (by omega) (by omega)) vm (fun i hi => FO.rf ho i (by omega)) hN1 hN2 (by omega) (by omega)
                  clear mp vp mm vm dp dm
                  go_upto_region 19 with (first
                    | (go_at_call 14; (with_reducible refine H14.out.mono ?_); rintro e wb ⟨G1, cw, d1, ov1, rfl, HO1, HP1, HT1, HV1, HD1⟩
                       replace k1 := HT1.out.cell (by have := HR.out; have := HP1.out.lo; omega) (by have := HR.out; have := HP1.out.lt2.1; omega) k1)
                    | (go_at_call 15; (with_reducible refine (H15.out _ HT1.out).mono ?_); rintro e wd ⟨G0, cg, d0, ov0, rfl, HO0, HP0, HT0, HV0, HD0⟩
                       replace k1 := HT0.out.cell (by have := HR.out; have := HP0.out.lo; omega) (by have := HR.out; have := HP0.out.lt2.1; omega) k1))
                  have HSD : Hid (SM w wd M L M1 L1 M2 L2 n' s ba bb true fed (nextF (ab s) fed lv fr)) := HSC.out.fed2 HP1.out HT1.out HD1.out HP0.out HT0.out HD0.out (fun i hi => mine_at _ _ _ hi)
                  have HMD : Hid (FO W.heap.size wd (.slice (some ⟨gm, 0, none⟩) (n' + 1) cm) (cutN fr n' ++ [4635118810238550016])) := by
                    have g1 := HGM.out
                    have g2 := HLW.out
                    unfold Low at g2
                    exact OR.two (OR.two HMI.out HT1.out (by simp [Value.ownBlock]; omega) (by simp [Value.ownBlock]; omega)) HT0.out (by simp [Value.ownBlock]; omega) (by simp [Value.ownBlock]; omega)
                  have HWD : Hid (FO wc.heap.size wd (.slice (some ⟨G1, 0, none⟩) n' cw) ov1) := by
                    have g1 := (OR.at_ HO1.out).1
                    have g2 := HSC.out.low
                    unfold Low at g2
                    exact OR.two HO1.out HT0.out (by simp [Value.ownBlock]; omega) (by simp [Value.ownBlock]; omega)
                  have HGD : Hid (FO wc.heap.size wd (.slice (some ⟨G0, 0, none⟩) n' cg) ov0) := OR.base HO0.out HT1.out.size
                  have HEQ : Hid (∀ i, i < n' → ab ov0[i]! = ab ov1[i]!) := fun i hi => by
                    rw [HV0.out i hi, HV1.out i hi]
                    unfold overF baseF
                    simp only [mine_at _ _ _ hi]
                  have HVL : Hid (VF wd (some ⟨qb, qo, none⟩) n' fr) := HV.out.up HSD.out.up
                  have K1 : Hid (∀ k, Calls Try.prog 16 #[.slice (some ⟨G0, 0, none⟩) n' cg, .slice (some ⟨G1, 0, none⟩) n' cw] (wd.drewN k) fun e w' => e = .returned (.bool true) ∧ ∃ m, w' = (wd.drewN k).drewN m) := fun k => t16 ((FO.vf HGD.out).up (Up.drewN _ _)) ((FO.vf HWD.out).up (Up.drewN _ _)) HEQ.out (by have := HNL.out; omega)
                  have K2 : Hid (∀ k, Calls Try.prog 16 #[.slice (some ⟨gm, 0, none⟩) n' cm, .slice (some ⟨qb, qo, none⟩) n' cq] (wd.drewN k) fun e w' => e = .returned (.bool true) ∧ ∃ m, w' = (wd.drewN k).drewN m) := fun k => t16 (fa := fun i => (cutN fr n' ++ [4635118810238550016])[i]!) (fun hp => ⟨gm, 0, rfl, fun i hi => (FO.rf HMD.out i (by omega)).trans rfl |> fun h => cell_up h (Up.drewN _ _)⟩) (HVL.out.up (Up.drewN _ _)) (fun i hi => by rw [mine_at _ _ _ hi]) (by have := HNL.out; omega)
                  have x77 := HMD.out.cell (i := n') (by rw [OR.len HMD.out]; omega)
                  rw [mine_last] at x77
                  have HS3 : Hid (∀ k, S3 w W (wd.drewN k) M L M1 L1 M2 L2 n' s ba bb true fed (nextF (ab s) fed lv fr) gm cm n' (some ⟨G0, 0, none⟩) n' cg wc.heap.size) := fun k => ⟨HSD.out.grow (Up.drewN _ _), ⟨_, OR.up HMD.out (Up.drewN _ _)⟩, ⟨_, OR.up HGD.out (Up.drewN _ _)⟩, HLW.out, HGM.out.2.1, Nat.le_trans HGM.out.1 (Nat.le_of_lt HGM.out.2.1)⟩
                  clear HO1 HP1 HT1 HV1 HD1 HO0 HP0 HT0 HV0 HD0 HMD HWD HGD HEQ HVL H14 H15 HSC HMI
                  go_quiet (first | (go_at_call 16; (with_reducible refine Calls.quiet_of (K1.out _))) | (go_at_call 16; (with_reducible refine Calls.quiet_of (K2.out _))))
                  have HS4 : Hid (S3 w W (wd.drewN nq) M L M1 L1 M2 L2 n' s ba bb true fed (nextF (ab s) fed lv fr) gm cm n' (some ⟨G0, 0, none⟩) n' cg wc.heap.size) := HS3.out nq
                  clear HS3 K1 K2 x77 k1
                  generalize wd.drewN nq = w4 at *
                  go_wp2
                  go_loopw [21] (fun vi wr => ∃ k : Nat, k ≤ n' ∧ vi = .int .i64 k ∧ Hid (S3 w W wr M L M1 L1 M2 L2 n' s ba bb true fed (nextF (ab s) fed lv fr) gm cm n' (some ⟨G0, 0, none⟩) n' cg wc.heap.size)) (fun vi _ => n' - (intOf vi).toNat)
                  case atStart => exact ⟨0, by omega, rfl, HS4⟩
                  case round =>
                    clear HS4
                    obtain ⟨k, hk, rfl, HS4⟩ := hrel
                    by_cases hkl : k < n'
                    · obtain ⟨dm, hm⟩ := HS4.out.mine
                      have c1 := hm.cell (i := k) (by rw [OR.len hm]; omega)
                      have f1 := hm.frz k
                      generalize dm[k]! = y0 at c1
                      have r1 : (k : Int) < (n' : Int) := by omega
                      have r2 : (0 : Int) ≤ (k : Int) := by omega
                      clear hm
                      go_wp2
                      go_roundw
                      case rel => exact ⟨k + 1, by omega, by go_num, HS4.out.putMine k _⟩
                      case measure => simp [intOf]; omega
                    · obtain rfl : k = n' := by omega
                      clear hkl hk
                      generalize hW5 : wr = w5 at *
                      clear hW5
                      go_wp2
                      go_loopw [22] (fun vi wr => ∃ t : Nat, t ≤ k ∧ vi = .int .i64 t ∧ Hid (S3 w W wr M L M1 L1 M2 L2 k s ba bb true fed (nextF (ab s) fed lv fr) gm cm k (some ⟨G0, 0, none⟩) k cg wc.heap.size)) (fun vi _ => k - (intOf vi).toNat)
                      case atStart => exact ⟨0, by omega, rfl, HS4⟩
                      case round =>
                        clear HS4
                        obtain ⟨t, ht, rfl, HS4⟩ := hrel
                        by_cases htl : t < k
                        · obtain ⟨dg, hg⟩ := HS4.out.got
                          have c1 := hg.cell (i := t) (by rw [OR.len hg]; omega)
                          have f1 := hg.frz t
                          generalize dg[t]! = y0 at c1
                          have r1 : (t : Int) < (k : Int) := by omega
                          have r2 : (0 : Int) ≤ (t : Int) := by omega
                          clear hg
                          go_wp2
                          go_roundw
                          case rel => exact ⟨t + 1, by omega, by go_num, HS4.out.putGot t _⟩
                          case measure => simp [intOf]; omega
                        · obtain rfl : t = k := by omega
                          clear htl ht
                          generalize hW6 : wr = w6 at *
                          clear hW6
                          have k6 := cell_up HKW.out HS4.out.sm.up
                          obtain ⟨do2, lv2, mo, vo⟩ := HS4.out.sm.o
                          have H15 : Hid (Calls Try.prog 15 #[.pointer (some ⟨M2, 0, none⟩), .slice (some ⟨qb, qo, none⟩) t cq] w6 (FE w.heap.size w6 M2 L2 t 4607182418800017408 fed lv2 fr)) := feed15 mo vo (HRW.out.1.up HS4.out.sm.up) hN1 hN2 (by have := HRW.out.2; have := mo.lo; omega) (by have := HRW.out.2; have := mo.lt2.1; omega)
                          clear mo vo
                          obtain ⟨T, hT⟩ : ∃ T : Nat, min t 40 = T := ⟨_, rfl⟩
                          have hmin : (if (40 : Int) < (t : Int) then (40 : Int) else (t : Int)) = (T : Int) := by split <;> omega
                          have hT2 : (T : Int) ≤ 40 := by omega
                          clear hT
                          go_wp2_with (go_at_call 15; (with_reducible refine H15.out.mono ?_); rintro e w7 ⟨G7, c7, d7, ov7, rfl, HO7, HP7, HT7, HV7, HD7⟩)
                          have HSE : Hid (SM w w7 M L M1 L1 M2 L2 t s ba bb true true (nextF (ab s) fed lv fr)) := HS4.out.sm.fed3 HP7.out HT7.out
                          clear HO7 HP7 HT7 HV7 HD7 H15 k6 HS4
                          obtain ⟨da, ma, va⟩ := HSE.out.m
                          obtain ⟨db, mb, vb⟩ := HSE.out.p
                          have L17 : Hid (∀ z, Calls Try.prog 17 #[.pointer (some ⟨M, 0, none⟩), .int .i64 z] w7 (LR w7 (levB true t z) (levF true (nextF (ab s) fed lv fr) t z))) := fun z => lev17 ma va z
                          have L18 : Hid (∀ z, Calls Try.prog 18 #[.pointer (some ⟨M1, 0, none⟩), .int .i64 z] w7 (LR w7 (levB true t z) (levF true (nextF (ab s) fed lv fr) t z))) := fun z => lev18 mb vb z
                          clear ma va mb vb da db
                          go_loopw [23] (fun vi wr => ∃ z : Int, -1 ≤ z ∧ z ≤ (T : Int) + 1 ∧ vi = .int .i64 z ∧ wr = w7) (fun vi _ => ((T : Int) + 1 - intOf vi).toNat)
                          case atStart => exact ⟨-1, by omega, by omega, rfl, rfl⟩
                          case round =>
                            obtain ⟨z, z1, z2, rfl, hwz⟩ := hrel
                            subst wr
                            by_cases hz : z ≤ (T : Int)
                            · obtain ⟨lb, hlb⟩ : ∃ b, levB true t z = b := ⟨_, rfl⟩
                              have Qa := L17.out z
                              have Qb := L18.out z
                              rw [hlb] at Qa Qb
                              replace Qa : Hid (Calls Try.prog 17 #[.pointer (some ⟨M, 0, none⟩), .int .i64 z] w7 (LR w7 lb (levF true (nextF (ab s) fed lv fr) t z))) := Qa
                              replace Qb : Hid (Calls Try.prog 18 #[.pointer (some ⟨M1, 0, none⟩), .int .i64 z] w7 (LR w7 lb (levF true (nextF (ab s) fed lv fr) t z))) := Qb
                              have e1 : (lb != lb) = false := by simp
                              have e2 : (lb == lb) = true := by simp
                              clear hlb
                              go_wp2_with (first
                              | (go_at_call 17; (with_reducible refine Qa.out.mono ?_); rintro e w8 ⟨xa, rfl, HXA, hw8⟩; subst w8)
                              | (go_at_call 18; (with_reducible refine Qb.out.mono ?_); rintro e w8 ⟨xb, rfl, HXB, hw8⟩; subst w8)
                              | (go_at_call 19; (with_reducible refine (t19k (HXA.out.trans HXB.out.symm) _).mono ?_); rintro e w8 ⟨rfl, hw8⟩; subst w8))
                              go_roundw
                              case rel => exact ⟨z + 1, by omega, by omega, by go_num, trivial⟩
                              case measure => simp [intOf]; omega
                            · obtain rfl : z = (T : Int) + 1 := by omega
                              obtain ⟨lb, hlb⟩ : ∃ b, levB true t ((t : Int) - 1) = b := ⟨_, rfl⟩
                              have Qa := L17.out ((t : Int) - 1)
                              have Qb := L18.out ((t : Int) - 1)
                              rw [hlb] at Qa Qb
                              replace Qa : Hid (Calls Try.prog 17 #[.pointer (some ⟨M, 0, none⟩), .int .i64 ((t : Int) - 1)] w7 (LR w7 lb (levF true (nextF (ab s) fed lv fr) t ((t : Int) - 1)))) := Qa
                              replace Qb : Hid (Calls Try.prog 18 #[.pointer (some ⟨M1, 0, none⟩), .int .i64 ((t : Int) - 1)] w7 (LR w7 lb (levF true (nextF (ab s) fed lv fr) t ((t : Int) - 1)))) := Qb
                              have e1 : (lb != lb) = false := by simp
                              have e2 : (lb == lb) = true := by simp
                              clear hlb
                              go_wp2_with (first
                              | (go_at_call 17; (with_reducible refine Qa.out.mono ?_); rintro e w8 ⟨xa, rfl, HXA, hw8⟩; subst w8)
                              | (go_at_call 18; (with_reducible refine Qb.out.mono ?_); rintro e w8 ⟨xb, rfl, HXB, hw8⟩; subst w8)
                              | (go_at_call 19; (with_reducible refine (t19k (HXA.out.trans HXB.out.symm) _).mono ?_); rintro e w8 ⟨rfl, hw8⟩; subst w8))
                              go_roundw
                              case rel =>
                                exact ⟨j + 1, _, _, by omega, by go_num, HSE⟩
                              case measure => simp [intOf]; omega
                · have HVC : Hid (VF wc q n' fr) := HV.out.up HSC.out.up
                  obtain ⟨dp, mp, vp⟩ := HSC.out.p
                  obtain ⟨dm, mm, vm⟩ := HSC.out.m
                  have H14 : Hid (Calls Try.prog 14 #[.pointer (some ⟨M1, 0, none⟩), .slice q n' cq] wc fun e w' => e = .returned (.tuple #[.slice none 0 0, .int .i64 5]) ∧ w' = wc) := t14e mp hN
                  have H15 : Hid (Calls Try.prog 15 #[.pointer (some ⟨M, 0, none⟩), .slice (some ⟨gm, 0, none⟩) n' cm] wc fun e w' => e = .returned (.tuple #[.slice none 0 0, .int .i64 5]) ∧ w' = wc) := t15e mm hN
                  clear mp vp mm vm dp dm
                  go_upto_region 19 with (first
                    | (go_at_call 14; (with_reducible refine H14.out.mono ?_); rintro e wb ⟨rfl, hwb⟩; subst wb)
                    | (go_at_call 15; (with_reducible refine H15.out.mono ?_); rintro e wd ⟨rfl, hwd⟩; subst wd))
                  have K1 : Hid (∀ k, Calls Try.prog 16 #[.slice none 0 0, .slice none 0 0] (wc.drewN k) fun e w' => e = .returned (.bool true) ∧ ∃ m, w' = (wc.drewN k).drewN m) := fun k => t16 (fa := fun _ => 0) (fb := fun _ => 0) (fun hp => by omega) (fun hp => by omega) (fun i hi => rfl) (by omega)
                  have K2 : Hid (∀ k, Calls Try.prog 16 #[.slice (some ⟨gm, 0, none⟩) n' cm, .slice q n' cq] (wc.drewN k) fun e w' => e = .returned (.bool true) ∧ ∃ m, w' = (wc.drewN k).drewN m) := fun k => t16 (fa := fun i => (cutN fr n' ++ [4635118810238550016])[i]!) (fun hp => ⟨gm, 0, rfl, fun i hi => (FO.rf HMI.out i (by omega)).trans rfl |> fun h => cell_up h (Up.drewN _ _)⟩) (HVC.out.up (Up.drewN _ _)) (fun i hi => by rw [mine_at _ _ _ hi]) (by have := HNL.out; omega)
                  have x77 := HMI.out.cell (i := n') (by rw [OR.len HMI.out]; omega)
                  rw [mine_last] at x77
                  have HS3 : Hid (∀ k, S3 w W (wc.drewN k) M L M1 L1 M2 L2 N s ba bb fed fed lv gm cm n' none 0 0 wc.heap.size) := fun k => ⟨HSC.out.grow (Up.drewN _ _), ⟨_, OR.up HMI.out (Up.drewN _ _)⟩, ⟨[], OR.nil _ _ _ _⟩, HLW.out, HGM.out.2.1, Nat.le_trans HGM.out.1 (Nat.le_of_lt HGM.out.2.1)⟩
                  clear H14 H15 HSC HVC
                  go_quiet (first | (go_at_call 16; (with_reducible refine Calls.quiet_of (K1.out _))) | (go_at_call 16; (with_reducible refine Calls.quiet_of (K2.out _))))
                  have HS4 : Hid (S3 w W (wc.drewN nq) M L M1 L1 M2 L2 N s ba bb fed fed lv gm cm n' none 0 0 wc.heap.size) := HS3.out nq
                  clear HS3 K1 K2 x77 k1
                  generalize hw4 : wc.drewN nq = w4 at *
                  clear hw4 HMI
                  go_wp2
                  go_loopw [21] (fun vi wr => ∃ k : Nat, k ≤ n' ∧ vi = .int .i64 k ∧ Hid (S3 w W wr M L M1 L1 M2 L2 N s ba bb fed fed lv gm cm n' none 0 0 wc.heap.size)) (fun vi _ => n' - (intOf vi).toNat)
                  case atStart => exact ⟨0, by omega, rfl, HS4⟩
                  case round =>
                    clear HS4
                    obtain ⟨k, hk, rfl, HS4⟩ := hrel
                    by_cases hkl : k < n'
                    · obtain ⟨dm, hm⟩ := HS4.out.mine
                      have c1 := hm.cell (i := k) (by rw [OR.len hm]; omega)
                      have f1 := hm.frz k
                      generalize dm[k]! = y0 at c1
                      have r1 : (k : Int) < (n' : Int) := by omega
                      have r2 : (0 : Int) ≤ (k : Int) := by omega
                      clear hm
                      go_wp2
                      go_roundw
                      case rel => exact ⟨k + 1, by omega, by go_num, HS4.out.putMine k _⟩
                      case measure => simp [intOf]; omega
                    · obtain rfl : k = n' := by omega
                      clear hkl hk
                      generalize hW5 : wr = w5 at *
                      clear hW5
                      go_wp2
                      go_loopw [22] (fun vi wr => vi = .int .i64 0 ∧ wr = w5) (fun _ _ => 0)
                      case atStart => exact ⟨rfl, rfl⟩
                      case round =>
                        obtain ⟨rfl, hw6⟩ := hrel
                        subst wr
                        · generalize hW6 : w5 = w6 at *
                          clear hW6
                          have k6 := cell_up HKW.out HS4.out.sm.up
                          obtain ⟨do2, lv2, mo, vo⟩ := HS4.out.sm.o
                          have H15 : Hid (Calls Try.prog 15 #[.pointer (some ⟨M2, 0, none⟩), .slice q k cq] w6 fun e w' => e = .returned (.tuple #[.slice none 0 0, .int .i64 5]) ∧ w' = w6) := t15e mo hN
                          clear mo vo
                          obtain ⟨T, hT⟩ : ∃ T : Nat, min N 40 = T := ⟨_, rfl⟩
                          have hmin : (if (40 : Int) < (N : Int) then (40 : Int) else (N : Int)) = (T : Int) := by split <;> omega
                          have hT2 : (T : Int) ≤ 40 := by omega
                          clear hT
                          go_wp2_with (go_at_call 15; (with_reducible refine H15.out.mono ?_); rintro e w7 ⟨rfl, hw7⟩; subst w7)
                          have HSE : Hid (SM w w6 M L M1 L1 M2 L2 N s ba bb fed fed lv) := HS4.out.sm
                          clear H15 k6 HS4
                          obtain ⟨da, ma, va⟩ := HSE.out.m
                          obtain ⟨db, mb, vb⟩ := HSE.out.p
                          have L17 : Hid (∀ z, Calls Try.prog 17 #[.pointer (some ⟨M, 0, none⟩), .int .i64 z] w6 (LR w6 (levB fed N z) (levF fed lv N z))) := fun z => lev17 ma va z
                          have L18 : Hid (∀ z, Calls Try.prog 18 #[.pointer (some ⟨M1, 0, none⟩), .int .i64 z] w6 (LR w6 (levB fed N z) (levF fed lv N z))) := fun z => lev18 mb vb z
                          clear ma va mb vb da db
                          go_loopw [23] (fun vi wr => ∃ z : Int, -1 ≤ z ∧ z ≤ (T : Int) + 1 ∧ vi = .int .i64 z ∧ wr = w6) (fun vi _ => ((T : Int) + 1 - intOf vi).toNat)
                          case atStart => exact ⟨-1, by omega, by omega, rfl, rfl⟩
                          case round =>
                            obtain ⟨z, z1, z2, rfl, hwz⟩ := hrel
                            subst wr
                            by_cases hz : z ≤ (T : Int)
                            · obtain ⟨lb, hlb⟩ : ∃ b, levB fed N z = b := ⟨_, rfl⟩
                              have Qa := L17.out z
                              have Qb := L18.out z
                              rw [hlb] at Qa Qb
                              replace Qa : Hid (Calls Try.prog 17 #[.pointer (some ⟨M, 0, none⟩), .int .i64 z] w6 (LR w6 lb (levF fed lv N z))) := Qa
                              replace Qb : Hid (Calls Try.prog 18 #[.pointer (some ⟨M1, 0, none⟩), .int .i64 z] w6 (LR w6 lb (levF fed lv N z))) := Qb
                              have e1 : (lb != lb) = false := by simp
                              have e2 : (lb == lb) = true := by simp
                              clear hlb
                              go_wp2_with (first
                              | (go_at_call 17; (with_reducible refine Qa.out.mono ?_); rintro e w8 ⟨xa, rfl, HXA, hw8⟩; subst w8)
                              | (go_at_call 18; (with_reducible refine Qb.out.mono ?_); rintro e w8 ⟨xb, rfl, HXB, hw8⟩; subst w8)
                              | (go_at_call 19; (with_reducible refine (t19k (HXA.out.trans HXB.out.symm) _).mono ?_); rintro e w8 ⟨rfl, hw8⟩; subst w8))
                              go_roundw
                              case rel => exact ⟨z + 1, by omega, by omega, by go_num, trivial⟩
                              case measure => simp [intOf]; omega
                            · obtain rfl : z = (T : Int) + 1 := by omega
                              obtain ⟨lb, hlb⟩ : ∃ b, levB fed N ((N : Int) - 1) = b := ⟨_, rfl⟩
                              have Qa := L17.out ((N : Int) - 1)
                              have Qb := L18.out ((N : Int) - 1)
                              rw [hlb] at Qa Qb
                              replace Qa : Hid (Calls Try.prog 17 #[.pointer (some ⟨M, 0, none⟩), .int .i64 ((N : Int) - 1)] w6 (LR w6 lb (levF fed lv N ((N : Int) - 1)))) := Qa
                              replace Qb : Hid (Calls Try.prog 18 #[.pointer (some ⟨M1, 0, none⟩), .int .i64 ((N : Int) - 1)] w6 (LR w6 lb (levF fed lv N ((N : Int) - 1)))) := Qb
                              have e1 : (lb != lb) = false := by simp
                              have e2 : (lb == lb) = true := by simp
                              clear hlb
                              go_wp2_with (first
                              | (go_at_call 17; (with_reducible refine Qa.out.mono ?_); rintro e w8 ⟨xa, rfl, HXA, hw8⟩; subst w8)
                              | (go_at_call 18; (with_reducible refine Qb.out.mono ?_); rintro e w8 ⟨xb, rfl, HXB, hw8⟩; subst w8)
                              | (go_at_call 19; (with_reducible refine (t19k (HXA.out.trans HXB.out.symm) _).mono ?_); rintro e w8 ⟨rfl, hw8⟩; subst w8))
                              go_roundw
                              case rel =>
                                exact ⟨j + 1, _, _, by omega, by go_num, HSE⟩
                              case measure => simp [intOf]; omega
            · obtain rfl : j = i := by omega
              have v1 : ¬ (j : Int) < (j : Int) := by omega
              go_wp2_with (go_at_call 11; (with_reducible refine (t11 _).mono ?_); rintro e w5 ⟨rfl, U5⟩)
              go_ret
              exact ⟨rfl, HS.out.up.trans U5.out⟩
        · obtain ⟨ec, hec⟩ : ∃ ec, newE g (ab s) = ec := ⟨_, rfl⟩
          have HE : Hid (newE g (ab s) = ec ∧ ec ≠ 0) := ⟨hec, by rw [← hec]; exact he⟩
          have H3 : Hid (∀ W, Calls Try.prog 12 #[.int .i64 g, .float .f64 4607182418800017408] W fun e w' => ∃ q k, e = .returned (.tuple #[.pointer q, .int .i64 k]) ∧ Hid (Up W w')) := fun W => by
            by_cases h1 : newE g (ab 4607182418800017408) = 0
            · have hg : 1 ≤ g ∧ g ≤ 16384 := new_range h1
              obtain ⟨G, rfl⟩ : ∃ G : Nat, g = G := ⟨g.toNat, by omega⟩
              exact (t12 G _ W (by omega) (by omega) share_one).mono fun e w' ⟨M, L, h1, h2, h3⟩ => ⟨_, _, h1, h3⟩
            · exact (t12e W rfl h1).mono fun e w' ⟨h1, h2⟩ => ⟨_, _, h1, by rw [h2]; exact Up.refl _⟩
          clear he hec
          go_wp2_with (first
            | (go_at_call 12; (fail_if_success have := HM1); (with_reducible refine (t12e _ HE.out.1 HE.out.2).mono ?_); rintro e w1 ⟨rfl, hw1⟩; subst w1; have HM1 := HE)
            | (go_at_call 13; (with_reducible refine (t13e _ HE.out.1 HE.out.2).mono ?_); rintro e w1 ⟨rfl, hw1⟩; subst w1)
            | (go_at_call 12; (with_reducible refine (H3.out _).mono ?_); rintro e w3 ⟨q3, k3, rfl, U3⟩))
          go_loopw [15] (fun vi wr => vi = .int .i64 0 ∧ wr = w3) (fun _ _ => 0)
          case atStart => exact ⟨rfl, rfl⟩
          case round =>
            obtain ⟨rfl, hw⟩ := hrel
            subst wr
            rcases Nat.eq_zero_or_pos i with h0 | h0
            · have e0 : (i : Int) = 0 := by omega
              go_wp2_with (go_at_call 11; (with_reducible refine (t11 _).mono ?_); rintro e w5 ⟨rfl, U5⟩)
              go_ret
              exact ⟨rfl, U3.out.trans U5.out⟩
            · have e0 : (0 : Int) < (i : Int) := by omega
              go_wp2_with (go_at_call 11; (with_reducible refine (t11 _).mono ?_); rintro e w5 ⟨rfl, U5⟩)
              go_ret
              exact ⟨rfl, U3.out.trans U5.out⟩
      · by_cases hx2 : x ≤ 65536
        · have y1 : ¬ (65536 : Int) < (x : Int) := by omega
          have y2 : (512 : Int) < (n : Int) := by omega
          have y3 : (x : Int) ≤ 65536 := by omega
          by_cases q1 : i < n
          · have y4 : (i : Int) < (n : Int) := by omega
            have y5 : ¬ (i : Int) ≤ 512 := by omega
            go_wp2_with (go_at_call 11; (with_reducible refine (t11 _).mono ?_); rintro e w5 ⟨rfl, U5⟩)
            go_ret
            exact ⟨rfl, U5⟩
          · have y4 : ¬ (i : Int) < (n : Int) := by omega
            go_wp2_with (go_at_call 11; (with_reducible refine (t11 _).mono ?_); rintro e w5 ⟨rfl, U5⟩)
            go_ret
            exact ⟨rfl, U5⟩
        · have y1 : (65536 : Int) < (x : Int) := by omega
          have y3 : ¬ (x : Int) ≤ 65536 := by omega
          by_cases q1 : i < n
          · have y4 : (i : Int) < (n : Int) := by omega
            by_cases q2 : i ≤ 512
            · have y5 : (i : Int) ≤ 512 := by omega
              go_wp2_with (go_at_call 11; (with_reducible refine (t11 _).mono ?_); rintro e w5 ⟨rfl, U5⟩)
              go_ret
              exact ⟨rfl, U5⟩
            · have y5 : ¬ (i : Int) ≤ 512 := by omega
              go_wp2_with (go_at_call 11; (with_reducible refine (t11 _).mono ?_); rintro e w5 ⟨rfl, U5⟩)
              go_ret
              exact ⟨rfl, U5⟩
          · have y4 : ¬ (i : Int) < (n : Int) := by omega
            go_wp2_with (go_at_call 11; (with_reducible refine (t11 _).mono ?_); rintro e w5 ⟨rfl, U5⟩)
            go_ret
            exact ⟨rfl, U5⟩
end Go.Proofs.Ytgalgnopjcpocaa
