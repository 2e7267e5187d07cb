/- The document's Resolve. -/
import Derived.Test.YtijfmaepoamkgaaRe
import Derived.Test.YtijfmaepoamkgaaJn
import Derived.Test.YtijfmaepoamkgaaLb
namespace Go.Proofs.Ytijfmaepoamkgaa
open Go.ChangeShapes Go.WideShapes Go.ChangeAt Go.RowKit Go.Fl Go.Sort
attribute [local go_sem] run_store_float call53 run_neg fold_eq fold_ne fold_lt fold_gt abs_eq

theorem anyB_take {off E : Int} {C : List Int} {x : Int} {k : Nat} (hk : k < C.length) : anyB off E (C.take (k + 1)) x = (anyB off E (C.take k) x || decide (far x C[k]! E ≤ off)) := by
  rw [List.take_add_one, show C[k]? = some C[k]! by simp [hk]]
  exact anyB_snoc
theorem anyB_more {off E : Int} {C : List Int} {x : Int} {k : Nat} (h : anyB off E (C.take k) x = true) : anyB off E C x = true := by
  unfold anyB at *
  rw [List.any_eq_true] at *
  obtain ⟨c, h1, h2⟩ := h
  exact ⟨c, List.mem_of_mem_take h1, h2⟩
theorem allB_less {off : Int} {E : Nat → Int} {C : Nat → List Int} {x : Int} {i n : Nat} (hi : i ≤ n) (h : allB off E C x i = false) : allB off E C x n = false := by
  cases e : allB off E C x n
  · rfl
  · rw [allB_iff.2 fun j hj => allB_iff.1 e j (by omega)] at h
    cases h
theorem allB_next {off : Int} {E : Nat → Int} {C : Nat → List Int} {x : Int} {i : Nat} (h : allB off E C x i = true) : allB off E C x (i + 1) = anyB off (E i) (C i) x := by
  show (allB off E C x i && _) = _
  rw [h, Bool.true_and]
/-- The document's answer from what is refused. -/
theorem resC_of {code E : Nat → Int} {C : Nat → List Int} {n : Nat} {off most z : Int} (h : refC code (fun i => (C i).length) n off most = z) (hz : z ≠ 0) : resC code E C n off most = z := by
  unfold resC
  rw [if_pos (by rw [h]; exact hz), h]
set_option maxRecDepth 20000 in
set_option maxHeartbeats 4000000 in
theorem t14 {w : World} {p q : Option Addr} {n1 n2 c1 c2 : Nat} {B : Nat → Bt} {C : Nat → List Int} {off most : Int} (hB : BV w p n1 B) (hC : CV w q n2 C) (hn : min n1 n2 < 4611686018427387904) :
    Calls Try.prog 14 #[.slice p n1 c1, .slice q n2 c2, .int .i64 off, .int .i64 most] w (ResR w (resC (fun i => (B i).code) (fun i => (B i).E) C (min n1 n2) off most) (resL off (fun i => (B i).E) C (min n1 n2) most.toNat)) := by
  obtain ⟨n, hnn⟩ : ∃ n, min n1 n2 = n := ⟨_, rfl⟩
  have HB : Hid (BV w p n B) := hB.less (by omega)
  have HC : Hid (CV w q n C) := hC.less (by omega)
  have hmin : min (n1 : Int) (n2 : Int) = (n : Int) := by omega
  have hn' : n < 4611686018427387904 := by omega
  have m1 : (n : Int) ≤ (n1 : Int) := by omega
  have m2 : (n : Int) ≤ (n2 : Int) := by omega
  rw [hnn]
  generalize hA : resC (fun i => (B i).code) (fun i => (B i).E) C n off most = A
  have HA : Hid (A = resC (fun i => (B i).code) (fun i => (B i).E) C n off most) := hA.symm
  generalize hL : resL off (fun i => (B i).E) C n most.toNat = L
  have HL : Hid (L = resL off (fun i => (B i).E) C n most.toNat) := hL.symm
  clear hA hL hB hC hnn hn
  by_cases h8 : 8 < n
  · have HN : Hid (A = 3) := by
      show _ = _
      rw [HA.out]
      refine resC_of ?_ (by decide)
      unfold refC
      rw [if_pos h8]
    have h8' : (8 : Int) < n := by omega
    clear HA HL
    go_enter Try.func14, Try.ntmps14
    go_wp2
    go_ret2
    exact ⟨Up.refl _, Or.inl ⟨by rw [HN.out]; decide, by rw [HN.out]; rfl⟩⟩
  · have h8' : (n : Int) ≤ 8 := by omega
    have H8 : Hid (¬ 8 < n) := h8
    clear h8 hn'
    go_enter Try.func14, Try.ntmps14
    go_wp2
    go_loopw [11] (fun vi wr => ∃ i : Nat, i ≤ n ∧ vi = .int .i64 i ∧ w = wr ∧ Hid (longB (fun i => (C i).length) i = false)) (fun vi _ => n - (intOf vi).toNat)
    case atStart => exact ⟨0, by omega, rfl, rfl, rfl⟩
    case round =>
      obtain ⟨i, hi, rfl, hw, HI⟩ := hrel
      subst hw
      by_cases hlt : i < n
      · obtain ⟨b, o, q', cap, rfl, c0, -⟩ := HC.out i hlt
        have hl2 : (i : Int) < (n2 : Int) := by omega
        by_cases hl : 256 < (C i).length
        · have hl' : (256 : Int) < (C i).length := by omega
          have HN : Hid (A = 3) := by
            show _ = _
            rw [HA.out]
            refine resC_of ?_ (by decide)
            unfold refC
            rw [if_neg H8.out, if_pos (longB_at (L := fun i => (C i).length) hl n hlt)]
          clear HA HL HI
          go_wp2
          go_ret2
          exact ⟨Up.refl _, Or.inl ⟨by rw [HN.out]; decide, by rw [HN.out]; rfl⟩⟩
        · have hl' : ((C i).length : Int) ≤ 256 := by omega
          have HN : Hid (longB (fun i => (C i).length) (i + 1) = false) := longB_next HI.out (by omega)
          clear HI hl
          go_wp2
          go_roundw
          case rel => exact ⟨i + 1, by omega, by go_num, by first | rfl | trivial, HN⟩
          case measure => simp [intOf]; omega
      · obtain rfl : i = n := by omega
        have HLo : Hid (longB (fun i => (C i).length) i = false) := HI.out
        clear HI hlt
        go_wp2
        go_loopw [12] (fun vi wr => ∃ j : Nat, j ≤ i ∧ vi = .int .i64 j ∧ Hid (Up w wr ∧ firstE (fun i => (B i).code) j = 0)) (fun vi _ => i - (intOf vi).toNat)
        case atStart => exact ⟨0, by omega, rfl, Up.refl _, rfl⟩
        case round =>
          obtain ⟨j, hj, rfl, HJ⟩ := hrel
          rename World => wr
          by_cases hlt : j < i
          · obtain ⟨b, o, rfl, ⟨d0, d1, d2, d3, d4⟩⟩ := (HB.out.up HJ.out.1) j hlt
            have hl1 : (j : Int) < (n1 : Int) := by omega
            have CK : Hid (∀ w, Calls Try.prog 29 #[.agg #[.float .f64 (B j).c, .float .f64 (B j).v, .float .f64 (B j).r, .int .i64 (B j).E, .int .i64 (B j).R]] w (Gt.IU w (B j).code)) := fun w => Gt.t29 _ _ _ _ _ w
            generalize hcd : (B j).code = cd at *
            by_cases hc : cd = 0
            · subst hc
              have HN : Hid (firstE (fun i => (B i).code) (j + 1) = 0) := firstE_next HJ.out.2 hcd
              clear HA HL
              go_wp2_with (go_at_call 29; (with_reducible refine (CK.out _).mono ?_); rintro e w' ⟨rfl, HU⟩)
              go_roundw
              case rel => exact ⟨j + 1, by omega, by go_num, HJ.out.1.trans HU.out, HN.out⟩
              case measure => simp [intOf]; omega
            · have hcb : (cd != 0) = true := by simp [hc]
              have HN : Hid (A = cd) := by
                show _ = _
                rw [HA.out]
                refine resC_of ?_ hc
                have e3 : firstE (fun i => (B i).code) i = cd := by
                  rw [← hcd]
                  exact firstE_at (c := fun i => (B i).code) HJ.out.2 (by rw [hcd]; exact hc) i hlt
                unfold refC
                rw [if_neg H8.out, if_neg (by rw [HLo.out]; simp), if_pos (by rw [e3]; exact hc), e3]
              have Hc : Hid (cd ≠ 0) := hc
              clear hc HA HL
              go_wp2_with (go_at_call 29; (with_reducible refine (CK.out _).mono ?_); rintro e w' ⟨rfl, HU⟩)
              go_ret2
              exact ⟨HJ.out.1.trans HU.out, Or.inl ⟨by rw [HN.out]; exact Hc.out, by rw [HN.out]; rfl⟩⟩
          · obtain rfl : j = i := by omega
            have HF : Hid (∀ i, i < j → (B i).code = 0) := firstE_all (c := fun i => (B i).code) HJ.out.2
            have HRC : Hid (refC (fun i => (B i).code) (fun i => (C i).length) j off most = if off < 0 ∨ most < 0 then 2 else if 1048576 < most then 3 else 0) := by
              show _ = _
              unfold refC
              rw [if_neg H8.out, if_neg (by rw [HLo.out]; simp), if_neg (by rw [HJ.out.2]; simp)]
            clear hlt
            by_cases ho : off < 0
            · have HN2 : Hid (A = 2) := by
                show _ = _
                rw [HA.out]
                refine resC_of ?_ (by decide)
                rw [HRC.out, if_pos (Or.inl ho)]
              clear HA HL HRC
              go_wp2
              go_ret2
              exact ⟨HJ.out.1, Or.inl ⟨by rw [HN2.out]; decide, by rw [HN2.out]; rfl⟩⟩
            · by_cases hm : most < 0
              · have HN2 : Hid (A = 2) := by
                  show _ = _
                  rw [HA.out]
                  refine resC_of ?_ (by decide)
                  rw [HRC.out, if_pos (Or.inr hm)]
                clear HA HL HRC
                go_wp2
                go_ret2
                exact ⟨HJ.out.1, Or.inl ⟨by rw [HN2.out]; decide, by rw [HN2.out]; rfl⟩⟩
              · by_cases hg : 1048576 < most
                · have HN2 : Hid (A = 3) := by
                    show _ = _
                    rw [HA.out]
                    refine resC_of ?_ (by decide)
                    rw [HRC.out, if_neg (by omega), if_pos hg]
                  clear HA HL HRC
                  go_wp2
                  go_ret2
                  exact ⟨HJ.out.1, Or.inl ⟨by rw [HN2.out]; decide, by rw [HN2.out]; rfl⟩⟩
                · have HA2 : Hid (A = if 65536 < L.length then 3 else 0) := by
                    show _ = _
                    rw [HA.out, HL.out]
                    unfold resC
                    have e0 : (if off < 0 ∨ most < 0 then (2 : Int) else if 1048576 < most then 3 else 0) = 0 := by rw [if_neg (by omega), if_neg hg]
                    rw [HRC.out, e0, if_neg (by simp)]
                  clear HA HRC
                  go_wp2
                  obtain ⟨M, hM⟩ : ∃ M : Nat, most = M := ⟨most.toNat, by omega⟩
                  have HML : Hid (L = resL off (fun j => (B j).E) C j M) := by
                    show _ = _
                    rw [HL.out, hM]
                    simp
                  subst hM
                  have hM6 : (M : Int) ≤ 1048576 := by omega
                  obtain ⟨i0, hi0, hz0, hz1, hz2⟩ := info_parts Fo.info2
                  have HT : Hid (TI wr wr (.slice none 0 0) (resL off (fun i => (B i).E) C j 0)) := ⟨Fo.OI.nil _ _, Up.refl _⟩
                  have HU0 : Hid (Up w wr) := HJ.out.1
                  have HLn : Hid (∀ i, i < j → (C i).length ≤ 256) := longB_false HLo.out
                  clear HL HJ HLo H8 hg
                  go_loopw [14, 15] (fun v14 v15 wx => ∃ (x : Nat) (pv : Option Addr) (cv : Nat), x ≤ M ∧ v15 = .int .i64 x ∧ v14 = .slice pv (resL off (fun j => (B j).E) C j x).length cv ∧ Hid (TI wr wx (.slice pv (resL off (fun j => (B j).E) C j x).length cv) (resL off (fun j => (B j).E) C j x) ∧ (resL off (fun j => (B j).E) C j x).length ≤ 65536)) (fun _ v15 _ => M - (intOf v15).toNat)
                  case atStart => exact ⟨0, none, 0, by omega, rfl, rfl, HT.out, by simp [resL, nearL_zero]⟩
                  case round =>
                    clear HT
                    obtain ⟨x, pv, cv, hx, rfl, rfl, HX⟩ := hrel
                    rename World => wx
                    by_cases hlx : x < M
                    · have hlx' : (x : Int) < (M : Int) := by omega
                      have HY : Hid (allB off (fun j => (B j).E) C x j = true → resL off (fun j => (B j).E) C j (x + 1) = resL off (fun j => (B j).E) C j x ++ [(x : Int)]) := fun h => resL_yes h
                      have HNo : Hid (allB off (fun j => (B j).E) C x j = false → resL off (fun j => (B j).E) C j (x + 1) = resL off (fun j => (B j).E) C j x) := fun h => resL_no h
                      have HMo : Hid ((resL off (fun j => (B j).E) C j (x + 1)).length ≤ L.length) := by
                        show _ ≤ _
                        rw [HML.out]
                        have := resL_mono off (fun j => (B j).E) C j (a := x + 1) (M - (x + 1))
                        rwa [show x + 1 + (M - (x + 1)) = M by omega] at this
                      generalize hN1 : resL off (fun j => (B j).E) C j (x + 1) = N1 at HY HNo HMo
                      have HN1 : Hid (resL off (fun j => (B j).E) C j (x + 1) = N1) := hN1
                      clear hN1
                      generalize resL off (fun j => (B j).E) C j x = N0 at *
                      have hx6 : (x : Int) ≤ 1048576 := by omega
                      go_wp2
                      go_loopw [16, 17] (fun v16 v17 wy => ∃ (i : Nat) (bb : Bool), i ≤ j ∧ v17 = .int .i64 i ∧ v16 = .bool bb ∧ Hid (Up wx wy ∧ allB off (fun j => (B j).E) C x i = bb)) (fun _ v17 _ => j - (intOf v17).toNat)
                      case atStart => exact ⟨0, true, by omega, rfl, rfl, Up.refl _, rfl⟩
                      case round =>
                        obtain ⟨i, bb, hi, rfl, rfl, HI⟩ := hrel
                        rename World => wy
                        have HUy : Hid (Up w wy) := HU0.out.trans (HX.out.1.up.trans HI.out.1)
                        by_cases hgo : i < j ∧ bb = true
                        · obtain ⟨hij, rfl⟩ := hgo
                          obtain ⟨pb, po, rfl, ⟨d0, d1, d2, d3, d4⟩⟩ := (HB.out.up HUy.out) i hij
                          obtain ⟨qb, qo, qq, qc, rfl, s0, sir⟩ := (HC.out.up HUy.out) i hij
                          have HSI : Hid (Fo.IR wy qq (C i).length (fun j => (C i)[j]!)) := sir
                          have q1 := (Gt.check0 (HF.out i hij)).e1
                          have q2 := (Gt.check0 (HF.out i hij)).e2
                          have g1 : (i : Int) < (n1 : Int) := by omega
                          have g2 : (i : Int) < (n2 : Int) := by omega
                          have gl : (C i).length ≤ 256 := HLn.out i hij
                          have HNx : Hid (allB off (fun j => (B j).E) C x (i + 1) = anyB off (B i).E (C i) x) := allB_next HI.out.2
                          clear sir d0 d1 d2 d4
                          go_wp2
                          go_loopw [18, 19] (fun v18 v19 wz => ∃ (k : Nat) (cc : Bool), k ≤ (C i).length ∧ v19 = .int .i64 k ∧ v18 = .bool cc ∧ Hid (Up wy wz ∧ anyB off (B i).E ((C i).take k) x = cc)) (fun _ v19 _ => (C i).length - (intOf v19).toNat)
                          case atStart => exact ⟨0, false, by omega, rfl, rfl, Up.refl _, rfl⟩
                          case round =>
                            obtain ⟨k, cc, hk, rfl, rfl, HK⟩ := hrel
                            rename World => wz
                            have d3' := cell_up d3 HK.out.1
                            have s0' := cell_up s0 HK.out.1
                            clear d3 s0
                            by_cases hgo2 : k < (C i).length ∧ cc = false
                            · obtain ⟨hkl, rfl⟩ := hgo2
                              obtain ⟨rb, ro, rfl, e0⟩ := (ir_up HSI.out HK.out.1) k hkl
                              simp only [] at e0
                              have hkl' : (k : Int) < ((C i).length : Int) := by omega
                              obtain ⟨fz, hfz⟩ : ∃ fz, far x ((C i)[k]!) (B i).E = fz := ⟨_, rfl⟩
                              have HK2 : Hid (anyB off (B i).E ((C i).take (k + 1)) x = decide (fz ≤ off)) := by
                                show _ = _
                                rw [anyB_take hkl, HK.out.2, hfz, Bool.false_or]
                              generalize (C i)[k]! = ck at *
                              generalize (B i).E = Ei at *
                              go_wp2_with fail
                              go_quiet (first | (go_at_call 33; (with_reducible refine Calls.quiet_of (Fo.t33q (x := x) (r := ck) (m := Ei) (v := fz) (by omega) (by omega) hfz _))))
                              all_goals (try go_wp2)
                              go_roundw
                              case rel => exact ⟨k + 1, _, by omega, by go_num, rfl, HK.out.1.trans (Up.drewN _ _), HK2.out⟩
                              case measure => simp [intOf]; omega
                            · have HK2 : Hid (anyB off (B i).E (C i) x = cc) := by
                                show _ = _
                                cases cc
                                · have hk2 : k = (C i).length := by
                                    by_cases e : k < (C i).length
                                    · exact absurd ⟨e, rfl⟩ hgo2
                                    · omega
                                  have := HK.out.2
                                  rwa [hk2, List.take_length] at this
                                · exact anyB_more HK.out.2
                              by_cases hkl : k < (C i).length
                              · have hcc : cc = true := by cases cc <;> simp_all
                                subst hcc
                                have hkl' : (k : Int) < ((C i).length : Int) := by omega
                                clear hgo2
                                go_wp2
                                go_roundw
                                case rel => exact ⟨i + 1, _, by omega, by go_num, rfl, HI.out.1.trans HK.out.1, by rw [HNx.out, HK2.out]⟩
                                case measure => simp [intOf]; omega
                              · have hkl' : ¬ (k : Int) < ((C i).length : Int) := by omega
                                clear hgo2
                                go_wp2
                                go_roundw
                                case rel => exact ⟨i + 1, _, by omega, by go_num, rfl, HI.out.1.trans HK.out.1, by rw [HNx.out, HK2.out]⟩
                                case measure => simp [intOf]; omega
                        · have HAl : Hid (allB off (fun j => (B j).E) C x j = bb) := by
                            show _ = _
                            cases bb
                            · exact allB_less hi HI.out.2
                            · have hi2 : i = j := by
                                by_cases e : i < j
                                · exact absurd ⟨e, rfl⟩ hgo
                                · omega
                              have := HI.out.2
                              rwa [hi2] at this
                          have HTI : Hid (TI wr wy (.slice pv N0.length cv) N0 ∧ N0.length ≤ 65536) := ⟨⟨Fo.OI.up HX.out.1.row HI.out.1, HX.out.1.up.trans HI.out.1⟩, HX.out.2⟩
                          have hsz : wr.heap.size ≤ wy.heap.size := HTI.out.1.up.size
                          by_cases hij : i < j
                          · have hbb : bb = false := by cases bb <;> simp_all
                            subst hbb
                            have hij' : (i : Int) < (j : Int) := by omega
                            have HN : Hid (N1 = N0) := HNo.out HAl.out
                            clear hgo
                            go_wp2
                            go_roundw
                            case rel => exact ⟨x + 1, pv, cv, by omega, by go_num, by rw [HN1.out, HN.out], by rw [HN1.out, HN.out]; exact HTI⟩
                            case measure => simp [intOf]; omega
                          · have hij' : ¬ (i : Int) < (j : Int) := by omega
                            clear hgo
                            cases bb
                            · have HN : Hid (N1 = N0) := HNo.out HAl.out
                              go_wp2
                              go_roundw
                              case rel => exact ⟨x + 1, pv, cv, by omega, by go_num, by rw [HN1.out, HN.out], by rw [HN1.out, HN.out]; exact HTI⟩
                              case measure => simp [intOf]; omega
                            · have HN : Hid (N1 = N0 ++ [(x : Int)]) := HY.out HAl.out
                              by_cases hfl : N0.length = 65536
                              · have hfb : ((N0.length : Int) == 65536) = true := by simp [hfl]
                                have HA3 : Hid (A = 3) := by
                                  show A = 3
                                  have h1 := HMo.out
                                  rw [HN.out] at h1
                                  simp at h1
                                  rw [HA2.out, if_pos (by omega)]
                                clear hfl
                                go_wp2
                                go_ret2
                                exact ⟨HU0.out.trans HTI.out.1.up, Or.inl ⟨by rw [HA3.out]; decide, by rw [HA3.out]; rfl⟩⟩
                              · have hfb : ((N0.length : Int) == 65536) = false := by simp; omega
                                have hl0 : N0.length ≤ 65536 := HTI.out.2
                                have hl1 : N0.length < 65536 := by omega
                                have HOw : Hid (wy.ownsRow wr.heap.size 2 1 (.slice pv N0.length cv) N0.length (N0.map (Value.int .i64))) := HTI.out.1.row
                                clear hfl
                                go_wp2_with (at_builtin; refine wpList_append_own _ rfl _ _ 39 rfl wr.heap.size 2 i0 (.int .i64 0) 1 8 Try.underlying39 hi0 hz0 hz1 hz2 rfl (by decide) _ _ _ rfl (HOw.out.alloc _) ⟨wy.heap.size, 0, none⟩ 1 1 [.int .i64 x] rfl rfl (Fo.one_new _ _ _) (Fo.one_one _) (by unfold maxLen; omega) (by omega) (by simp; omega) ?_; intro v8 w8 hown8 hgrow8 hnil8; (obtain ⟨p8, c8, hv8, -⟩ := own_form hown8); subst hv8; (have HT8 : Hid (TI wr w8 (.slice p8 (N0.length + 1) c8) (N0 ++ [(x : Int)])) := (fun h => ⟨h.1, h.2⟩) (Fo.app_own HTI.out.1.row HTI.out.1.up hown8 hgrow8)); clear hown8 hgrow8 hnil8)
                                go_roundw
                                case rel => exact ⟨x + 1, p8, c8, by omega, by go_num, by rw [HN1.out, HN.out]; simp, by
                                  rw [HN1.out, HN.out]
                                  refine ⟨?_, by simp; omega⟩
                                  have := HT8.out
                                  simpa using this⟩
                                case measure => simp [intOf]; omega
                    · obtain rfl : x = M := by omega
                      have hlm : ¬ (x : Int) < (x : Int) := by omega
                      have HA3 : Hid (A = 0) := by
                        show A = 0
                        have h1 := HX.out.2
                        rw [← HML.out] at h1
                        rw [HA2.out, if_neg (by omega)]
                      have HX2 : Hid (TI wr wx (.slice pv L.length cv) L) := by
                        have := HX.out.1
                        rw [← HML.out] at this
                        exact this
                      have hLL : (resL off (fun j => (B j).E) C j x).length = L.length := by rw [HML.out]
                      rw [hLL]
                      clear HX hLL
                      go_wp2
                      go_ret2
                      refine ⟨HU0.out.trans HX2.out.up, Or.inr ⟨HA3.out, pv, cv, rfl, Fo.OI.base HX2.out.row HU0.out.size⟩⟩
end Go.Proofs.Ytijfmaepoamkgaa
