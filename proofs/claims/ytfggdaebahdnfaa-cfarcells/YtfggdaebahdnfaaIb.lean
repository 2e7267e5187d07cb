/- The level of a place, the document's. -/
import Derived.Test.YtfggdaebahdnfaaIa
namespace Go.Proofs.Ytfggdaebahdnfaa
open Go.ChangeShapes Go.WideShapes Go.ChangeAt Go.RowKit Go.Fl Go.Sort
attribute [local go_sem] run_store_float run_store_func call35 call46 run_neg fold_eq fold_ne fold_lt fold_gt abs_eq

theorem take_one (d : Array Nat) (P : List Nat) {i : Nat} (hi : i < d.size) : P ++ d.toList.take i ++ [d[i]!] = P ++ d.toList.take (i + 1) := by
  rw [List.append_assoc, List.take_add_one, Array.getElem?_toList, Array.getElem?_eq_getElem hi, getElem!_pos d i hi]
  rfl
/-- What the document makes of the cells: the rest of its level. -/
theorem lev_nil {way : Int} {nth : Nat} {L R : Array Nat} (h : L.size + R.size = 0) : levD way nth L R = ab 9218868437227405312 := by unfold levD; rw [if_pos h, inf_ab]
theorem lev_ord {nth : Nat} {L R : Array Nat} (h : 0 < L.size + R.size) : levD 3 nth L R = nthD (L ++ R) (min nth (L.size + R.size - 1)) := by unfold levD; rw [if_neg (by omega), if_pos rfl]
theorem lev_all {way : Int} {nth : Nat} {L R : Array Nat} (h : 0 < L.size + R.size) (h1 : way ≠ 1) (h2 : way ≠ 2) (h3 : way ≠ 3) : levD way nth L R = meanD (L ++ R) := by unfold levD; rw [if_neg (by omega), if_neg h3, if_neg (by omega)]
theorem lev_one' {way : Int} {nth : Nat} {L R : Array Nat} (h : 0 < L.size + R.size) (h1 : way = 1 ∨ way = 2) : levD way nth L R = oneD way L R := by unfold levD; rw [if_neg (by omega), if_neg (by omega), if_pos h1]
set_option maxRecDepth 20000 in
set_option maxHeartbeats 4000000 in
theorem t34 {w : World} {p : Option Addr} {n cap k G T M : Nat} {d : Array Nat} {way : Int} (w1 : -128 ≤ way) (w2 : way ≤ 127) (h : SV w p n cap d) (hn : n ≤ 16384) (hk : k < n) (hG : G ≤ 16384) (hT : T ≤ 16384) :
    Calls Try.prog 34 #[.slice p n cap, .int .i64 k, .int .i8 way, .int .i64 G, .int .i64 T, .int .i64 M] w (FU w (lvD way G T M d k)) := by
  obtain ⟨i0, hi0, hz0, hz1, hz2⟩ := info_parts info23
  have H : Hid (SV w p n cap d) := h
  obtain ⟨L, hL⟩ : ∃ L, lef d k G T = L := ⟨_, rfl⟩
  obtain ⟨R, hR⟩ : ∃ R, rig d k G T = R := ⟨_, rfl⟩
  have CL : Hid (∀ W, Up w W → Calls Try.prog 51 #[.slice p n cap, .int .i64 ((k : Int) - G - T), .int .i64 ((k : Int) - G - 1)] W (RV W L.size L)) := fun W hu => by
    have := t51 (A := k - G - T) (B := k - G) ((k : Int) - G - T) ((k : Int) - G - 1) (by omega) (by omega) (h.up hu) hn (by omega) (by omega) (by omega) (by omega)
    have e : L.size = min (k - G) n - (k - G - T) := by rw [← hL]; unfold lef; rw [← Array.length_toList, ext_len, h.len]
    rw [e, ← hL]; exact this
  have CR : Hid (∀ W, Up w W → Calls Try.prog 51 #[.slice p n cap, .int .i64 ((k : Int) + G + 1), .int .i64 ((k : Int) + G + T)] W (RV W R.size R)) := fun W hu => by
    have := t51 (A := k + G + 1) (B := k + G + 1 + T) ((k : Int) + G + 1) ((k : Int) + G + T) (by omega) (by omega) (h.up hu) hn (by omega) (by omega) (by omega) (by omega)
    have e : R.size = min (k + G + 1 + T) n - (k + G + 1) := by rw [← hR]; unfold rig; rw [← Array.length_toList, ext_len, h.len]
    rw [e, ← hR]; exact this
  have zl : L.size ≤ 16384 := by rw [← hL]; unfold lef; rw [← Array.length_toList, ext_len, h.len]; omega
  have zr : R.size ≤ 16384 := by rw [← hR]; unfold rig; rw [← Array.length_toList, ext_len, h.len]; omega
  have eV : lvD way G T M d k = levD way M L R := by unfold lvD; rw [hL, hR]
  rw [eV]
  clear h hL hR eV
  obtain ⟨n1, hn1⟩ : ∃ n1, L.size = n1 := ⟨_, rfl⟩
  obtain ⟨n2, hn2⟩ : ∃ n2, R.size = n2 := ⟨_, rfl⟩
  rw [hn1] at CL zl
  rw [hn2] at CR zr
  have HN : Hid (L.size = n1 ∧ R.size = n2) := ⟨hn1, hn2⟩
  have W1 : Hid (-128 ≤ way ∧ way ≤ 127) := ⟨w1, w2⟩
  clear hn1 hn2 w1 w2
  go_enter Try.func34, Try.ntmps34
  go_wp2_with (first
    | (go_at_call 51; (with_reducible refine (CL.out _ (Up.refl _)).mono ?_); rintro e w1 ⟨p1, c1, rfl, S1, HU1⟩)
    | (go_at_call 51; (with_reducible refine (CR.out _ HU1.out).mono ?_); rintro e w2 ⟨p2, c2, rfl, S2, HU2⟩))
  have SL : Hid (SV w2 p1 n1 c1 L) := S1.out.up HU2.out
  have UW : Hid (Up w w2) := HU1.out.trans HU2.out
  clear S1 HU1 HU2 CL CR
  go_loopw [15, 16] (fun v vi wr => ∃ (i m c : Nat) (p : Option Addr) (O : List Nat), v = .slice p m c ∧ vi = .int .i64 i ∧ i ≤ n1 ∧ Hid (m = i) ∧ Hid (O = [] ++ L.toList.take i) ∧ Hid (wr.ownsRow w2.heap.size 24 1 (.slice p m c) m (O.map fe)) ∧ Hid (Up w2 wr)) (fun _ vi _ => n1 - (intOf vi).toNat)
  case atStart => exact ⟨0, 0, 0, none, [], rfl, rfl, by omega, rfl, rfl, World.ownsRow_nil _ _ _ _, Up.refl _⟩
  case round =>
    obtain ⟨i, m, c, q, O, rfl, rfl, hin, HM, HO, HW, HUW⟩ := hrel
    rename World => W
    have hmb : m ≤ 40000 := by have := HM.out; omega
    by_cases hlt : i < n1
    · obtain ⟨blk, off, hpe, hr⟩ := SL.out.rd (by omega)
      subst hpe
      obtain ⟨x, hx⟩ : ∃ x, L[i]! = x := ⟨_, rfl⟩
      have cx := cell_up (hr i (by rw [SL.out.len]; exact hlt)) HUW.out
      rw [hx] at cx
      have HX : Hid _ := hx
      clear hx hr
      have hl3 : (i : Int) < (n1 : Int) := by omega
      have sz : w2.heap.size ≤ W.heap.size := RowKit.Below.size HUW.out
      have hown := HW.out
      go_wp2_with (at_builtin; refine wpList_append_own _ rfl _ _ 22 rfl w2.heap.size 24 i0 (.float .f64 0) 1 8 Try.underlying22 hi0 hz0 hz1 hz2 rfl (by decide) _ _ _ rfl (hown.alloc _) ⟨W.heap.size, 0, none⟩ 1 1 [.float .f64 x] rfl rfl (cell_new _ _ _) (one_cell _) (by unfold maxLen; omega) (by omega) (by simp; omega) ?_)
      intro v' w3 hown' hgrow _
      have R3 := own_push (Nat.le_refl _) hown HUW.out hown' hgrow
      obtain ⟨p', c', hv, _⟩ := own_form R3.1
      subst hv
      have HO3 : Hid (w3.ownsRow w2.heap.size 24 1 (.slice p' (m + 1) c') (m + 1) ((O ++ [x]).map fe)) := R3.1
      have HU3 : Hid (Up w2 w3) := R3.2
      clear hown' hgrow hown R3 HW HUW cx
      go_wp2
      go_roundw
      case rel =>
        refine ⟨i + 1, m + 1, c', p', O ++ [x], rfl, by go_num, by omega, by have := HM.out; show _ = _; omega, ?_, HO3, HU3⟩
        show _ = _
        rw [HO.out, ← HX.out]
        exact take_one L _ (by rw [SL.out.len]; exact hlt)
      case measure => simp [intOf]; omega
    · have hie : n1 = i := by omega
      have hO2 : [] ++ L.toList = O := by rw [HO.out, List.take_of_length_le (by rw [Array.length_toList, SL.out.len]; omega)]
      have hm2 : n1 = m := by have := HM.out; omega
      subst hie hO2 hm2
      clear HO HM hmb hlt hin
      go_wp2
      go_loopw [15, 17] (fun v vi wr => ∃ (i m c : Nat) (p : Option Addr) (O : List Nat), v = .slice p m c ∧ vi = .int .i64 i ∧ i ≤ n2 ∧ Hid (m = n1 + i) ∧ Hid (O = L.toList ++ R.toList.take i) ∧ Hid (wr.ownsRow w2.heap.size 24 1 (.slice p m c) m (O.map fe)) ∧ Hid (Up w2 wr)) (fun _ vi _ => n2 - (intOf vi).toNat)
      case atStart => exact ⟨0, n1, c, q, _, rfl, rfl, by omega, rfl, by show _ = _; simp, HW, HUW⟩
      case round =>
        clear HW HUW
        obtain ⟨i, m, c, q, O, rfl, rfl, hin, HM, HO, HW, HUW⟩ := hrel
        rename World => W
        have hmb : m ≤ 40000 := by have := HM.out; omega
        by_cases hlt : i < n2
        · obtain ⟨blk, off, hpe, hr⟩ := S2.out.rd (by omega)
          subst hpe
          obtain ⟨x, hx⟩ : ∃ x, R[i]! = x := ⟨_, rfl⟩
          have cx := cell_up (hr i (by rw [S2.out.len]; exact hlt)) HUW.out
          rw [hx] at cx
          have HX : Hid _ := hx
          clear hx hr
          have hl3 : (i : Int) < (n2 : Int) := by omega
          have sz : w2.heap.size ≤ W.heap.size := RowKit.Below.size HUW.out
          have hown := HW.out
          go_wp2_with (at_builtin; refine wpList_append_own _ rfl _ _ 22 rfl w2.heap.size 24 i0 (.float .f64 0) 1 8 Try.underlying22 hi0 hz0 hz1 hz2 rfl (by decide) _ _ _ rfl (hown.alloc _) ⟨W.heap.size, 0, none⟩ 1 1 [.float .f64 x] rfl rfl (cell_new _ _ _) (one_cell _) (by unfold maxLen; omega) (by omega) (by simp; omega) ?_)
          intro v' w3 hown' hgrow _
          have R3 := own_push (Nat.le_refl _) hown HUW.out hown' hgrow
          obtain ⟨p', c', hv, _⟩ := own_form R3.1
          subst hv
          have HO3 : Hid (w3.ownsRow w2.heap.size 24 1 (.slice p' (m + 1) c') (m + 1) ((O ++ [x]).map fe)) := R3.1
          have HU3 : Hid (Up w2 w3) := R3.2
          clear hown' hgrow hown R3 HW HUW cx
          go_wp2
          go_roundw
          case rel =>
            refine ⟨i + 1, m + 1, c', p', O ++ [x], rfl, by go_num, by omega, by have := HM.out; show _ = _; omega, ?_, HO3, HU3⟩
            show _ = _
            rw [HO.out, ← HX.out]
            exact take_one R _ (by rw [S2.out.len]; exact hlt)
          case measure => simp [intOf]; omega
        · have hie : n2 = i := by omega
          have hO2 : L.toList ++ R.toList = O := by rw [HO.out, List.take_of_length_le (by rw [Array.length_toList, S2.out.len]; omega)]
          have hm2 : n1 + n2 = m := by have := HM.out; omega
          subst hie hO2 hm2
          clear HO HM hmb hlt hin
          have HS : Hid (SV W q (n1 + n2) c (L ++ R)) := by
            have hw := HW.out
            rw [← Array.toList_append] at hw
            exact sv_own hw (by rw [Array.size_append, HN.out.1, HN.out.2]) (fit_app SL.out.fit S2.out.fit)
          have UX : Hid (Up w W) := UW.out.trans HUW.out
          have SL2 : Hid (SV W p1 n1 c1 L) := SL.out.up HUW.out
          have SR2 : Hid (SV W p2 n2 c2 R) := S2.out.up HUW.out
          clear HW HUW UW SL S2
          obtain ⟨N, hN⟩ : ∃ N, n1 + n2 = N := ⟨_, rfl⟩
          rw [hN] at HS ⊢
          have eN : Hid (L.size + R.size = N) := by show _ = _; rw [HN.out.1, HN.out.2]; exact hN
          have bN : N ≤ 40000 := by omega
          by_cases hz : N = 0
          · have E : Hid (levD way M L R = _) := lev_nil (by rw [eN.out]; exact hz)
            subst hz
            go_wp2_with (go_at_call 50; (with_reducible refine (t50 _).mono ?_); rintro e w' ⟨rfl, hw⟩; subst w')
            go_ret
            exact FU.mk E.out.symm UX.out
          have b0 : ((N : Int) == 0) = false := by rw [beq_eq_false_iff_ne]; omega
          have pN : 0 < L.size + R.size := by rw [eN.out]; omega
          by_cases h3 : way = 3
          · subst h3
            have E : Hid (levD 3 M L R = nthD (L ++ R) (min M (N - 1))) := by show _ = _; rw [lev_ord pN, eN.out]
            obtain ⟨j, hj⟩ : ∃ j, min M (N - 1) = j := ⟨_, rfl⟩
            have jN : j < N := by omega
            rw [hj] at E
            have HJ : Hid (min M (N - 1) = j) := hj
            clear hj pN
            go_wp2_with (go_at_call 52; (with_reducible refine (nth52 (k := j) HS.out (by have := HJ.out; omega) jN (by omega)).mono ?_); rintro e w5 ⟨y, rfl, hy, HU5⟩)
            all_goals (go_ret; exact FU.mk (hy.out.trans E.out.symm) (UX.out.trans HU5.out))
          have b3 : (way == 3) = false := by rw [beq_eq_false_iff_ne]; exact h3
          by_cases h12 : way = 1 ∨ way = 2
          · have E1 : levD way M L R = oneD way L R := lev_one' pN h12
            rcases Nat.eq_zero_or_pos n1 with q1 | q1
            · subst q1
              have e2 : oneD way L R = meanD R := by unfold oneD; rw [if_pos HN.out.1]
              have E : Hid (levD way M L R = _) := E1.trans e2
              clear pN e2 E1
              rcases h12 with rfl | rfl
              · go_wp2_with (go_at_call 53; (with_reducible refine (t53 SR2.out (by omega) (by omega)).mono ?_); rintro e w5 ⟨y, rfl, hy, HU5⟩)
                go_ret
                exact FU.mk (hy.out.trans E.out.symm) (UX.out.trans HU5.out)
              · go_wp2_with (go_at_call 53; (with_reducible refine (t53 SR2.out (by omega) (by omega)).mono ?_); rintro e w5 ⟨y, rfl, hy, HU5⟩)
                go_ret
                exact FU.mk (hy.out.trans E.out.symm) (UX.out.trans HU5.out)
            have c1' : ((n1 : Int) == 0) = false := by rw [beq_eq_false_iff_ne]; omega
            rcases Nat.eq_zero_or_pos n2 with q2 | q2
            · subst q2
              have e2 : oneD way L R = meanD L := by unfold oneD; rw [if_neg (by rw [HN.out.1]; omega), if_pos HN.out.2]
              have E : Hid (levD way M L R = _) := E1.trans e2
              clear pN e2 E1
              rcases h12 with rfl | rfl
              · go_wp2_with (go_at_call 53; (with_reducible refine (t53 SL2.out (by omega) (by omega)).mono ?_); rintro e w5 ⟨y, rfl, hy, HU5⟩)
                go_ret
                exact FU.mk (hy.out.trans E.out.symm) (UX.out.trans HU5.out)
              · go_wp2_with (go_at_call 53; (with_reducible refine (t53 SL2.out (by omega) (by omega)).mono ?_); rintro e w5 ⟨y, rfl, hy, HU5⟩)
                go_ret
                exact FU.mk (hy.out.trans E.out.symm) (UX.out.trans HU5.out)
            have c2' : ((n2 : Int) == 0) = false := by rw [beq_eq_false_iff_ne]; omega
            have e2 : oneD way L R = pickD way (meanD R) (meanD L) := by unfold oneD; rw [if_neg (by rw [HN.out.1]; omega), if_neg (by rw [HN.out.2]; omega)]
            have E : Hid (levD way M L R = _) := E1.trans e2
            clear pN e2 E1
            rcases h12 with rfl | rfl
            · go_wp2_with (first
                | (go_at_call 53; (with_reducible refine (t53 SL2.out (by omega) (by omega)).mono ?_); rintro e w5 ⟨y, rfl, hy, HU5⟩; have SR5 : Hid (SV w5 p2 n2 c2 R) := SR2.out.up HU5.out)
                | (go_at_call 53; (with_reducible refine (t53 SR5.out (by omega) (by omega)).mono ?_); rintro e w6 ⟨z, rfl, hzz, HU6⟩))
              all_goals
                go_ret
                go_tidy
                refine FU.mk ?_ ((UX.out.trans HU5.out).trans HU6.out)
                rw [E.out, ← hy.out, ← hzz.out]
                clear E
                simp_all [pickD]
            · go_wp2_with (first
                | (go_at_call 53; (with_reducible refine (t53 SL2.out (by omega) (by omega)).mono ?_); rintro e w5 ⟨y, rfl, hy, HU5⟩; have SR5 : Hid (SV w5 p2 n2 c2 R) := SR2.out.up HU5.out)
                | (go_at_call 53; (with_reducible refine (t53 SR5.out (by omega) (by omega)).mono ?_); rintro e w6 ⟨z, rfl, hzz, HU6⟩))
              all_goals
                go_ret
                go_tidy
                refine FU.mk ?_ ((UX.out.trans HU5.out).trans HU6.out)
                rw [E.out, ← hy.out, ← hzz.out]
                clear E
                simp_all [pickD]
          have m1 : (way == 1) = false := by rw [beq_eq_false_iff_ne]; omega
          have m2 : (way == 2) = false := by rw [beq_eq_false_iff_ne]; omega
          have m3 : (way != 1) = true := by rw [bne, m1]; rfl
          have m4 : (way != 2) = true := by rw [bne, m2]; rfl
          clear m1 m2
          have E : Hid (levD way M L R = _) := lev_all pN (by omega) (by omega) h3
          clear pN
          go_wp2_with (go_at_call 53; (with_reducible refine (t53 HS.out (by omega) (by omega)).mono ?_); rintro e w5 ⟨y, rfl, hy, HU5⟩)
          go_ret
          exact FU.mk (hy.out.trans E.out.symm) (UX.out.trans HU5.out)
end Go.Proofs.Ytfggdaebahdnfaa
