/- TopInTime: the walk. -/
import Derived.Test.YtjklaemhfhakhabNd
import Derived.Deep.CutBlock
namespace Go.Proofs.Ytjklaemhfhakhab
open Go.ChangeShapes Go.WideShapes Go.ChangeAt Go.RowKit

set_option maxRecDepth 200000 in
set_option maxHeartbeats 16000000 in
theorem t3 {w : World} {p0 p1 p2 p3 : Option Addr} {n0 n1 n2 n3 k0 k1 k2 k3 : Nat} {z0 z1 z2 z3 : Nat → Int} (h0 : IL .i64 w p0 n0 k0 z0) (h1 : IL .i64 w p1 n1 k1 z1) (h2 : IL .i64 w p2 n2 k2 z2) (h3 : IL .i64 w p3 n3 k3 z3) : Calls Try.prog 3 #[.slice p0 n0 k0, .slice p1 n1 k1, .slice p2 n2 k2, .slice p3 n3 k3] w (VU w (.bool true)) := by
  have H0 : Hid (IL .i64 w p0 n0 k0 z0) := h0
  have H1 : Hid (IL .i64 w p1 n1 k1 z1) := h1
  have H2 : Hid (IL .i64 w p2 n2 k2 z2) := h2
  have H3 : Hid (IL .i64 w p3 n3 k3 z3) := h3
  have f0 := h0.few
  have f1 := h1.few
  have f2 := h2.few
  have f3 := h3.few
  clear h0 h1 h2 h3
  go_enter Try.func3, Try.ntmps3
  go_upto_block 0 with fail
  go_cut [9, 10, 11, 12] from 27 to 72 (fun v9 v10 _ _ wx => ∃ (k cc : Nat) (q : Option Addr) (D : List Tk) (A : Int), k ≤ 6 ∧ A ≤ 24 ∧ 1 ≤ A ∧ v9 = .slice q k cc ∧ v10 = .int .i64 A ∧ Hid (A = allN k) ∧ Hid (GT w k (.slice q k cc) D wx))
  case first =>
    go_wp2_with fail
    go_loopw [9, 10, 11, 12] (fun v9 v10 v11 _ wr => ∃ (k cc : Nat) (q : Option Addr) (D : List Tk), k ≤ 6 ∧ v9 = .slice q k cc ∧ v10 = .int .i64 (allN k) ∧ v11 = .int .i64 k ∧ Hid (GT w k (.slice q k cc) D wr)) (fun _ _ v11 _ _ => 6 - (intOf v11).toNat)
    case atStart => exact ⟨0, 0, none, [], by omega, rfl, rfl, rfl, ⟨TO.nil _ _, rfl, fun i hi => by omega, Up.refl _⟩⟩
    case round =>
      obtain ⟨k, cc, q, D, hk, rfl, rfl, rfl, HX⟩ := hrel
      rename World => wr
      have y0 : (0 : Int) ≤ (k : Int) := by omega
      by_cases a0 : k < n0
      · by_cases a1 : k < n1
        · by_cases a2 : k < n2
          · by_cases a3 : k < 6
            · have b0 : (k : Int) < (n0 : Int) := by omega
              have b1 : (k : Int) < (n1 : Int) := by omega
              have b2 : (k : Int) < (n2 : Int) := by omega
              have b3 : (k : Int) < 6 := by omega
              obtain ⟨g0, o0, hp0, hr0⟩ := H0.out.rd (by omega)
              obtain ⟨g1, o1, hp1, hr1⟩ := H1.out.rd (by omega)
              obtain ⟨g2, o2, hp2, hr2⟩ := H2.out.rd (by omega)
              have c0 := cell_up (hr0 k a0) HX.out.up
              have HC1 : Hid (wr.cell? ⟨g1, o1 + k, none⟩ = some (.int .i64 (z1 k))) := cell_up (hr1 k a1) HX.out.up
              have HC2 : Hid (wr.cell? ⟨g2, o2 + k, none⟩ = some (.int .i64 (z2 k))) := cell_up (hr2 k a2) HX.out.up
              have l0 := World.block_lt_of_cell? wr _ c0
              simp only at l0
              subst hp0 hp1 hp2
              clear hr0 hr1 hr2
              generalize z0 k = x0 at *
              generalize z1 k = x1 at *
              generalize z2 k = x2 at *
              obtain ⟨s0, hs0⟩ : ∃ s0, szN x0 6 = s0 := ⟨_, rfl⟩
              have hsi := szN_in x0 (show (1 : Int) ≤ 6 by omega)
              rw [hs0] at hsi
              have C4 : ∀ W, Hid (Calls Try.prog 4 #[.int .i64 x0, .int .i64 6] W (fun e w' => e = .returned (.int .i64 s0) ∧ w' = W)) := by
                intro W
                have := t4 (w := W) x0 (m := 6) (by omega) (by omega)
                rw [hs0] at this
                exact this
              clear hs0
              obtain ⟨r, hr⟩ : ∃ r : Nat, s0 - 1 = (r : Int) := ⟨(s0 - 1).toNat, by omega⟩
              have r6 : r < 6 := by omega
              have r6z : (r : Int) < 6 := by omega
              have r0z : (0 : Int) ≤ (r : Int) := by omega
              have tv := tb_cell wr 3 r6
              have HTB : Hid (2 ≤ tb r ∧ tb r ≤ 12 ∧ tb r ∣ 24) := tb_ok
              generalize tb r = ev at *
              have hev := HTB.out
              obtain ⟨s1, hs1⟩ : ∃ s1, szN x1 ev = s1 := ⟨_, rfl⟩
              have hsj := szN_in x1 (show (1 : Int) ≤ ev by omega)
              have HOK : Hid (OkT ⟨ev, s1, x2⟩) := by
                rw [hs1] at hsj
                exact ⟨hev.1, hev.2.1, hev.2.2, hsj.1, hsj.2⟩
              have C5 : ∀ W, Hid (Calls Try.prog 4 #[.int .i64 x1, .int .i64 ev] W (fun e w' => e = .returned (.int .i64 s1) ∧ w' = W)) := by
                intro W
                have := t4 (w := W) x1 (m := ev) (by omega) (by omega)
                rw [hs1] at this
                exact this
              clear hs1 hsj hsi
              obtain ⟨e2, e12, -⟩ := hev
              go_upto_region 7 with (go_at_call 4; (with_reducible refine (C4 _).out.mono ?_); rintro e w1 ⟨rfl, rfl⟩)
              have HUa : Hid (Up wr (wr.alloc (.cells #[.int .i64 2, .int .i64 3, .int .i64 4, .int .i64 6, .int .i64 8, .int .i64 12] 3))) := Up.alloc _ _
              replace HC1 := cell_up HC1.out HUa.out
              replace HC2 := cell_up HC2.out HUa.out
              generalize wr.alloc (.cells #[.int .i64 2, .int .i64 3, .int .i64 4, .int .i64 6, .int .i64 8, .int .i64 12] 3) = W1 at *
              clear c0 tv l0
              refine wp_region_up 14 [cV (.slice q k cc), cV (.int .i64 ev), cV (.slice (some ⟨g1, o1, none⟩) n1 k1), cV (.int .i64 k), cV (.pointer (some ⟨g1, o1 + k, none⟩)), cV (.int .i64 x1), cV (.int .i64 ev), cV (.int .i64 s1), cV (.slice (some ⟨g2, o2, none⟩) n2 k2), cV (.int .i64 k), cV (.pointer (some ⟨g2, o2 + k, none⟩)), cV (.int .i64 x2), cV (.agg #[.int .i64 ev, .int .i64 s1, .int .i64 x2]), cS (W1) (.cells #[.int .i64 ev, .int .i64 s1, .int .i64 x2] 26)] (by kernel_rfl) (by decide) rfl (by kernel_rfl) (by kernel_rfl) ⟨mV _, mV _, mV _, mV _, mV _, mV _, mV _, mV _, mV _, mV _, mV _, mV _, mV _, mS _ _, trivial⟩ ?_
              intro vals
              simp only [List.take_succ_cons, List.take_zero, valsN, FillL, Act.put, List.setIfInBounds_toArray, List.set_cons_succ, List.set_cons_zero, Nat.zero_add, Nat.reduceAdd]
              refine ⟨⟨fun v hu h => ?_, fun v hu h => ?_, fun v hu h => ?_, fun v hu h => ?_, fun v hu h => ?_, fun v hu h => ?_, fun v hu h => ?_, fun v hu h => ?_, fun v hu h => ?_, fun v hu h => ?_, fun v hu h => ?_, fun v hu h => ?_, fun v hu h => ?_, fun v hu h => ?_, trivial⟩, fun v hu h => ?_⟩
              all_goals have h0 := hu
              · refine UpO.is _ rfl rfl ?_
                go_simp
              · refine UpO.is _ rfl rfl ?_
                go_simp
              · refine UpO.is _ rfl rfl ?_
                go_simp
              · refine UpO.is _ rfl rfl ?_
                go_simp
              · have e2 : vals 2 = .slice (some ⟨g1, o1, none⟩) n1 k1 := h 2 (by decide) (by kernel_rfl)
                have e3 : vals 3 = .int .i64 k := h 3 (by decide) (by kernel_rfl)
                refine UpO.is _ rfl rfl ?_
                rw [e2, e3]
                go_simp
              · have e4 : vals 4 = .pointer (some ⟨g1, o1 + k, none⟩) := h 4 (by decide) (by kernel_rfl)
                have z := cell_up HC1 h0
                refine UpO.is _ rfl rfl ?_
                rw [e4]
                go_simp
              · refine UpO.is _ rfl rfl ?_
                go_simp
              · have e5 : vals 5 = .int .i64 x1 := h 5 (by decide) (by kernel_rfl)
                have e6 : vals 6 = .int .i64 ev := h 6 (by decide) (by kernel_rfl)
                refine UpO.call #[.int .i64 x1, .int .i64 ev] rfl rfl (by rw [e5, e6]; kernel_rfl) (enters Try.func4 (by kernel_rfl) (by kernel_rfl) _ _) ?_
                refine (C5 _).out.mono ?_
                rintro e w9 ⟨rfl, rfl⟩
                exact ⟨_, rfl, rfl, Up.refl _⟩
              · refine UpO.is _ rfl rfl ?_
                go_simp
              · refine UpO.is _ rfl rfl ?_
                go_simp
              · have e8 : vals 8 = .slice (some ⟨g2, o2, none⟩) n2 k2 := h 8 (by decide) (by kernel_rfl)
                have e9 : vals 9 = .int .i64 k := h 9 (by decide) (by kernel_rfl)
                refine UpO.is _ rfl rfl ?_
                rw [e8, e9]
                go_simp
              · have e10 : vals 10 = .pointer (some ⟨g2, o2 + k, none⟩) := h 10 (by decide) (by kernel_rfl)
                have z := cell_up HC2 h0
                refine UpO.is _ rfl rfl ?_
                rw [e10]
                go_simp
              · have e1 : vals 1 = .int .i64 ev := h 1 (by decide) (by kernel_rfl)
                have e7 : vals 7 = .int .i64 s1 := h 7 (by decide) (by kernel_rfl)
                have e11 : vals 11 = .int .i64 x2 := h 11 (by decide) (by kernel_rfl)
                refine UpO.is _ rfl rfl ?_
                rw [e1, e7, e11]
                go_simp
              · have e12 : vals 12 = .agg #[.int .i64 ev, .int .i64 s1, .int .i64 x2] := h 12 (by decide) (by kernel_rfl)
                refine UpO.bs h0 rfl ?_
                rw [e12]
                go_simp
              · have e0 : vals 0 = .slice q k cc := h 0 (by decide)
                obtain ⟨b13, e13, hb13, hh13⟩ : cS (W1) (.cells #[.int .i64 ev, .int .i64 s1, .int .i64 x2] 26) (vals 13) v := h 13 (by decide)
                rw [e0, e13]
                simp only [List.drop_succ_cons, List.drop_zero]
                clear h
                have HUV : Hid (Up W1 v) := hu
                clear hu h0
                have HTO : Hid (TO w.heap.size v (.slice q k cc) D) := HX.out.tO.up (HUa.out.trans HUV.out)
                have HZ : Hid (w.heap.size ≤ v.heap.size) := Nat.le_trans HX.out.up.size (HUa.out.trans HUV.out).size
                go_wp2_with (at_builtin; (with_reducible refine wpList_pushB (z := ⟨ev, s1, x2⟩) rfl _ _ rfl q k cc D rfl rfl HTO.out HZ.out (by omega) hh13.out ?_); intro p' c' w5 HS5 HG5)
                go_roundw
                case rel => exact ⟨k + 1, c', p', D ++ [⟨ev, s1, x2⟩], by omega, rfl, by unfold allN; simp, by go_num, HX.out.next HOK.out HS5.out (up_grow (HX.out.up.trans (HUa.out.trans HUV.out)) HG5.out (fun b hb => (HTO.out.lt b hb).1))⟩
                case measure => simp [intOf]; omega
            · have b0 : (k : Int) < (n0 : Int) := by omega
              have b1 : (k : Int) < (n1 : Int) := by omega
              have b2 : (k : Int) < (n2 : Int) := by omega
              have b3 : ¬ (k : Int) < 6 := by omega
              go_wp2_with fail
              go_meet
              case rel => exact ⟨k, cc, q, D, allN k, hk, (allN_in k).2, (allN_in k).1, rfl, rfl, rfl, HX⟩
          · have b0 : (k : Int) < (n0 : Int) := by omega
            have b1 : (k : Int) < (n1 : Int) := by omega
            have b2 : ¬ (k : Int) < (n2 : Int) := by omega
            go_wp2_with fail
            go_meet
            case rel => exact ⟨k, cc, q, D, allN k, hk, (allN_in k).2, (allN_in k).1, rfl, rfl, rfl, HX⟩
        · have b0 : (k : Int) < (n0 : Int) := by omega
          have b1 : ¬ (k : Int) < (n1 : Int) := by omega
          go_wp2_with fail
          go_meet
          case rel => exact ⟨k, cc, q, D, allN k, hk, (allN_in k).2, (allN_in k).1, rfl, rfl, rfl, HX⟩
      · have b0 : ¬ (k : Int) < (n0 : Int) := by omega
        go_wp2_with fail
        go_meet
        case rel => exact ⟨k, cc, q, D, allN k, hk, (allN_in k).2, (allN_in k).1, rfl, rfl, rfl, HX⟩
  case rest =>
    obtain ⟨N, cc, q, D, A, hN, hA2, hA1, rfl, rfl, HA, HX⟩ := hcut
    rename World => wc
    obtain ⟨T, hT⟩ : ∃ T : Nat → Tk, (fun i => D.getD i Tk.zero) = T := ⟨_, rfl⟩
    have HTL : Hid (TL wc q N cc T) := by rw [← hT]; exact HX.out.tO.tl
    have HOK : Hid (∀ i, i < N → OkT (T i)) := by rw [← hT]; exact HX.out.ok
    have HT : Hid ((fun i => D.getD i Tk.zero) = T) := hT
    clear hT
    have HN6 : Hid (N ≤ 6) := hN
    obtain ⟨a, d, hld, hd1, hd2, ha⟩ := load_ok hN HOK.out
    have HLD : Hid (loadN (fun i => (T i).e.toNat) (fun i => (T i).l.toNat) N = some (a, d)) := hld
    have hd3 : decide ((d : Int) < 1) = false := by simp; omega
    clear hld hd1
    go_upto_region 12 with (go_at_call 5; (with_reducible refine (t5m HTL.out (by omega) (fun i hi => (HOK.out i hi).may)).mono ?_); rintro e w2 ⟨L, rfl, HP, HOwn, HU2⟩)
    have HSV0 : Hid (SV wc w2.heap.size N T a d L.bp (.slice none 0 0) [] (newP T) w2) := SV.start HOK.out HLD.out HP.out HOwn.out HU2.out
    have C6 : Hid (Calls Try.prog 6 #[.pointer (some ⟨L.bp, 0, none⟩)] w2 (VU w2 (.tuple #[.int .i64 (a : Int), .int .i64 (d : Int)]))) := by
      have := load_new HP.out.pw (fun i hi => (HOK.out i hi).may) (by have := HN6.out; omega)
      rw [HLD.out] at this
      exact this
    go_upto_block 2 with (go_at_call 6; (with_reducible refine C6.out.mono ?_); rintro e w3 ⟨rfl, HU3⟩)
    have HSV : Hid (SV wc w2.heap.size N T a d L.bp (.slice none 0 0) [] (newP T) w3) := HSV0.out.upp HU3.out
    clear HSV0 C6 HP HOwn HU2 HU3 HLD hd3
    generalize w2.heap.size = B at *
    generalize L.bp = bp at *
    go_cut [17, 19] from 93 to 112 (fun v17 _ wx => ∃ (ln cap : Nat) (pp : Option Addr) (Dl : List Sl) (p : Pl), v17 = .slice pp ln cap ∧ ln ≤ 24 ∧ Hid (SV wc B N T a d bp (.slice pp ln cap) Dl p wx))
    case first =>
      go_wp2_with fail
      go_loopw [17, 19, 93] (fun v17 _ v93 wr => ∃ (k ln cap : Nat) (pp : Option Addr) (Dl : List Sl) (p : Pl), k ≤ n3 ∧ ln ≤ 24 ∧ v93 = .int .i64 k ∧ v17 = .slice pp ln cap ∧ Hid (SV wc B N T a d bp (.slice pp ln cap) Dl p wr)) (fun _ _ v93 _ => n3 - (intOf v93).toNat)
      case atStart => exact ⟨0, 0, 0, none, [], newP T, by omega, by omega, rfl, rfl, HSV⟩
      case round =>
        clear HSV
        obtain ⟨k, ln, cap, pp, Dl, p, hk, hln, rfl, rfl, HSV⟩ := hrel
        rename World => wr
        have y0 : (0 : Int) ≤ (k : Int) := by omega
        by_cases a3 : k < n3
        · have b3 : (k : Int) < (n3 : Int) := by omega
          obtain ⟨g3, o3, hp3, hr3⟩ := H3.out.rd (by omega)
          have c3 := cell_up (hr3 k a3) (HX.out.up.trans HSV.out.up)
          subst hp3
          clear hr3
          generalize z3 k = x3 at *
          obtain ⟨now, hnow⟩ : ∃ now, p.now = now := ⟨_, rfl⟩
          have HNOW : Hid (p.now = now) := hnow
          have hnb := HSV.out.qs.now
          rw [hnow, ← HA.out] at hnb
          clear hnow
          have C7 : Hid (Calls Try.prog 7 #[.pointer (some ⟨bp, 0, none⟩)] wr (fun e w' => e = .returned (.int .i64 now) ∧ w' = wr)) := by
            have := HSV.out.at7
            rw [HNOW.out] at this
            exact this
          by_cases hA : A ≤ now
          · go_wp2_with (go_at_call 7; (with_reducible refine C7.out.mono ?_); rintro e w9 ⟨rfl, rfl⟩)
            go_meet
            case rel => exact ⟨ln, cap, pp, Dl, p, rfl, hln, HSV⟩
          · have hA3 : now < A := by omega
            obtain ⟨s9, hs9⟩ : ∃ s9, szN x3 9 = s9 := ⟨_, rfl⟩
            have hsi := szN_in x3 (show (1 : Int) ≤ 9 by omega)
            rw [hs9] at hsi
            have C4 : Hid (Calls Try.prog 4 #[.int .i64 x3, .int .i64 9] wr (fun e w' => e = .returned (.int .i64 s9) ∧ w' = wr)) := by
              have := t4 (w := wr) x3 (m := 9) (by omega) (by omega)
              rw [hs9] at this
              exact this
            clear hs9
            have C8 : ∀ tk, Hid (now ≤ tk → tk ≤ A → Calls Try.prog 8 #[.pointer (some ⟨bp, 0, none⟩), .int .i64 tk] wr (fun e w' => ∃ qq len c2 S p', e = .returned (.slice qq len c2) ∧ Hid (SW wc B N T a d bp (.slice pp ln cap) (.slice qq len c2) Dl S p' w') ∧ Hid (p'.now = tk) ∧ Hid (ln + len ≤ 24))) := fun tk u v => HSV.out.at8 HN6.out (by rw [HNOW.out]; exact u) (by rw [← HA.out]; exact v)
            go_wp2_with (first
              | (go_at_call 7; (with_reducible refine C7.out.mono ?_); rintro e w9 ⟨rfl, rfl⟩)
              | (go_at_call 4; (with_reducible refine C4.out.mono ?_); rintro e w9 ⟨rfl, rfl⟩)
              | (go_at_call 8; (with_reducible refine ((C8 _).out (by omega) (by omega)).mono ?_); rintro e w5 ⟨qq, len, c2, S, p', rfl, HSW, HNW, HLN⟩)
              | (at_builtin; (with_reducible refine wpList_app_so rfl _ _ rfl B B ln cap pp qq len c2 Dl S rfl rfl HSW.out.so HSW.out.so2 (by have := HLN.out; omega) HSW.out.bse.2 ?_); intro p5 c5 w6 HS6 HG6))
            all_goals
              go_roundw
              case rel => exact ⟨k + 1, ln + len, c5, p5, Dl ++ S, p', by omega, HLN.out, by go_num, rfl, HSW.out.app HS6 HG6⟩
              case measure => simp [intOf]; omega
        · have b3 : ¬ (k : Int) < (n3 : Int) := by omega
          go_wp2_with fail
          go_meet
          case rel => exact ⟨ln, cap, pp, Dl, p, rfl, hln, HSV⟩
    case rest =>
      clear HSV
      obtain ⟨ln, cap, pp, Dl, p, rfl, hln, HSV⟩ := hcut
      rename World => wr
      have hnb := HSV.out.qs.now
      have C8 : Hid (Calls Try.prog 8 #[.pointer (some ⟨bp, 0, none⟩), .int .i64 A] wr (fun e w' => ∃ qq len c2 S p', e = .returned (.slice qq len c2) ∧ Hid (SW wc B N T a d bp (.slice pp ln cap) (.slice qq len c2) Dl S p' w') ∧ Hid (p'.now = A) ∧ Hid (ln + len ≤ 24))) := HSV.out.at8 HN6.out (by rw [HA.out]; exact hnb.2) (by rw [HA.out]; omega)
      clear hnb
      obtain ⟨AR, hAR, hM⟩ := made2 N hN
      go_upto_region 23 with (first
        | (go_at_call 8; (with_reducible refine C8.out.mono ?_); rintro e w5 ⟨qq, len, c2, S, p', rfl, HSW, HNW, HLN⟩)
        | (at_builtin; (with_reducible refine wpList_app_so rfl _ _ rfl B B ln cap pp qq len c2 Dl S rfl rfl HSW.out.so HSW.out.so2 (by have := HLN.out; omega) HSW.out.bse.2 ?_); intro p5 c5 w6 HS6 HG6))
      have HSF0 := HSW.out.app HS6 HG6
      generalize Dl ++ S = DD at *
      have HLM := HLN.out
      generalize ln + len = m at *
      have HDL : Hid (DD.length = m) := SO.len HS6
      have HSF : Hid (SV wc B N T a d bp (.slice p5 m c5) DD p' w6) := HSF0
      have HLV0 : Hid (LV N DD A w6.heap.size (w6.alloc (.cells AR 2)) 0 0 0 (w6.alloc (.cells AR 2))) := LV.start hAR (by have := HSF.out.qs.ch; rw [HNW.out] at this; exact this)
      have HS7 : Hid (SV wc B N T a d bp (.slice p5 m c5) DD p' (w6.alloc (.cells AR 2))) := HSF.out.upp (Up.alloc _ _)
      have HGS : Hid (w6.heap.size < (w6.alloc (.cells AR 2)).heap.size) := by show _ < (w6.alloc (.cells AR 2)).heap.size; simp
      have HSL : Hid (0 < m → ∃ g, p5 = some ⟨g, 0, none⟩ ∧ g < w6.heap.size ∧ ∀ i, i < m → SlAt (w6.alloc (.cells AR 2)) g (i * 4) (DD.getD i Sl.zero)) := by
        intro h0
        obtain ⟨g, e1, _, e3, e4⟩ := HSF.out.so.sl h0
        exact ⟨g, e1, e3, fun i hi => (e4 i hi).up (Up.alloc _ _)⟩
      have HB : Hid (wc.heap.size ≤ w6.heap.size ∧ B ≤ w6.heap.size) := ⟨Nat.le_trans HSF.out.bse.1 HSF.out.bse.2, HSF.out.bse.2⟩
      go_upto_block 4 with fail
      clear hM hAR HSF0 HS6 HG6 HSW C8 HSV
      generalize w6.alloc (.cells AR 2) = W7 at *
      generalize w6.heap.size = gs at *
      go_wp2_with fail
      go_loopw [21, 22, 24, 123] (fun v21 v22 _ v123 wr => ∃ (j : Nat) (bu at' : Int), j ≤ m ∧ v123 = .int .i64 j ∧ v21 = .int .i64 bu ∧ v22 = .int .i64 at' ∧ Hid (LV N DD A gs W7 j bu at' wr)) (fun _ _ _ v123 _ => m - (intOf v123).toNat)
      case atStart => exact ⟨0, 0, 0, by omega, rfl, rfl, rfl, HLV0⟩
      case round =>
        clear HLV0
        obtain ⟨j, bu, at', hj, rfl, rfl, rfl, HLV⟩ := hrel
        rename World => wv
        have y0 : (0 : Int) ≤ (j : Int) := by omega
        by_cases hjm : j < m
        · have b3 : (j : Int) < (m : Int) := by omega
          obtain ⟨g, hp5, hgl, hsl⟩ := HSL.out (by omega)
          have hget : DD[j]? = some (DD.getD j Sl.zero) := by
            have := HDL.out
            rw [List.getD_eq_getElem?_getD, List.getElem?_eq_getElem (by omega)]
            rfl
          have hts := HS7.out.qs.tk _ (List.mem_of_getElem? hget)
          have hla : a ≤ d → (DD.getD j Sl.zero).l = false := fun q => (HS7.out.qs.li q).2 _ (List.mem_of_getElem? hget)
          have hcj := HLV.out.ch
          have x := (hsl j hjm).kp HLV.out.kp (by show g ≠ gs; omega)
          generalize DD.getD j Sl.zero = s at *
          obtain ⟨st, sf, se, sl⟩ := s
          simp only at hts hla
          obtain ⟨ti, rfl⟩ : ∃ ti : Nat, st = ti := ⟨st.toNat, by omega⟩
          obtain ⟨x0, x1, x2, x3⟩ := x
          simp only at x0 x1 x2 x3
          obtain ⟨hjl, hjs⟩ := List.getElem?_eq_some_iff.1 hget
          rw [List.drop_eq_getElem_cons hjl, hjs] at hcj
          obtain ⟨q1, q2, q3⟩ := hcj
          replace q3 := Chn.le q3
          simp only at q1 q2 q3
          have sh0 := Chn.sh (ti : Int) HLV.out.ch0
          have HGET : Hid (DD[j]? = some ⟨ti, sf, se, sl⟩) := hget
          have cs := HLV.out.sh ti (by omega)
          obtain ⟨sv, hsv⟩ : ∃ sv, shL (DD.take j) ti = sv := ⟨_, rfl⟩
          have HSVE : Hid (shL (DD.take j) ti = sv) := hsv
          rw [hsv] at cs sh0
          rw [← HLV.out.bu] at sh0
          have fz := HLV.out.fz ti
          have lgs : gs < wv.heap.size := Nat.lt_of_lt_of_le HGS.out HLV.out.kp.size
          have lg : g < wv.heap.size := by omega
          subst hp5
          clear hsl hget hsv hjl hjs
          have d1 : ¬ sf < at' := by omega
          have d2 : ¬ se ≤ sf := by omega
          have d3 : ¬ A < se := by omega
          have d4 : ¬ (ti : Int) < 0 := by omega
          have d5 : ¬ (N : Int) ≤ (ti : Int) := by omega
          have d6 : (ti : Int) < (N : Int) := by omega
          have d7 : (0 : Int) ≤ (ti : Int) := by omega
          have d8 : -24 ≤ se - sf ∧ se - sf ≤ 24 := by omega
          have d9 : -24 ≤ sv + (se - sf) ∧ sv + (se - sf) ≤ 48 := by omega
          have d10 : -24 ≤ bu + (se - sf) ∧ bu + (se - sf) ≤ 48 := by omega
          cases sl with
          | false =>
            go_upto_region 31 with fail
            have HU8 : Hid (Up wv (wv.alloc (.cells #[.int .i64 ti, .int .i64 sf, .int .i64 se, .bool false] 38))) := Up.alloc _ _
            have e8 := heap_alloc_last wv (.cells #[.int .i64 ti, .int .i64 sf, .int .i64 se, .bool false] 38)
            have v0 : (wv.alloc (.cells #[.int .i64 ti, .int .i64 sf, .int .i64 se, .bool false] 38)).cell? ⟨wv.heap.size, 0, none⟩ = some (.int .i64 ti) := (row_cell e8 0).1
            have v1 : (wv.alloc (.cells #[.int .i64 ti, .int .i64 sf, .int .i64 se, .bool false] 38)).cell? ⟨wv.heap.size, 1, none⟩ = some (.int .i64 sf) := (row_cell e8 1).1
            have v2 : (wv.alloc (.cells #[.int .i64 ti, .int .i64 sf, .int .i64 se, .bool false] 38)).cell? ⟨wv.heap.size, 2, none⟩ = some (.int .i64 se) := (row_cell e8 2).1
            have v3 := cell_up cs HU8.out
            have v4 : (wv.alloc (.cells #[.int .i64 ti, .int .i64 sf, .int .i64 se, .bool false] 38)).frozen? ⟨gs, ti, none⟩ = false := frozen_up' fz lgs HU8.out
            have HLG : Hid (gs < wv.heap.size) := lgs
            clear x0 x1 x2 x3 cs fz lg e8 lgs
            generalize wv.alloc (.cells #[.int .i64 ti, .int .i64 sf, .int .i64 se, .bool false] 38) = W8 at *
            have hga : gs < wv.heap.size := HLG.out
            generalize hgae : wv.heap.size = ga at v0 v1 v2 hga ⊢
            clear hgae
            have HGA : Hid (gs < ga) := hga
            clear hga
            have k1 : (W8.setCell ⟨gs, ti, none⟩ (.int .i64 (sv + (se - sf)))).cell? ⟨ga, 1, none⟩ = some (.int .i64 sf) := cell_other v1 (Or.inl (by have := HGA.out; show ga ≠ gs; omega))
            have k2 : (W8.setCell ⟨gs, ti, none⟩ (.int .i64 (sv + (se - sf)))).cell? ⟨ga, 2, none⟩ = some (.int .i64 se) := cell_other v2 (Or.inl (by have := HGA.out; show ga ≠ gs; omega))
            go_region
            go_wp2_with fail
            go_roundw
            case rel => exact ⟨j + 1, bu + (se - sf), se, by omega, by go_num, rfl, rfl, HLV.out.nextD HGET.out HU8.out HLG.out (by rw [HSVE.out]) rfl⟩
            case measure => simp [intOf]; omega
          | true =>
            have had : ¬ (a : Int) ≤ (d : Int) := fun q => by have := hla (by omega); cases this
            go_upto_region 31 with fail
            have HU8 : Hid (Up wv (wv.alloc (.cells #[.int .i64 ti, .int .i64 sf, .int .i64 se, .bool true] 38))) := Up.alloc _ _
            have e8 := heap_alloc_last wv (.cells #[.int .i64 ti, .int .i64 sf, .int .i64 se, .bool true] 38)
            have v0 : (wv.alloc (.cells #[.int .i64 ti, .int .i64 sf, .int .i64 se, .bool true] 38)).cell? ⟨wv.heap.size, 0, none⟩ = some (.int .i64 ti) := (row_cell e8 0).1
            have v1 : (wv.alloc (.cells #[.int .i64 ti, .int .i64 sf, .int .i64 se, .bool true] 38)).cell? ⟨wv.heap.size, 1, none⟩ = some (.int .i64 sf) := (row_cell e8 1).1
            have v2 : (wv.alloc (.cells #[.int .i64 ti, .int .i64 sf, .int .i64 se, .bool true] 38)).cell? ⟨wv.heap.size, 2, none⟩ = some (.int .i64 se) := (row_cell e8 2).1
            have v3 := cell_up cs HU8.out
            have v4 : (wv.alloc (.cells #[.int .i64 ti, .int .i64 sf, .int .i64 se, .bool true] 38)).frozen? ⟨gs, ti, none⟩ = false := frozen_up' fz lgs HU8.out
            have HLG : Hid (gs < wv.heap.size) := lgs
            clear x0 x1 x2 x3 cs fz lg e8 lgs
            generalize wv.alloc (.cells #[.int .i64 ti, .int .i64 sf, .int .i64 se, .bool true] 38) = W8 at *
            have hga : gs < wv.heap.size := HLG.out
            generalize hgae : wv.heap.size = ga at v0 v1 v2 hga ⊢
            clear hgae
            have HGA : Hid (gs < ga) := hga
            clear hga
            have k1 : (W8.setCell ⟨gs, ti, none⟩ (.int .i64 (sv + (se - sf)))).cell? ⟨ga, 1, none⟩ = some (.int .i64 sf) := cell_other v1 (Or.inl (by have := HGA.out; show ga ≠ gs; omega))
            have k2 : (W8.setCell ⟨gs, ti, none⟩ (.int .i64 (sv + (se - sf)))).cell? ⟨ga, 2, none⟩ = some (.int .i64 se) := cell_other v2 (Or.inl (by have := HGA.out; show ga ≠ gs; omega))
            go_region
            go_wp2_with fail
            go_roundw
            case rel => exact ⟨j + 1, bu + (se - sf), se, by omega, by go_num, rfl, rfl, HLV.out.nextD HGET.out HU8.out HLG.out (by rw [HSVE.out]) rfl⟩
            case measure => simp [intOf]; omega
        · have b3 : ¬ (j : Int) < (m : Int) := by omega
          obtain rfl : j = m := by omega
          have hb1 := HLV.out.bu
          rw [List.take_of_length_le (by have := HDL.out; omega)] at hb1
          have HBU : Hid (bu = buL DD) := hb1
          have hb2 := Chn.sh 0 HLV.out.ch0
          have hb3 := Chn.le HLV.out.ch
          rw [← HLV.out.bu] at hb2
          have HSH : Hid (∀ i : Nat, i < N → wv.cell? ⟨gs, i, none⟩ = some (.int .i64 (shL DD i))) := by
            intro i hi
            have := HLV.out.sh i hi
            rwa [List.take_of_length_le (by have := HDL.out; omega)] at this
          have HKP : Hid (Kp (fun b => b ≠ gs) W7 wv) := HLV.out.kp
          have HUW : Hid (Up wc wv) := Up.of_kp HS7.out.up HLV.out.kp HB.out.1
          have HLS : Hid (gs < wv.heap.size) := Nat.lt_of_lt_of_le HGS.out HLV.out.kp.size
          have C7 : ∀ W, Hid (Up wv W → Calls Try.prog 7 #[.pointer (some ⟨bp, 0, none⟩)] W (fun e w' => e = .returned (.int .i64 A) ∧ w' = W)) := by
            intro W hW
            obtain ⟨L9, k1, k2, k3⟩ := HS7.out.pl
            have := t7 ((k1.pw.kp HKP.out (fun b hb => by have := (k3 b hb).2; have := HB.out.2; show b ≠ gs; omega)).up hW)
            rw [k2, HNW.out] at this
            exact this
          have HQS : Hid (QS N T a d p' DD) := HS7.out.qs
          go_upto_block 6 with fail
          go_wp2_with fail
          go_loopw [25, 26, 189] (fun _ _ v189 wr => ∃ i : Nat, i ≤ N ∧ v189 = .int .i64 i ∧ Hid (Up wv wr)) (fun _ _ v189 _ => N - (intOf v189).toNat)
          case atStart => exact ⟨0, by omega, rfl, Up.refl _⟩
          case round =>
            obtain ⟨i, hi, rfl, HUV⟩ := hrel
            rename World => wx
            have y0 : (0 : Int) ≤ (i : Int) := by omega
            by_cases hiN : i < N
            · have b4 : (i : Int) < (N : Int) := by omega
              obtain ⟨gt, ot, hq, hr⟩ := HTL.out.rd (by omega)
              have x := ((hr i hiN).up HUW.out).up HUV.out
              have okt := HOK.out i hiN
              have hsh : a ≤ d → shL DD i = A / (T i).e * (T i).l := fun q => by
                have := HQS.out.share HOK.out (by rw [HNW.out, HA.out]) q hiN
                rwa [← HA.out] at this
              have cs := cell_up (HSH.out i hiN) HUV.out
              generalize T i = tk at *
              obtain ⟨e, l, rr⟩ := tk
              obtain ⟨x0, x1, x2⟩ := x
              simp only at x0 x1 x2 hsh
              have lt0 := World.block_lt_of_cell? wx _ x0
              simp only at lt0
              have lt1 : gs < wx.heap.size := Nat.lt_of_lt_of_le HLS.out HUV.out.size
              subst hq
              clear hr
              have ge2 := okt.e2
              have ge3 := okt.e12
              have gl1 := okt.l1
              have gl2 := okt.l
              simp only at ge2 ge3 gl1 gl2
              obtain ⟨Q, hQ⟩ : ∃ Q, A / e = Q := ⟨_, rfl⟩
              have hQ2 : A.tdiv e = Q := by rw [Int.tdiv_eq_ediv_of_nonneg (by omega), hQ]
              have q0 : 0 ≤ Q := by rw [← hQ]; exact Int.ediv_nonneg (by omega) (by omega)
              have q1 : Q * e ≤ A := by rw [← hQ]; exact Int.ediv_mul_le _ (by omega)
              have q2 : Q * l ≤ Q * e := Int.mul_le_mul_of_nonneg_left gl2 q0
              have q3 : 0 ≤ Q * l := Int.mul_nonneg q0 (by omega)
              have q4 : Q * 2 ≤ Q * e := Int.mul_le_mul_of_nonneg_left ge2 q0
              rw [hQ] at hsh
              obtain ⟨pv, hpv⟩ : ∃ pv, Q * l = pv := ⟨_, rfl⟩
              rw [hpv] at hsh q2 q3
              have q5 : pv ≤ 24 := by omega
              have q6 : Q ≤ 24 := by omega
              have q7 : ¬ e = 0 := by omega
              have q8 : 0 < e := by omega
              clear q1 q2 q4
              generalize shL DD i = sg at *
              go_upto_region 37 with fail
              have HU8 : Hid (Up wx (wx.alloc (.cells #[.int .i64 e, .int .i64 l, .int .i64 rr] 26))) := Up.alloc _ _
              have e8 := heap_alloc_last wx (.cells #[.int .i64 e, .int .i64 l, .int .i64 rr] 26)
              have v0 : (wx.alloc (.cells #[.int .i64 e, .int .i64 l, .int .i64 rr] 26)).cell? ⟨wx.heap.size, 0, none⟩ = some (.int .i64 e) := (row_cell e8 0).1
              have v1 : (wx.alloc (.cells #[.int .i64 e, .int .i64 l, .int .i64 rr] 26)).cell? ⟨wx.heap.size, 1, none⟩ = some (.int .i64 l) := (row_cell e8 1).1
              have v2 := cell_up cs HU8.out
              clear x0 x1 x2 cs lt0 lt1 e8
              generalize wx.alloc (.cells #[.int .i64 e, .int .i64 l, .int .i64 rr] 26) = W8 at *
              generalize wx.heap.size = ga at *
              by_cases had : a ≤ d
              · have d1 : decide ((a : Int) ≤ (d : Int)) = true := by simp; omega
                have hsg := hsh had
                subst hsg
                clear hsh
                go_quiet (fail)
                go_wp2_with fail
                go_roundw
                case rel => exact ⟨i + 1, by omega, by go_num, HUV.out.trans (HU8.out.trans (Up.drewN _ _))⟩
                case measure => simp [intOf]; omega
              · have d1 : decide ((a : Int) ≤ (d : Int)) = false := by simp; omega
                clear hsh
                go_quiet (fail)
                go_wp2_with fail
                go_roundw
                case rel => exact ⟨i + 1, by omega, by go_num, HUV.out.trans (HU8.out.trans (Up.drewN _ _))⟩
                case measure => simp [intOf]; omega
            · have b4 : ¬ (i : Int) < (N : Int) := by omega
              by_cases had : a ≤ d
              · have d1 : decide ((a : Int) ≤ (d : Int)) = true := by simp; omega
                go_wp2_with (go_at_call 7; (with_reducible refine ((C7 _).out HUV.out).mono ?_); rintro e w9 ⟨rfl, rfl⟩)
                go_ret
                exact ⟨rfl, HX.out.up.trans (HUW.out.trans HUV.out)⟩
              · have d1 : decide ((a : Int) ≤ (d : Int)) = false := by simp; omega
                have hbA : bu = A := by
                  rw [HBU.out, (HQS.out.bu (by omega)).2, HNW.out]
                subst hbA
                go_wp2_with (go_at_call 7; (with_reducible refine ((C7 _).out HUV.out).mono ?_); rintro e w9 ⟨rfl, rfl⟩)
                go_ret
                exact ⟨rfl, HX.out.up.trans (HUW.out.trans HUV.out)⟩
end Go.Proofs.Ytjklaemhfhakhab
