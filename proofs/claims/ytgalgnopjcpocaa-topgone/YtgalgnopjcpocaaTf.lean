/- TopGone: the walk. -/
import Derived.Test.YtgalgnopjcpocaaTe
import Derived.Deep.CutRange
namespace Go.Proofs.Ytgalgnopjcpocaa
open Go.ChangeShapes Go.WideShapes Go.ChangeAt Go.RowKit Go.Fl Ieee
attribute [local go_sem] run_store_float run_store_c isSome_set call20 call33 run_neg fold_eq fold_ne fold_lt fold_gt abs_eq
set_option maxRecDepth 20000 in
set_option maxHeartbeats 8000000 in
theorem t8 {w : World} {code rows order : Int} {pc pt pa : Option Addr} {nc nt na cc ct ca : Nat} {fc ft : Nat → Int} {fa : Nat → Nat} (hc : VI w pc nc fc) (ht : VI w pt nt ft) (ha : VF w pa na fa) :
    Calls Try.prog 8 #[.int .i64 code, .slice pc nc cc, .slice pt nt ct, .slice pa na ca, .int .i64 rows, .int .i64 order] w (YS w) := by
  obtain ⟨sc, sc1, sc2, h1⟩ := size_is code 13 (by omega) (by omega)
  obtain ⟨so, so1, so2, h2⟩ := size_is order 6 (by omega) (by omega)
  obtain ⟨sr, sr1, sr2, h3⟩ := size_is rows 4 (by omega) (by omega)
  have H1 : Hid (∀ w, Calls Try.prog 25 #[.int .i64 code, .int .i64 13] w fun e w' => e = .returned (.int .i64 (sc : Int)) ∧ w' = w) := h1
  have H2 : Hid (∀ w, Calls Try.prog 25 #[.int .i64 order, .int .i64 6] w fun e w' => e = .returned (.int .i64 (so : Int)) ∧ w' = w) := h2
  have H3 : Hid (∀ w, Calls Try.prog 25 #[.int .i64 rows, .int .i64 4] w fun e w' => e = .returned (.int .i64 (sr : Int)) ∧ w' = w) := h3
  obtain ⟨z, hz⟩ : ∃ z : Nat, sc = z + 1 := ⟨sc - 1, by omega⟩
  have e1 : (sc : Int) - 1 = (z : Int) := by omega
  obtain ⟨n, hn⟩ : ∃ n, (codeL (z : Int)).length = n := ⟨_, rfl⟩
  obtain ⟨_, n1, n2, _⟩ := code_is (n := z) (by omega)
  rw [hn] at n1 n2
  have HC : Hid (∀ w, Calls Try.prog 24 #[.int .i64 (z : Int)] w (CD n w)) := fun w => code_ok (by omega) hn w
  obtain ⟨E, hE⟩ : ∃ E, 100 + n = E := ⟨_, rfl⟩
  have e2 : (100 : Int) + (n : Int) = (E : Int) := by omega
  obtain ⟨R, hR⟩ : ∃ R, so + sr = R := ⟨_, rfl⟩
  have e3 : (so : Int) + (sr : Int) = (R : Int) := by omega
  have HV : Hid (VI w pc nc fc ∧ VI w pt nt ft ∧ VF w pa na fa) := ⟨hc, ht, ha⟩
  have HN : Hid (so + sr = R ∧ 100 + n = E ∧ 1 ≤ n ∧ n ≤ 160 ∧ 1 ≤ so ∧ so ≤ 6 ∧ 1 ≤ sr ∧ sr ≤ 4) := ⟨hR, hE, n1, n2, so1, so2, sr1, sr2⟩
  have b1 : (E : Int) ≤ 260 := by omega
  have b2 : (R : Int) ≤ 10 := by omega
  have b3 : (sc : Int) ≤ 13 := by omega
  have b4 : (n : Int) ≤ 160 := by omega
  have b5 : (0 : Int) ≤ (sc : Int) := by omega
  have b6 : (so : Int) ≤ 6 := by omega
  have b7 : (sr : Int) ≤ 4 := by omega
  clear h1 h2 h3 hc ht ha hn hE hR hz
  go_enter Try.func8, Try.ntmps8
  go_wp2_with (first
    | (go_at_call 25; (with_reducible refine (H1.out _).mono ?_); rintro e w' ⟨rfl, hw⟩; subst w')
    | (go_at_call 25; (with_reducible refine (H2.out _).mono ?_); rintro e w' ⟨rfl, hw⟩; subst w')
    | (go_at_call 25; (with_reducible refine (H3.out _).mono ?_); rintro e w' ⟨rfl, hw⟩; subst w')
    | (go_at_call 24; (with_reducible refine (HC.out _).mono ?_); rintro e w1 ⟨pg, cap0, d, rfl, HRD, U1, HB1, _⟩)
    | (go_at_call 26; (with_reducible refine (t26 _ _ _).mono ?_); rintro e w2 ⟨rfl, U2⟩))
  obtain ⟨W0, hW0⟩ : ∃ W0, w2.alloc (.cells #[.float .f64 4607182418800017408, .float .f64 4602678819172646912, .float .f64 4652007308841189376, .int .i64 (E : Int), .int .i64 (R : Int)] 63) = W0 := ⟨_, rfl⟩
  have HB0 : Hid (BC W0 w2.heap.size 4607182418800017408 4602678819172646912 4652007308841189376 (E : Int) (R : Int) ∧ RD W0 pg 0 n (fun j => d[j]!) ∧ Up w W0) := by
    have u : Up w2 W0 := by rw [← hW0]; exact Up.alloc _ _
    exact ⟨by rw [← hW0]; exact BC.new w2 _ _ _ _ _, (HRD.out.up U2.out).up u, (U1.out.trans U2.out).trans u⟩
  rw [hW0]
  generalize w2.heap.size = gb at *
  clear hW0 HRD U1 U2
  go_loopw [16, 17] (fun v16 vi wr => ∃ (i cap : Nat) (p : Option Addr) (l : List Tg), i ≤ 12 ∧ vi = .int .i64 i ∧ v16 = .slice p i cap ∧ Hid (TW W0 wr (.slice p i cap) l)) (fun _ vi _ => 12 - (intOf vi).toNat)
  case atStart => exact ⟨0, 0, none, [], by omega, rfl, rfl, World.ownsRow_nil _ _ _ _, Up.refl _, fun t h => by cases h⟩
  case round =>
    obtain ⟨i, cap, p, l, hi, rfl, rfl, HT⟩ := hrel
    by_cases hx : i < nc ∧ i < nt ∧ i < na ∧ i < 12
    · obtain ⟨x1, x2, x3, x4⟩ := hx
      have HU : Hid (Up w wr) := HB0.out.2.2.trans HT.out.up
      obtain ⟨qc, oc, rfl, hcc⟩ := HV.out.1 (by omega)
      obtain ⟨qt, ot, rfl, hct⟩ := HV.out.2.1 (by omega)
      obtain ⟨qa, oa, rfl, hca⟩ := HV.out.2.2 (by omega)
      have k2 : wr.cell? ⟨qa, oa + i, none⟩ = some (.float .f64 (fa i)) := cell_up (hca i x3) HU.out
      have k0 : Hid (wr.cell? ⟨qc, oc + i, none⟩ = some (.int .i64 (fc i)) ∧ wr.cell? ⟨qt, ot + i, none⟩ = some (.int .i64 (ft i))) := ⟨cell_up (hcc i x1) HU.out, cell_up (hct i x2) HU.out⟩
      have lq : qc < W0.heap.size ∧ qt < W0.heap.size := by
        have q1 := World.block_lt_of_cell? w _ (hcc i x1)
        have q2 := World.block_lt_of_cell? w _ (hct i x2)
        have q3 := HB0.out.2.2.size
        simp only at q1 q2
        omega
      clear hcc hct hca
      generalize fa i = a0 at *
      generalize fc i = ci at *
      generalize ft i = ti at *
      have y1 : (i : Int) < (nc : Int) := by omega
      have y2 : (i : Int) < (nt : Int) := by omega
      have y3 : (i : Int) < (na : Int) := by omega
      have y4 : (i : Int) < 12 := by omega
      have y5 : (0 : Int) ≤ (i : Int) := by omega
      go_upto_region 11 with fail
      go_cut [81] from 44 to 100 (fun s81 wx => ∃ (b : Bool) (k : Nat), s81 = .bool b ∧ wx = wr.drewN k ∧ Hid (b = false → AmpOK a0))
      case first =>
        by_cases hf : Fnt a0
        · obtain ⟨hs, r, hr, h0⟩ := fnt_sub hf
          have F1 := fun w => run_fl_some (P := Try.prog) .sub 26 w hr
          cases hg : gtF (ab a0) (ab 6103021453049119613)
          · cases hl : ltF (ab a0) (ab 15326393489903895421)
            · have HA : Hid (AmpOK a0) := amp_ok ⟨r, hr⟩ hg hl hs
              go_wp2_with fail
              go_meet
              case rel => exact ⟨false, 0, rfl, rfl, fun _ => HA.out⟩
            · go_wp2_with fail
              go_meet
              case rel => exact ⟨true, 0, rfl, rfl, fun h => by cases h⟩
          · go_wp2_with fail
            go_meet
            case rel => exact ⟨true, 0, rfl, rfl, fun h => by cases h⟩
        · have hr : bin .sub (ab a0) (ab a0) = none := by
            rcases not_fnt hf with q | ⟨_, q⟩
            · rw [eqF_self] at q
              have : ab a0 = none := by
                cases e : isN a0
                · rw [e] at q; cases q
                · exact ab_none e
              rw [this]; rfl
            · exact q
          go_wp2_with ((with_reducible refine upon_fl (by simp) ?_); intro r k hr'
                       have h0 : eqF (ab r) (ab 0) = false := by (rw [hr'.out, hr]; rfl))
          go_meet
          case rel => exact ⟨true, k, rfl, rfl, fun h => by cases h⟩
      case rest =>
        obtain ⟨b, k, rfl, rfl, HA⟩ := hcut
        obtain ⟨sa, sa1, sa2, h4⟩ := size_is ci 100 (by omega) (by omega)
        obtain ⟨sb, sb1, sb2, h5⟩ := size_is ti 1000 (by omega) (by omega)
        have H4 : Hid (∀ w, Calls Try.prog 25 #[.int .i64 ci, .int .i64 100] w fun e w' => e = .returned (.int .i64 (sa : Int)) ∧ w' = w) := h4
        have H5 : Hid (∀ w, Calls Try.prog 25 #[.int .i64 ti, .int .i64 1000] w fun e w' => e = .returned (.int .i64 (sb : Int)) ∧ w' = w) := h5
        obtain ⟨c, hsa⟩ : ∃ c : Nat, c + 1 = sa := ⟨sa - 1, by omega⟩
        have hm := mid_back (c := c) (by omega)
        rw [hsa] at hm
        obtain ⟨tn, htn, _, _, _⟩ := thousandths (k := sb) (by omega)
        have F1 := fun w => run_fl_some (P := Try.prog) .sub 26 w hm
        have F2 := fun w => run_fl_some (P := Try.prog) .quo 26 w htn
        have HK : Hid (∀ a, AmpOK a → TK ⟨midN c, 0, a, tn, 0⟩) := fun a ha => ⟨c, sb, a, tn, rfl, by omega, by omega, htn, ha⟩
        obtain ⟨i0, hi0, hz0, hz1, hz2⟩ := info_parts info67
        have k1 := cell_up k0.out.1 (Up.drewN wr k)
        have k3 := cell_up k0.out.2 (Up.drewN wr k)
        have HT1 : Hid (TW W0 (wr.drewN k) (.slice p i cap) l) := HT.out.upw (Up.drewN _ _)
        generalize wr.drewN k = W at *
        clear k2 k0 HT HU h4 h5
        have HL : Hid (l.length = i) := by
          obtain ⟨_, _, he, _⟩ := own_form HT1.out.own
          simp only [Value.slice.injEq] at he
          exact he.2.1.symm
        have HO : Hid (W.ownsRow W0.heap.size 67 5 (.slice p i cap) i (l.flatMap te)) := by
          have := HT1.out.own
          unfold TO at this
          rw [HL.out] at this
          exact this
        have hle : W0.heap.size ≤ W.heap.size := HT1.out.up.size
        have ag : some qc ≠ (Value.slice p i cap).ownBlock ∧ some qt ≠ (Value.slice p i cap).ownBlock :=
          ⟨fun q => by have := (World.ownsRow.lt HO.out qc q.symm).1; omega, fun q => by have := (World.ownsRow.lt HO.out qt q.symm).1; omega⟩
        cases b
        · go_upto_region 13 with fail
          go_region_held3 (fun w' => w'.cell? ⟨qc, oc + i, none⟩ = some (.int .i64 ci) ∧ w'.cell? ⟨qt, ot + i, none⟩ = some (.int .i64 ti))
              (first
                | go_keep
                | exact ⟨keep_far hgrow ag.1 k1, keep_far hgrow ag.2 k3⟩)
              (first
                | (go_at_call 25; (with_reducible refine (H4.out _).mono ?_); rintro e w' ⟨rfl, hw⟩; subst w')
                | (go_at_call 25; (with_reducible refine (H5.out _).mono ?_); rintro e w' ⟨rfl, hw⟩; subst w')
                | ((refine step_append_lies _ (by rfl) _ _ _ (by rfl) W0.heap.size 67 i0 _ 5 40 Try.underlying65 hi0 hz0 hz1 hz2 rfl (by omega) (.slice p i cap) i _ (by rfl) ((HO.out.alloc _).drew)
                      ⟨W.heap.size, 0, none⟩ 1 1 (te ⟨midN c, 0, a0, tn, 0⟩) (by rfl) (by rfl) (World.news_of_block (cs := (te ⟨midN c, 0, a0, tn, 0⟩).toArray) (t := 67) (fr := (0, 0)) (heap_alloc_new W _)) (by simp [te, Value.oneCell'])
                      (by omega) (by unfold maxLen; omega) (by omega) (by simp; omega) (W.heap.size + 1) (by simp) ?_; intro gg cap' w1 hown1 hgrow hat hlt2)))
          all_goals
            have RO : Hid (TW W0 w1 (.slice (some ⟨gg, 0, none⟩) (i + 1) cap') (l ++ [⟨midN c, 0, a0, tn, 0⟩])) := TW.app (k := 1) HT1.out HL.out (HK.out _ (HA.out trivial)) hown1 hgrow
            clear hown1 hgrow hat hlt2 k1 k3 HT1 HO
            try go_wp2
            go_roundw
            case rel => exact ⟨i + 1, cap', _, _, by omega, by go_num, rfl, RO⟩
            case measure => simp [intOf]; omega
        · go_upto_region 13 with fail
          go_region_held3 (fun w' => w'.cell? ⟨qc, oc + i, none⟩ = some (.int .i64 ci) ∧ w'.cell? ⟨qt, ot + i, none⟩ = some (.int .i64 ti))
              (first
                | go_keep
                | exact ⟨keep_far hgrow ag.1 k1, keep_far hgrow ag.2 k3⟩)
              (first
                | (go_at_call 25; (with_reducible refine (H4.out _).mono ?_); rintro e w' ⟨rfl, hw⟩; subst w')
                | (go_at_call 25; (with_reducible refine (H5.out _).mono ?_); rintro e w' ⟨rfl, hw⟩; subst w')
                | ((refine step_append_lies _ (by rfl) _ _ _ (by rfl) W0.heap.size 67 i0 _ 5 40 Try.underlying65 hi0 hz0 hz1 hz2 rfl (by omega) (.slice p i cap) i _ (by rfl) ((HO.out.alloc _).drew)
                      ⟨W.heap.size, 0, none⟩ 1 1 (te ⟨midN c, 0, 4607182418800017408, tn, 0⟩) (by rfl) (by rfl) (World.news_of_block (cs := (te ⟨midN c, 0, 4607182418800017408, tn, 0⟩).toArray) (t := 67) (fr := (0, 0)) (heap_alloc_new W _)) (by simp [te, Value.oneCell'])
                      (by omega) (by unfold maxLen; omega) (by omega) (by simp; omega) (W.heap.size + 1) (by simp) ?_; intro gg cap' w1 hown1 hgrow hat hlt2)))
          all_goals
            have RO : Hid (TW W0 w1 (.slice (some ⟨gg, 0, none⟩) (i + 1) cap') (l ++ [⟨midN c, 0, 4607182418800017408, tn, 0⟩])) := TW.app (k := 1) HT1.out HL.out (HK.out _ (amp_one)) hown1 hgrow
            clear hown1 hgrow hat hlt2 k1 k3 HT1 HO
            try go_wp2
            go_roundw
            case rel => exact ⟨i + 1, cap', _, _, by omega, by go_num, rfl, RO⟩
            case measure => simp [intOf]; omega
    · have y5 : (0 : Int) ≤ (i : Int) := by omega
      have HI : Hid (i ≤ 12) := hi
      go_upto_region 8 with fail
      go_cut [63] from 44 to 100 (fun s63 wx => s63 = .bool false ∧ wx = wr)
      case first =>
        have hx' : nc ≤ i ∨ (i < nc ∧ nt ≤ i) ∨ (i < nc ∧ i < nt ∧ na ≤ i) ∨ (i < nc ∧ i < nt ∧ i < na ∧ 12 ≤ i) := by omega
        clear hx
        rcases hx' with x1 | ⟨x1, x2⟩ | ⟨x1, x2, x3⟩ | ⟨x1, x2, x3, x4⟩
        · have y1 : ¬ (i : Int) < (nc : Int) := by omega
          go_wp2_with fail
          go_meet
          case rel => exact ⟨rfl, rfl⟩
        · have y1 : (i : Int) < (nc : Int) := by omega
          have y2 : ¬ (i : Int) < (nt : Int) := by omega
          go_wp2_with fail
          go_meet
          case rel => exact ⟨rfl, rfl⟩
        · have y1 : (i : Int) < (nc : Int) := by omega
          have y2 : (i : Int) < (nt : Int) := by omega
          have y3 : ¬ (i : Int) < (na : Int) := by omega
          go_wp2_with fail
          go_meet
          case rel => exact ⟨rfl, rfl⟩
        · have y1 : (i : Int) < (nc : Int) := by omega
          have y2 : (i : Int) < (nt : Int) := by omega
          have y3 : (i : Int) < (na : Int) := by omega
          have y4 : ¬ (i : Int) < 12 := by omega
          go_wp2_with fail
          go_meet
          case rel => exact ⟨rfl, rfl⟩
      case rest =>
        obtain ⟨rfl, hwc⟩ := hcut
        subst wc
        clear hx hi
        have HBC := HB0.out.1.up HT.out.up
        obtain ⟨c0, c1, c2, c3, c4⟩ := HBC
        have HR : Hid (Calls Try.prog 27 #[.agg #[.float .f64 4607182418800017408, .float .f64 4602678819172646912, .float .f64 4652007308841189376, .int .i64 E, .int .i64 R], .slice (some ⟨pg, 0, none⟩) n cap0, .slice p i cap, .float .f64 0, .float .f64 0, .int .u64 1] wr (fun e w' => ∃ A B dd, ∃ V : Nat → C2, e = .returned (.tuple #[.slice (some ⟨A, 0, none⟩) R R, .int .i64 0]) ∧ Hid (MT w' A B R E dd (fun _ g => V g)) ∧ Hid (∀ g, P2 (V g) 362) ∧ Hid (Up wr w'))) := by
          obtain ⟨g1, g2, g3, g4, g5, g6, g7, g8⟩ := HN.out
          exact rows_tw HB0.out.2.1 HT.out HB1.out HI.out g3 g4 g2 (by omega) (by omega)
        have e4 : (R : Int) - (so : Int) = (sr : Int) := by omega
        go_wp2_with (first
          | (go_at_call 27; (with_reducible refine HR.out.mono ?_); rintro e w3 ⟨A, B, dd, V, rfl, HM, HP, U3⟩
             replace c3 := cell_up c3 U3.out
             replace c4 := cell_up c4 U3.out
             have HG : Hid (Calls Try.prog 22 #[.slice (some ⟨A, 0, none⟩) R R, .int .i64 so] w3 (GN w3 E so sr)) := by
               (obtain ⟨g1, g2, g3, g4, g5, g6, g7, g8⟩ := HN.out
                exact gone_call HM.out (fun g _ => HP.out g) (by omega) (by omega) (Nat.le_trans (Nat.mul_le_mul (show R ≤ 10 by omega) (show E ≤ 260 by omega)) (by omega)) (by omega) (by omega) g1 (by omega)))
          | (go_at_call 22; (with_reducible refine HG.out.mono ?_); rintro e w4 ⟨A2, B2, rfl, U4, HZ⟩
             replace c3 := cell_up c3 U4.out
             replace c4 := cell_up c4 U4.out))
        have UA : Hid (Up w w4) := ((HB0.out.2.2.trans HT.out.up).trans U3.out).trans U4.out
        clear HT HB0 HB1 HR HM HP U3 U4 HV c0 c1 c2
        go_loopw [136] (fun vi wx => ∃ k : Nat, k ≤ sr ∧ vi = .int .i64 k ∧ wx = w4) (fun vi _ => sr - (intOf vi).toNat)
        case atStart => exact ⟨0, by omega, rfl, rfl⟩
        case round =>
          obtain ⟨k, hk, rfl, hw⟩ := hrel
          subst wr
          rcases Nat.lt_or_ge k sr with hlt | hge
          · have q1 := (HZ.out k hlt).1
            have HC2 : Hid (∀ g, g < E → w4.cell? ⟨B2 (so + k), g, none⟩ = some (.complex .f64 0 0)) := (HZ.out k hlt).2
            generalize B2 (so + k) = b2 at *
            have z1 : (k : Int) < (sr : Int) := by omega
            have z2 : (0 : Int) ≤ (k : Int) := by omega
            go_wp2
            go_loopw [147] (fun vi wx => ∃ g : Nat, g ≤ E ∧ vi = .int .i64 g ∧ wx = w4) (fun vi _ => E - (intOf vi).toNat)
            case atStart => exact ⟨0, by omega, rfl, rfl⟩
            case round =>
              obtain ⟨g, hg, rfl, hw⟩ := hrel
              subst wr
              rcases Nat.lt_or_ge g E with hlt2 | hge2
              · have q2 := HC2.out g hlt2
                have z3 : (g : Int) < (E : Int) := by omega
                have z4 : (0 : Int) ≤ (g : Int) := by omega
                go_wp2_with (go_at_call 28; (with_reducible refine (t28z _).mono ?_); rintro e w' ⟨rfl, hw⟩; subst w')
                go_roundw
                case rel => exact ⟨g + 1, by omega, by go_num, trivial⟩
                case measure => simp [intOf]; omega
              · obtain rfl : g = E := by omega
                go_wp2
                go_roundw
                case rel => exact ⟨k + 1, by omega, by go_num, trivial⟩
                case measure => simp [intOf]; omega
          · obtain rfl : k = sr := by omega
            go_wp2
            go_ret
            exact ⟨rfl, UA⟩
end Go.Proofs.Ytgalgnopjcpocaa
