/- The walk of TopPeak. -/
import Derived.Test.YtfimolhndbfpgaaRf
namespace Go.Proofs.Ytfimolhndbfpgaa
open Go.ChangeShapes Go.WideShapes Go.ChangeAt Go.RowKit Go.Fl Ieee
attribute [local go_sem] run_store_float run_store_c isSome_set call29 call28 run_neg fold_eq fold_ne fold_lt fold_gt abs_eq

theorem want_of {S : Nat → Bool} {K D n d j : Nat} (hj : j + D + 1 = d + n) (h1 : D < d + n) (h2 : d < D + n) : peakC S K D n d = (K : Int) * ownZ S n j := by
  rcases Nat.lt_or_ge d D with h | h
  · obtain ⟨δ, hδ⟩ : ∃ δ, d + δ = D := ⟨D - d, by omega⟩
    rw [peak_low S K (δ := δ) (by omega) (by omega) hδ, show n - 1 - δ = j by omega]
  · obtain ⟨lag, rfl⟩ : ∃ lag, d = D + lag := ⟨d - D, by omega⟩
    rw [peak_high S K (by omega), show lag + n - 1 = j by omega]
theorem run_geq {P : Program} (t : TypeId) (x y : Nat) (w : World) : (binOp .geq t (.float .f64 x) (.float .f64 y)).run P w = .ok (.bool (gtF (ab x) (ab y) || eqF (ab x) (ab y))) w := by
  rw [← fold_gt, ← fold_eq]; rfl
attribute [local go_sem] run_geq
set_option maxRecDepth 100000 in
set_option maxHeartbeats 8000000 in
theorem t5 (bb bo len cap nn n : Nat) (p : Option Addr) (B S : Nat → Bool) (za zb zt : Int) (w : World) (hp : 0 < len → p = some ⟨bb, bo, none⟩) (hR : ∀ i, i < len → w.cell? ⟨bb, bo + i, none⟩ = some (.bool (B i))) (hS : S 0 = true) (hS1 : ∀ i, S (i + 1) = !B i) (hn : len ≤ 63 ∧ nn = len ∨ 63 < len ∧ nn = 63) (hl : len ≤ 9223372036854775807) (hnn : n = nn + 1) :
    Calls Try.prog 5 #[.slice p len cap, .int .i64 za, .int .i64 zb, .int .i64 zt] w (TU w) := by
  have n1 : 1 ≤ n := by omega
  have n2 : n ≤ 64 := by omega
  have C0 : Hid (Calls Try.prog 16 #[.slice p len cap] w (SG w S n)) := t16n bb bo len cap nn n p B S w hp hR hS hS1 hn hl hnn
  clear hp hR hS hS1 hn hnn hl
  go_enter Try.func5, Try.ntmps5
  go_wp2_with (first
    | (go_at_call 16; (with_reducible refine C0.out.mono ?_); rintro e w1 ⟨g0, c0, rfl, HP, HU⟩; clear C0)
    | (go_at_call 17; (with_reducible refine (t17d _ _).mono ?_); rintro e w2 ⟨D, rfl, rfl, HD⟩; have dD := HD.out; clear HD)
    | (go_at_call 17; (with_reducible refine (t17e _ _).mono ?_); rintro e w3 ⟨Bh, rfl, rfl, HBh⟩
       obtain ⟨L, hL⟩ : ∃ L, D + n + Bh = L := ⟨_, rfl⟩
       obtain ⟨L1, hL1⟩ : ∃ L1, L + 1 = L1 := ⟨_, rfl⟩
       have dB := HBh.out
       have eL : (D : Int) + (n : Int) + (Bh : Int) = L := by omega
       have eL1 : (L : Int) + 1 = L1 := by omega
       have HLn : Hid (D + n + Bh = L ∧ L + 1 = L1) := ⟨hL, hL1⟩
       have bL : L ≤ 500 := by omega
       have bL1 : L1 ≤ 501 := by omega
       clear hL hL1 HBh)
    | (go_at_call 17; (with_reducible refine (t17c _ _).mono ?_); rintro e w4 ⟨K, rfl, rfl, HK⟩
       have kK := HK.out
       clear HK)
    | ((with_reducible refine upon_make (n := L) (by omega) ?_); intro A wa HA)
    | ((with_reducible refine upon_make (n := L1) (by omega) ?_); intro T wt HT))
  obtain ⟨fk, hfk⟩ : ∃ fk, floatOfInt .f64 (K : Int) = fk := ⟨_, rfl⟩
  have FK : Hid (WH (ab fk) K) := by show WH _ _; rw [← hfk]; exact WH.int (by unfold P53; omega) (by unfold P53; omega)
  rw [hfk]
  clear hfk
  have HI : Hid (PJ w4 wt A T L L1 S K D 0 (List.replicate L (0, 0)) (List.replicate L1 (0, 0))) := PJ.start (DI.start HA.out HT.out)
  clear HA HT
  have ln := HLn.out
  have l1 : D + n ≤ L := by omega
  have l2 : D + 1 + n ≤ L1 := by omega
  have l3 : L1 = L + 1 := by omega
  have HL3 : Hid (L1 = L + 1) := l3
  clear ln l3 eL eL1
  go_loopw [55] (fun vi wr => ∃ (i : Nat) (da dt : List (Nat × Nat)), i ≤ n ∧ vi = .int .i64 i ∧ Hid (PJ w4 wr A T L L1 S K D i da dt)) (fun vi _ => n - (intOf vi).toNat)
  case atStart => exact ⟨0, _, _, by omega, rfl, HI⟩
  case round =>
    clear HI
    obtain ⟨w5, rfl⟩ : ∃ w5 : World, w5 = wr := ⟨_, rfl⟩
    obtain ⟨i, da, dt, hi2, rfl, HI⟩ := hrel
    by_cases hlt : i < n
    · obtain ⟨x, y, HX, hx⟩ : ∃ x y, Hid (sgnP (S i) = (x, y)) ∧ w5.cell? ⟨g0, i, none⟩ = some (.complex .f64 x y) := by
        have := (HP.out.1.up HI.out.di.up) i hlt
        rw [Nat.zero_add] at this
        exact ⟨_, _, rfl, this⟩
      obtain ⟨o1, ho1⟩ : ∃ o1, D + i = o1 := ⟨_, rfl⟩
      obtain ⟨o2, ho2⟩ : ∃ o2, D + 1 + i = o2 := ⟨_, rfl⟩
      have e1 : (D : Int) + (i : Int) = o1 := by omega
      have e2 : (o1 : Int) + 1 = o2 := by omega
      have z1 : (o1 : Int) < (L : Int) := by omega
      have z2 : (o2 : Int) < (L1 : Int) := by omega
      have z3 : (i : Int) < (n : Int) := by omega
      have i1 : (w5.cell? ⟨A, o1, none⟩).isSome = true := by rw [HI.out.di.ans.cell (by rw [HI.out.di.ans.len]; omega)]; rfl
      have f1 := HI.out.di.ans.frz o1
      have i2 : (w5.cell? ⟨T, o2, none⟩).isSome = true := by rw [HI.out.di.ter.cell (by rw [HI.out.di.ter.len]; omega)]; rfl
      have f2 := HI.out.di.ter.frz o2
      have HO1 : Hid (D + i = o1) := ho1
      have HO2 : Hid (D + 1 + i = o2) := ho2
      clear ho1 ho2
      go_wp2_with (first
        | (go_at_call 18; (with_reducible refine (t18 _ _ _ _ _).mono ?_); rintro e w6 ⟨r, s, k6, rfl, rfl, hr, hs⟩))
      rename_i ra sa ka hra hsa
      have W1 := sign_mul (by omega) FK HX hra hsa
      have W3 := sign_mul (by omega) FK HX hr hs
      have PS := HI.out.step (k := ka) (k2 := k6) W1 W3 (by omega) (by omega)
      rw [HO1.out, HO2.out] at PS
      exact ⟨⟨i + 1, _, _, by omega, by go_num, PS⟩, by simp [intOf]; omega⟩
    · obtain rfl : n = i := by omega
      obtain ⟨M, hM, hLe⟩ := least_ex (K := L + n - 1) (by omega)
      obtain ⟨P, hP⟩ : ∃ P, P = 2 ^ M := ⟨_, rfl⟩
      have hP2 : P ≤ 1024 := by rw [hP]; exact Nat.pow_le_pow_right (n := 2) (by omega) hM
      have HPM : Hid (P = 2 ^ M) := hP
      have HLe : Hid (Least (L + n - 1) M) := hLe
      have HpL : Hid (L + n - 1 ≤ 2 ^ M) := hLe.1
      clear hP hLe
      have a1 : Hid (∀ j, j < L → W2 (ab2 da[j]!) (peakF S K D n j)) := HI.out.at1
      have a2 : Hid (∀ j, j < L1 → W2 (ab2 dt[j]!) (peakF S K (D + 1) n j)) := HI.out.at2
      have RA : Hid (RD w5 A 0 L (fun i => da[i]!)) := rd_take HI.out.di.ans (Nat.le_refl _)
      have RT : Hid (RD w5 T 0 L1 (fun i => dt[i]!)) := rd_take HI.out.di.ter (Nat.le_refl _)
      have RP : Hid (RD w5 g0 0 n (fun i => sgnP (S i))) := HP.out.1.up HI.out.di.up
      have nc0 : n ≤ c0 := HP.out.2
      have U5 : Hid (Up w w5) := HU.out.trans HI.out.di.up
      clear HI HP HU hlt hi2
      have hw1 : L * n ≤ 16777216 := by have : L * n ≤ 500 * 64 := Nat.mul_le_mul bL n2
                                        omega
      have hw2 : L1 * n ≤ 16777216 := by have : L1 * n ≤ 501 * 64 := Nat.mul_le_mul bL1 n2
                                         omega
      obtain ⟨M2, hM2⟩ : ∃ M2, M2 = 2 * n - 1 := ⟨_, rfl⟩
      have eM2 : 2 * (n : Int) - 1 = M2 := by omega
      have HM2 : Hid (M2 = 2 * n - 1) := hM2
      have bM2 : M2 ≤ 200 := by omega
      clear hM2
      have Lz : (D : Int) < (L : Int) := by omega
      have kz : K ≤ 1000 := kK.2
      go_wp2_with (first
        | (go_at_call 7; (with_reducible refine (t7 _ _ _ _ _ _ _ _ _ _ _ RA.out RP.out (Nat.le_refl _) n1 (by omega) (by omega) hw1).mono ?_); rintro e w6 ⟨v6, dy, rfl, r6, y6, q6⟩
           have l6 := (rowsL q6.out).1
           obtain ⟨gy, cy, hv6, hc6⟩ := row_form r6.out l6 (by omega)
           subst hv6
           have AY : Hid (∀ p, p < L → W2 (ab2 dy[p]!) (peakC S K D n p)) := row_peak q6.out (fun p hp => held_peak (by omega) (by omega) (by omega) hp a1.out)
           have RT6 : Hid (RD w6 T 0 L1 (fun i => dt[i]!)) := RT.out.up y6.out
           have RP6 : Hid (RD w6 g0 0 n (fun i => sgnP (S i))) := RP.out.up y6.out
           have RA6 : Hid (RD w6 A 0 L (fun i => da[i]!)) := RA.out.up y6.out
           have U6 : Hid (Up w w6) := U5.out.trans y6.out
           clear RT RP RA q6 y6)
        | (go_at_call 7; (with_reducible refine (t7 _ _ _ _ _ _ _ _ _ _ _ RT6.out RP6.out (Nat.le_refl _) n1 (by omega) (by omega) hw2).mono ?_); rintro e w7 ⟨v7, dzz, rfl, r7, y7, q7⟩
           have l7 := (rowsL q7.out).1
           obtain ⟨gz, cz, hv7, hc7⟩ := row_form r7.out l7 (by omega)
           subst hv7
           have AZ : Hid (∀ p, p < L1 → W2 (ab2 dzz[p]!) (peakC S K (D + 1) n p)) := row_peak q7.out (fun p hp => held_peak (by omega) (by omega) (by omega) hp a2.out)
           have RY7 : Hid (CRow _ w7 (.slice (some ⟨gy, 0, none⟩) L cy) dy) := r6.out.up y7.out
           have RP7 : Hid (RD w7 g0 0 n (fun i => sgnP (S i))) := RP6.out.up y7.out
           have RA7 : Hid (RD w7 A 0 L (fun i => da[i]!)) := RA6.out.up y7.out
           have U7 : Hid (Up w w7) := U6.out.trans y7.out
           clear RT6 RP6 RA6 q7 r6 y7)
        | (go_at_call 10; (with_reducible refine (t10 M P _ _ _ _ _ _ _ _ _ _ _ RA7.out RP7.out (by omega) n1 HPM.out HLe.out (by omega)).mono ?_); rintro e w8 ⟨gq, dq, rfl, HQ, y8⟩
           have RY8 : Hid (CRow _ w8 (.slice (some ⟨gy, 0, none⟩) L cy) dy) := RY7.out.up y8.out
           have RZ8 : Hid (CRow _ w8 (.slice (some ⟨gz, 0, none⟩) L1 cz) dzz) := r7.out.up y8.out
           have RP8 : Hid (RD w8 g0 0 n (fun i => sgnP (S i))) := RP7.out.up y8.out
           have U8 : Hid (Up w w8) := U7.out.trans y8.out
           clear RA7 RP7 RY7 r7 y8)
        | (go_at_call 19; (with_reducible refine (t19 _ _ _ _ _ _ RP8.out n1 (by omega) nc0).mono ?_); rintro e w9 ⟨v9, dw, rfl, r9, y9, q9⟩
           have l9 := q9.out.1
           rw [← HM2.out] at l9
           obtain ⟨gw, cw, hv9, hc9⟩ := row_form r9.out l9 (by omega)
           subst hv9
           have AO : Hid (∀ j, j < M2 → W2 (ab2 dw[j]!) (ownZ S n j)) := fun j hj => by rw [q9.out.2 j (by have := HM2.out; omega)]; exact own_whole S (by omega) j
           have RY9 : Hid (CRow _ w9 (.slice (some ⟨gy, 0, none⟩) L cy) dy) := RY8.out.up y9.out
           have RZ9 : Hid (CRow _ w9 (.slice (some ⟨gz, 0, none⟩) L1 cz) dzz) := RZ8.out.up y9.out
           have RQ9 : Hid (RD w9 gq 0 L (fun i => dq[i]!)) := HQ.out.1.up y9.out
           have AQ : Hid (∀ i, i < L → ab2 dq[i]! = quickF M (fill (fun i => da[i]!) L) (fill (fun i => sgnP (S i)) n) i) := HQ.out.2
           have U9 : Hid (Up w w9) := U8.out.trans y9.out
           clear RP8 RY8 RZ8 HQ q9 y9))
      have LY : Hid (dy.length = L) := RY9.out.len
      have LZ : Hid (dzz.length = L1) := RZ9.out.len
      obtain ⟨xd, yd, hxd⟩ : ∃ x y, dy[D]! = (x, y) := ⟨_, _, rfl⟩
      have HYD : Hid (W2 (ab xd, ab yd) ((n : Int) * K)) := by
        have := AY.out D (by omega)
        rw [hxd, peak_at] at this
        exact this
      have HXD : Hid (dy[D]! = (xd, yd)) := hxd
      clear hxd hw1 hw2 HLn
      generalize (D : Int) + 1 = dp
      go_loopw [139] (fun vi wr => ∃ d : Nat, d ≤ L ∧ vi = .int .i64 d ∧ Hid (Up w9 wr)) (fun vi _ => L - (intOf vi).toNat)
      case atStart => exact ⟨0, by omega, rfl, Up.refl _⟩
      case round =>
        obtain ⟨d, hd, rfl, HV⟩ := hrel
        have cD := (RY9.out.up HV.out).cell (i := D) (by have := LY.out; omega)
        rw [HXD.out] at cD
        simp only at cD
        by_cases hlt : d < L
        · have dz : (d : Int) < (L : Int) := by omega
          have d0 : (0 : Int) ≤ (d : Int) := by omega
          obtain ⟨d1, hd1⟩ : ∃ d1, d + 1 = d1 := ⟨_, rfl⟩
          have ed1 : (d : Int) + 1 = d1 := by omega
          have d1z : (d1 : Int) < (L1 : Int) := by have := HL3.out; omega
          have d10 : (0 : Int) ≤ (d1 : Int) := by omega
          have d1b : d1 ≤ 501 := by omega
          have d1w : IntKind.i64.wrap (d1 : Int) = d1 := i64_id (by omega)
          have D0 : (0 : Int) ≤ (D : Int) := by omega
          obtain ⟨x, y, hxy⟩ : ∃ x y, dy[d]! = (x, y) := ⟨_, _, rfl⟩
          have cY := (RY9.out.up HV.out).cell (i := d) (by have := LY.out; omega)
          have HY0 := AY.out d hlt
          rw [hxy] at cY HY0
          simp only at cY
          have HY : Hid (W2 (ab x, ab y) (peakC S K D n d)) := HY0
          obtain ⟨zx, zy, hzxy⟩ : ∃ x y, dzz[d1]! = (x, y) := ⟨_, _, rfl⟩
          have cZ := (RZ9.out.up HV.out).cell (i := d1) (by have := LZ.out; omega)
          have HZ0 := AZ.out d1 (by omega)
          rw [hzxy] at cZ HZ0
          simp only at cZ
          rw [← hd1, peak_move] at HZ0
          obtain ⟨qzx, qzy⟩ := same_w2 HZ0 HY0
          obtain ⟨qx, qy, hqxy⟩ : ∃ x y, dq[d]! = (x, y) := ⟨_, _, rfl⟩
          have cQ := (RQ9.out.up HV.out) d hlt
          rw [Nat.zero_add] at cQ
          simp only [hqxy] at cQ
          have cQ' : wr.cell? ⟨gq, d, none⟩ = some (.complex .f64 qx qy) := cQ
          obtain ⟨lu, lv, lr, ll, LVh⟩ : ∃ u v ra lm, LV qx qy x y fk u v ra lm := by
            have hq := quick_peak hM kK.1 kz n2 n1 l1 hlt HpL.out a1.out
            rw [← AQ.out d hlt] at hq
            exact last_vals kK.1 kz hq (by rw [hqxy]; rfl) HY0 (peak_size n2 kz) FK.out
          have ls : ∀ w, (binOp .sub 28 (.complex .f64 qx qy) (.complex .f64 x y)).run Try.prog w = .ok (.complex .f64 lu lv) w := fun w => run_csub_some 28 w LVh.s1 LVh.s2
          have lmu : ∀ w, (binOp .mul 26 (.float .f64 4517329193108106637) (.float .f64 fk)).run Try.prog w = .ok (.float .f64 ll) w := fun w => run_fl_some .mul 26 w LVh.ml
          have lgt := LVh.gt
          have LA : Hid (absF (ab lu) (ab lv) = some lr) := LVh.mg
          clear LVh
          clear cQ hqxy hzxy HZ0 hd1
          obtain ⟨v1, hv1, _⟩ := abs2_val HY0 (peak_size n2 kz)
          obtain ⟨v2, hv2, _⟩ := abs2_val HYD.out (by rw [← peak_at S K D n]; exact peak_size n2 kz)
          have V1 : Hid (abs2F (ab x) (ab y) = some v1) := hv1
          have V2 : Hid (abs2F (ab xd) (ab yd) = some v2) := hv2
          clear hv1 hv2 HY0 hxy
          obtain ⟨lag, hlag⟩ : ∃ lag : Int, (d : Int) - (D : Int) = lag := ⟨_, rfl⟩
          by_cases c1 : d + n ≤ D
          · have lg1 : ¬ -(n : Int) < lag := by omega
            obtain ⟨qw1, qw2⟩ := want_none HY (peak_far S K (Or.inl c1))
            have hdD : d ≠ D := by omega
            clear c1
            have dd1 : ((d : Int) == (D : Int)) = false := by rw [beq_eq_false_iff_ne]; omega
            have dd2 : ¬ (d : Int) = (D : Int) := by omega
            have dd4 : ((d : Int) != (D : Int)) = true := by rw [bne_iff_ne]; exact dd2
            obtain ⟨g1, g2, g3⟩ := below_top HY HYD V1 V2 hdD n1 n2 kK.1 kz
            have g4 : (gtF (ab v1) (ab v2) || eqF (ab v1) (ab v2)) = false := by rw [g1, g2]; rfl
            clear hdD
            go_wp2_with fail
            go_quiet (first | (go_at_call 20; (with_reducible refine Calls.quiet_of (t20q (a := x) (b := y) V1.out _))) | (go_at_call 20; (with_reducible refine Calls.quiet_of (t20q (a := xd) (b := yd) V2.out _))) | (go_at_call 20; (with_reducible refine t20r (a := x) (b := y) V1.out _)) | (go_at_call 20; (with_reducible refine t20r (a := xd) (b := yd) V2.out _)))
            go_wp2_with fail
            go_quiet (first | (go_at_call 8; refine t8r LA.out _))
            go_wp2
            go_roundw
            case rel => exact ⟨d + 1, by omega, by go_num, HV.out.trans (Up.drewN _ _)⟩
            case measure => simp [intOf]; omega
          · by_cases c2 : D + n ≤ d
            · have lg1 : -(n : Int) < lag := by omega
              have lg2 : ¬ lag < (n : Int) := by omega
              obtain ⟨qw1, qw2⟩ := want_none HY (peak_far S K (Or.inr c2))
              have hdD : d ≠ D := by omega
              clear c1 c2
              have dd1 : ((d : Int) == (D : Int)) = false := by rw [beq_eq_false_iff_ne]; omega
              have dd2 : ¬ (d : Int) = (D : Int) := by omega
              have dd4 : ((d : Int) != (D : Int)) = true := by rw [bne_iff_ne]; exact dd2
              obtain ⟨g1, g2, g3⟩ := below_top HY HYD V1 V2 hdD n1 n2 kK.1 kz
              have g4 : (gtF (ab v1) (ab v2) || eqF (ab v1) (ab v2)) = false := by rw [g1, g2]; rfl
              clear hdD
              go_wp2_with fail
              go_quiet (first | (go_at_call 20; (with_reducible refine Calls.quiet_of (t20q (a := x) (b := y) V1.out _))) | (go_at_call 20; (with_reducible refine Calls.quiet_of (t20q (a := xd) (b := yd) V2.out _))) | (go_at_call 20; (with_reducible refine t20r (a := x) (b := y) V1.out _)) | (go_at_call 20; (with_reducible refine t20r (a := xd) (b := yd) V2.out _)))
              go_wp2_with fail
              go_quiet (first | (go_at_call 8; refine t8r LA.out _))
              go_wp2
              go_roundw
              case rel => exact ⟨d + 1, by omega, by go_num, HV.out.trans (Up.drewN _ _)⟩
              case measure => simp [intOf]; omega
            · have lg1 : -(n : Int) < lag := by omega
              have lg2 : lag < (n : Int) := by omega
              obtain ⟨j, hj⟩ : ∃ j : Nat, j + D + 1 = d + n := ⟨d + n - 1 - D, by omega⟩
              have ej : lag + (n : Int) - 1 = j := by omega
              have jz : (j : Int) < (M2 : Int) := by have := HM2.out; omega
              have jz0 : (0 : Int) ≤ (j : Int) := by omega
              have HC : Hid (peakC S K D n d = (K : Int) * ownZ S n j) := want_of hj (by omega) (by omega)
              obtain ⟨ox, oy, hoxy⟩ : ∃ x y, dw[j]! = (x, y) := ⟨_, _, rfl⟩
              have cO := (r9.out.up HV.out).cell (i := j) (by rw [l9]; omega)
              have HO0 := AO.out j (by omega)
              rw [hoxy] at cO HO0
              simp only at cO
              have HO : Hid (W2 (ab ox, ab oy) (ownZ S n j)) := HO0
              clear HO0 hoxy c1 c2 hj
              by_cases hdD : d = D
              · subst hdD
                have dd4 : ((d : Int) != (d : Int)) = false := by simp
                go_wp2_with (go_at_call 18; (with_reducible refine (t18 _ _ _ _ _).mono ?_); rintro e w11 ⟨r0, s0, k0, rfl, rfl, hr0, hs0⟩; obtain ⟨qw1, qw2⟩ := want_eq HY HO FK HC (Nat.le_trans (own_bd S n j) n2) kz hr0 hs0)
                go_quiet (first | (go_at_call 20; (with_reducible refine Calls.quiet_of (t20q (a := x) (b := y) V1.out _))) | (go_at_call 20; (with_reducible refine Calls.quiet_of (t20q (a := xd) (b := yd) V2.out _))) | (go_at_call 20; (with_reducible refine t20r (a := x) (b := y) V1.out _)) | (go_at_call 20; (with_reducible refine t20r (a := xd) (b := yd) V2.out _)))
                go_wp2_with fail
                go_quiet (first | (go_at_call 8; refine t8r LA.out _))
                go_wp2
                go_roundw
                case rel => exact ⟨d + 1, by omega, by go_num, HV.out.trans (Up.drewN _ _)⟩
                case measure => simp [intOf]; omega
              · skip
                have dd1 : ((d : Int) == (D : Int)) = false := by rw [beq_eq_false_iff_ne]; omega
                have dd2 : ¬ (d : Int) = (D : Int) := by omega
                have dd4 : ((d : Int) != (D : Int)) = true := by rw [bne_iff_ne]; exact dd2
                obtain ⟨g1, g2, g3⟩ := below_top HY HYD V1 V2 hdD n1 n2 kK.1 kz
                have g4 : (gtF (ab v1) (ab v2) || eqF (ab v1) (ab v2)) = false := by rw [g1, g2]; rfl
                clear hdD
                go_wp2_with (go_at_call 18; (with_reducible refine (t18 _ _ _ _ _).mono ?_); rintro e w11 ⟨r0, s0, k0, rfl, rfl, hr0, hs0⟩; obtain ⟨qw1, qw2⟩ := want_eq HY HO FK HC (Nat.le_trans (own_bd S n j) n2) kz hr0 hs0)
                go_quiet (first | (go_at_call 20; (with_reducible refine Calls.quiet_of (t20q (a := x) (b := y) V1.out _))) | (go_at_call 20; (with_reducible refine Calls.quiet_of (t20q (a := xd) (b := yd) V2.out _))) | (go_at_call 20; (with_reducible refine t20r (a := x) (b := y) V1.out _)) | (go_at_call 20; (with_reducible refine t20r (a := xd) (b := yd) V2.out _)))
                go_wp2_with fail
                go_quiet (first | (go_at_call 8; refine t8r LA.out _))
                go_wp2
                go_roundw
                case rel => exact ⟨d + 1, by omega, by go_num, HV.out.trans (Up.drewN _ _)⟩
                case measure => simp [intOf]; omega
        · obtain rfl : d = L := by omega
          go_wp2_with ((with_reducible refine upon_cmul ?_); intro r s kk hr hs; obtain ⟨t1, t2⟩ := top_eq HYD FK n2 kz hr hs)
          go_ret
          exact ⟨rfl, (U9.out.trans HV.out).trans (Up.drewN _ _)⟩
end Go.Proofs.Ytfimolhndbfpgaa
