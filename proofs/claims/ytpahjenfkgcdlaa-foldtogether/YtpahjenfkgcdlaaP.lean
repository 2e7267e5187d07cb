/- The reference: how far, what is refused first, Near. -/
import Derived.Test.YtpahjenfkgcdlaaN
namespace Go.Proofs.Ytpahjenfkgcdlaa
open Go.ChangeShapes Go.WideShapes Go.ChangeAt Go.RowKit

theorem t34 (x r m : Int) (hm : 1 ≤ m) (hm2 : m ≤ 1099511627776) (w : World) : Calls Try.prog 34 #[.int .i64 x, .int .i64 r, .int .i64 m] w fun e w' => e = .returned (.int .i64 (far x r m)) ∧ w' = w := by
  have x0 := Int.emod_nonneg x (show m ≠ 0 by omega)
  have x1 := Int.emod_lt_of_pos x (show 0 < m by omega)
  have r0 := Int.emod_nonneg r (show m ≠ 0 by omega)
  have r1 := Int.emod_lt_of_pos r (show 0 < m by omega)
  have d0 := Int.emod_nonneg (x - r) (show m ≠ 0 by omega)
  have d1 := Int.emod_lt_of_pos (x - r) (show 0 < m by omega)
  have hs := far_sub (x := x) (r := r) hm
  obtain ⟨f1, f2⟩ := far_min' (x := x) (r := r) hm
  obtain ⟨xm, hx⟩ : ∃ t, x % m = t := ⟨_, rfl⟩
  obtain ⟨rm, hr⟩ : ∃ t, r % m = t := ⟨_, rfl⟩
  obtain ⟨d, hd⟩ : ∃ t, (x - r) % m = t := ⟨_, rfl⟩
  rw [hx, hr, hd] at hs
  rw [hx] at x0 x1
  rw [hr] at r0 r1
  rw [hd] at d0 d1 f1 f2
  have HF : Hid ((m - d < d → m - d = far x r m) ∧ (¬ m - d < d → d = far x r m)) := ⟨f1, f2⟩
  clear f1 f2 hd
  go_enter Try.func34, Try.ntmps34
  go_wp2_with (first
    | (go_at_call 30; (with_reducible refine (t30 x m (by omega) _).mono ?_); rintro e w1 ⟨rfl, rfl⟩; rw [hx])
    | (go_at_call 30; (with_reducible refine (t30 r m (by omega) _).mono ?_); rintro e w1 ⟨rfl, rfl⟩; rw [hr])
    | (go_at_call 30; (with_reducible refine (t30 (xm - rm) m (by omega) _).mono ?_); rintro e w1 ⟨rfl, rfl⟩; rw [hs]))
  all_goals go_ret
  · exact ⟨by rw [← HF.out.1 (by assumption)]; rfl, rfl⟩
  · exact ⟨by rw [← HF.out.2 (by assumption)]; rfl, rfl⟩
theorem t34q {x r m v : Int} {w : World} (hm : 1 ≤ m) (hm2 : m ≤ 1099511627776) (h : far x r m = v) (n : Nat) : Calls Try.prog 34 #[.int .i64 x, .int .i64 r, .int .i64 m] (w.drewN n) fun e w' => e = .returned (.int .i64 v) ∧ ∃ k, w' = (w.drewN n).drewN k :=
  (t34 x r m hm hm2 _).mono fun e w' h' => ⟨by rw [h'.1, h], 0, h'.2⟩
/-- What is refused first. -/
def badC (m : Nat → Int) (n1 n2 : Nat) : Int := if 8 < min n1 n2 then 3 else ringsE m (min n1 n2)
theorem ringsE_in (m : Nat → Int) : ∀ n, ringsE m n = 0 ∨ ringsE m n = 2
  | 0 => Or.inl rfl
  | n + 1 => by
    have := ringsE_in m n
    unfold ringsE
    split
    · exact this
    · split
      · exact Or.inr rfl
      · exact Or.inl rfl
theorem t33b (p q : Option Addr) (n1 n2 c1 c2 : Nat) (w : World) (h8 : 8 < min n1 n2) : Calls Try.prog 33 #[.slice p n1 c1, .slice q n2 c2] w fun e w' => e = .returned (.int .i64 3) ∧ w' = w := by
  have h8i : (8 : Int) < ((min n1 n2 : Nat) : Int) := by omega
  have H28 : Hid (∀ w, _) := fun w => t28 p q n1 n2 c1 c2 w
  generalize min n1 n2 = k at *
  go_enter Try.func33, Try.ntmps33
  go_wp2_with (go_at_call 28; (with_reducible refine (H28.out _).mono ?_); rintro e w ⟨rfl, rfl⟩)
  go_ret
  exact ⟨rfl, rfl⟩
set_option maxHeartbeats 1000000 in
theorem t33a (p q : Option Addr) (n1 n2 c1 c2 : Nat) (m : Nat → Int) (w : World) (h8 : min n1 n2 ≤ 8) (hm : IR w q n2 m) : Calls Try.prog 33 #[.slice p n1 c1, .slice q n2 c2] w fun e w' => e = .returned (.int .i64 (ringsE m (min n1 n2))) ∧ w' = w := by
  have H28 : Hid (∀ w, _) := fun w => t28 p q n1 n2 c1 c2 w
  obtain ⟨k, hk⟩ : ∃ k, min n1 n2 = k := ⟨_, rfl⟩
  have hk2 : k ≤ n2 := by omega
  rw [hk] at H28 ⊢
  have HM : Hid (IR w q n2 m) := hm
  have HK : (k : Int) ≤ 8 := by omega
  obtain ⟨S, hS⟩ : ∃ S, ringsE m k = S := ⟨_, rfl⟩
  rw [hS]
  have HS : Hid (ringsE m k = S) := hS
  clear hS hm hk h8
  go_enter Try.func33, Try.ntmps33
  go_wp2_with (go_at_call 28; (with_reducible refine (H28.out _).mono ?_); rintro e w ⟨rfl, rfl⟩)
  go_loopw [6] (fun vi wr => ∃ i : Nat, i ≤ k ∧ vi = .int .i64 i ∧ Hid (ringsE m i = 0) ∧ w = wr) (fun vi _ => k - (intOf vi).toNat)
  case atStart => exact ⟨0, by omega, rfl, rfl, rfl⟩
  case round =>
    obtain ⟨i, hi, rfl, HI, hw⟩ := hrel
    subst hw
    by_cases hlt : i < k
    · obtain ⟨b2, o2, rfl, cm⟩ := HM.out i (by omega)
      have HLT : Hid (i < k) := hlt
      have hiz : (i : Int) < (k : Int) := by omega
      have hiz2 : (i : Int) < (n2 : Int) := by omega
      have hiz0 : (0 : Int) ≤ (i : Int) := by omega
      obtain ⟨mi, hmi⟩ : ∃ t, m i = t := ⟨_, rfl⟩
      rw [hmi] at cm
      by_cases hg : 1 ≤ mi ∧ mi ≤ 1099511627776
      · obtain ⟨hg1, hg2⟩ := hg
        have HN : Hid (ringsE m (i + 1) = 0) := rings_next HI.out (by rw [hmi]; omega)
        go_wp2
        go_roundw
        case rel => exact ⟨i + 1, HLT.out, by go_num, HN, by simp⟩
        case measure => have := HLT.out; simp [intOf]; omega
      · have hg' : mi < 1 ∨ 1099511627776 < mi := by omega
        have HN : Hid (S = 2) := by
          have := rings_bad HI.out (by rw [hmi]; exact hg') (k - (i + 1))
          rw [show i + 1 + (k - (i + 1)) = k by omega, HS.out] at this
          exact this
        clear hg
        rcases hg' with hg' | hg'
        · go_wp2
          go_ret
          exact ⟨by rw [HN.out]; rfl, rfl⟩
        · go_wp2
          go_ret
          exact ⟨by rw [HN.out]; rfl, rfl⟩
    · obtain rfl : i = k := by omega
      go_wp2
      go_ret
      exact ⟨by rw [← HS.out, HI.out]; rfl, rfl⟩
theorem t33 (p q : Option Addr) (n1 n2 c1 c2 : Nat) (m : Nat → Int) (w : World) (hm : IR w q n2 m) : Calls Try.prog 33 #[.slice p n1 c1, .slice q n2 c2] w fun e w' => e = .returned (.int .i64 (badC m n1 n2)) ∧ w' = w := by
  by_cases h : min n1 n2 ≤ 8
  · rw [badC, if_neg (by omega)]
    exact t33a p q n1 n2 c1 c2 m w h hm
  · rw [badC, if_pos (by omega)]
    exact t33b p q n1 n2 c1 c2 w (by omega)
theorem ringsC_bad (m : Nat → Int) (n1 n2 : Nat) (bad : Bool) (most : Int) : ringsC m n1 n2 bad most = if badC m n1 n2 ≠ 0 then badC m n1 n2 else if bad then 2 else if 4194304 < most then 3 else 0 := by
  unfold ringsC badC
  by_cases h : 8 < min n1 n2
  · rw [if_pos h, if_pos h, if_pos (by decide)]
  · rw [if_neg h, if_neg h]
theorem worst_mono (r m : Nat → Int) (x : Int) {i : Nat} : ∀ n, worst r m x i ≤ worst r m x (i + n)
  | 0 => Int.le_refl _
  | n + 1 => by
    have := worst_mono r m x (i := i) n
    rw [← Nat.add_assoc, worst]
    omega
set_option maxHeartbeats 4000000 in
theorem t17 (p q : Option Addr) (n1 n2 c1 c2 : Nat) (r m : Nat → Int) (off most : Int) (w : World) (hr : IR w p n1 r) (hm : IR w q n2 m) : Calls Try.prog 17 #[.slice p n1 c1, .slice q n2 c2, .int .i64 off, .int .i64 most] w (NearP w (ringsC m n1 n2 (decide (off < 0) || decide (most < 0)) most) r m (min n1 n2) off most) := by
  have HC := ringsC_bad m n1 n2 (decide (off < 0) || decide (most < 0)) most
  obtain ⟨C, hC⟩ : ∃ C, ringsC m n1 n2 (decide (off < 0) || decide (most < 0)) most = C := ⟨_, rfl⟩
  have H33 : Hid (∀ w, IR w q n2 m → _) := fun w h => t33 p q n1 n2 c1 c2 m w h
  have HCK : Hid (ringsC m n1 n2 (decide (off < 0) || decide (most < 0)) most = C) := hC
  rw [hC] at HC ⊢
  have H28 : Hid (∀ w, _) := fun w => t28 p q n1 n2 c1 c2 w
  have HR : Hid (IR w p n1 r) := hr
  have HM : Hid (IR w q n2 m) := hm
  obtain ⟨k, hk⟩ : ∃ k, min n1 n2 = k := ⟨_, rfl⟩
  have HK : Hid (min n1 n2 = k) := hk
  rw [hk] at H28 ⊢
  obtain ⟨B, hB⟩ : ∃ B, badC m n1 n2 = B := ⟨_, rfl⟩
  rw [hB] at HC H33
  clear hC hr hm hk hB
  by_cases hb : B = 0
  · subst hb
    rw [if_neg (by simp)] at HC
    by_cases hneg : off < 0 ∨ most < 0
    · have HC2 : Hid (nearC C r m k off most = 2) := by
        show _ = _
        have : C = 2 := by
          rw [HC, if_pos]
          simp only [Bool.or_eq_true, decide_eq_true_eq]; exact hneg
        rw [this]; rfl
      clear HC HCK
      rcases hneg with hneg | hneg
      · go_enter Try.func17, Try.ntmps17
        go_wp2_with (go_at_call 33; (with_reducible refine (H33.out _ HM.out).mono ?_); rintro e w ⟨rfl, rfl⟩)
        go_ret2
        exact ⟨Up.refl _, Or.inl ⟨by rw [HC2.out]; decide, by rw [HC2.out]; rfl⟩⟩
      · by_cases ho : off < 0
        · go_enter Try.func17, Try.ntmps17
          go_wp2_with (go_at_call 33; (with_reducible refine (H33.out _ HM.out).mono ?_); rintro e w ⟨rfl, rfl⟩)
          go_ret2
          exact ⟨Up.refl _, Or.inl ⟨by rw [HC2.out]; decide, by rw [HC2.out]; rfl⟩⟩
        · go_enter Try.func17, Try.ntmps17
          go_wp2_with (go_at_call 33; (with_reducible refine (H33.out _ HM.out).mono ?_); rintro e w ⟨rfl, rfl⟩)
          go_ret2
          exact ⟨Up.refl _, Or.inl ⟨by rw [HC2.out]; decide, by rw [HC2.out]; rfl⟩⟩
    · have hm1 : 0 ≤ most ∧ 0 ≤ off := by omega
      have hnb : (decide (off < 0) || decide (most < 0)) = false := by
        simp only [Bool.or_eq_false_iff, decide_eq_false_iff_not]; omega
      rw [hnb] at HC
      clear hneg
      by_cases hbig : 4194304 < most
      · have HC2 : Hid (nearC C r m k off most = 3) := by
          show _ = _
          rw [HC, if_neg (by decide), if_pos hbig]; rfl
        clear HC HCK
        go_enter Try.func17, Try.ntmps17
        go_wp2_with (go_at_call 33; (with_reducible refine (H33.out _ HM.out).mono ?_); rintro e w ⟨rfl, rfl⟩)
        go_ret2
        exact ⟨Up.refl _, Or.inl ⟨by rw [HC2.out]; decide, by rw [HC2.out]; rfl⟩⟩
      · have hC0 : C = 0 := by rw [HC, if_neg (by decide), if_neg hbig]
        subst hC0
        obtain ⟨o1, o2, o3, o4⟩ := ringsC_ok HCK.out
        rw [HK.out] at o1 o2
        have HO2 : Hid (∀ i, i < k → 1 ≤ m i ∧ m i ≤ 1099511627776) := o2
        have hk8 : (k : Int) ≤ 8 := by omega
        have hmx : most ≤ 4194304 := o4
        have hk1 : k ≤ n1 := by have := HK.out; omega
        have hk2 : k ≤ n2 := by have := HK.out; omega
        obtain ⟨i0, hi, hz0, hz1, hz2⟩ := info_parts info2
        clear HC HCK HK o1 o2 o3 o4 hbig hnb
        go_enter Try.func17, Try.ntmps17
        go_wp2_with (first
          | (go_at_call 33; (with_reducible refine (H33.out _ HM.out).mono ?_); rintro e w ⟨rfl, rfl⟩)
          | (go_at_call 28; (with_reducible refine (H28.out _).mono ?_); rintro e w ⟨rfl, rfl⟩))
        go_loopw [8, 11] (fun v8 v11 wr => ∃ (p' : Option Addr) (cap : Nat) (d : List Int) (b : Nat), v8 = .slice p' d.length cap ∧ v11 = .int .i64 b ∧ (b : Int) ≤ most ∧ d.length ≤ 65536 ∧ Hid (d = nearL (fun (x : Nat) => worst r m x k) off b) ∧ Hid (OI w.heap.size wr (.slice p' d.length cap) d) ∧ Hid (Up w wr)) (fun _ v11 _ => (most - intOf v11).toNat)
        case atStart => exact ⟨none, 0, [], 0, rfl, rfl, by omega, by simp, rfl, OI.nil _ _, Up.refl _⟩
        case round =>
          obtain ⟨p', cap, d, b, rfl, rfl, hb1, hd, HD, HO, HU⟩ := hrel
          by_cases hlt : (b : Int) < most
          · go_wp2
            go_loopw [13, 12] (fun v13 v12 wr2 => ∃ (i : Nat) (z : Bool), i ≤ k ∧ v13 = .int .i64 i ∧ v12 = .bool z ∧ Hid (z = decide (worst r m b i ≤ off)) ∧ Hid (Up wr wr2)) (fun v13 _ _ => k - (intOf v13).toNat)
            case atStart => exact ⟨0, true, by omega, rfl, rfl, by show _ = _; simp [worst, hm1.2], Up.refl _⟩
            case round =>
              obtain ⟨i, z, hi2, rfl, rfl, HZ, HU2⟩ := hrel
              by_cases hcont : i < k ∧ z = true
              · obtain ⟨hik, rfl⟩ := hcont
                obtain ⟨b1, o1, rfl, cr0⟩ := HR.out i (by omega)
                obtain ⟨b2, o2, rfl, cm0⟩ := HM.out i (by omega)
                have cr := cell_up cr0 (HU.out.trans HU2.out)
                have cm := cell_up cm0 (HU.out.trans HU2.out)
                clear cr0 cm0
                obtain ⟨q1, q2⟩ := HO2.out i hik
                have HLT : Hid (i < k) := hik
                have hiz : (i : Int) < (k : Int) := by omega
                have hiz1 : (i : Int) < (n1 : Int) := by omega
                have hiz2 : (i : Int) < (n2 : Int) := by omega
                have hiz0 : (0 : Int) ≤ (i : Int) := by omega
                obtain ⟨fz, hfz⟩ : ∃ fz, far b (r i) (m i) = fz := ⟨_, rfl⟩
                have HZ2 : Hid (decide (fz ≤ off) = decide (worst r m b (i + 1) ≤ off)) := by
                  show _ = _
                  have h1 : worst r m b i ≤ off := by simpa using HZ.out.symm
                  rw [worst, hfz]
                  rw [Bool.eq_iff_iff]; simp only [decide_eq_true_eq]; omega
                generalize r i = ri at *
                generalize m i = mi at *
                go_wp2_with fail
                go_quiet (first | (go_at_call 34; (with_reducible refine Calls.quiet_of (t34q (x := b) (r := ri) (m := mi) (v := fz) q1 q2 hfz _))))
                all_goals (try go_wp2)
                go_roundw
                case rel => exact ⟨i + 1, _, HLT.out, by go_num, rfl, HZ2, HU2.out.trans (Up.drewN _ _)⟩
                case measure => have := HLT.out; simp [intOf]; omega
              · have HE : Hid (z = decide (worst r m b k ≤ off)) := by
                  show _ = _
                  by_cases hik : i < k
                  · have hz : z = false := by cases z with | true => exact absurd ⟨hik, rfl⟩ hcont | false => rfl
                    have h1 : ¬ worst r m b i ≤ off := by rw [hz] at HZ; simpa using HZ.out.symm
                    have := worst_mono r m b (i := i) (k - i)
                    rw [show i + (k - i) = k by omega] at this
                    rw [hz]; simp; omega
                  · rw [HZ.out, show i = k by omega]
                have HN : Hid (nearL (fun (x : Nat) => worst r m x k) off (b + 1) = if z = true then d ++ [(b : Int)] else d) := by
                  show _ = _
                  rw [nearL_succ, ← HD.out]
                  by_cases hw : worst r m b k ≤ off
                  · have : z = true := by rw [HE.out]; simpa using hw
                    rw [if_pos hw, if_pos this]
                  · have : z = false := by rw [HE.out]; simpa using hw
                    rw [if_neg hw, this]; rfl
                have hsz : w.heap.size ≤ wr.heap.size := (HU.out.trans HU2.out).size
                have HO2' : Hid (OI w.heap.size wr (.slice p' d.length cap) d ∧ Up w wr) := ⟨HO.out.up HU2.out, HU.out.trans HU2.out⟩
                by_cases hik : i < k
                · have hz : z = false := by cases z with | true => exact absurd ⟨hik, rfl⟩ hcont | false => rfl
                  subst hz
                  have hiz : (i : Int) < (k : Int) := by omega
                  go_wp2
                  go_roundw
                  case rel => exact ⟨p', cap, d, b + 1, rfl, by go_num, by omega, hd, by show _ = _; rw [HN.out]; rfl, HO2'.out.1, HO2'.out.2⟩
                  case measure => simp [intOf]; omega
                · have hiz : (k : Int) ≤ (i : Int) := by omega
                  cases z with
                  | false =>
                    go_wp2
                    go_roundw
                    case rel => exact ⟨p', cap, d, b + 1, rfl, by go_num, by omega, hd, by show _ = _; rw [HN.out]; rfl, HO2'.out.1, HO2'.out.2⟩
                    case measure => simp [intOf]; omega
                  | true =>
                    by_cases hf : d.length = 65536
                    · have hfb : ((d.length : Int) == 65536) = true := by simp; omega
                      go_wp2_with fail
                      go_ret2
                      have hlen : 65536 < (nears r m k off most).length := by
                        unfold nears
                        have := nearL_mono (W := fun (x : Nat) => worst r m x k) (off := off) (a := b + 1) (most.toNat - (b + 1))
                        rw [show b + 1 + (most.toNat - (b + 1)) = most.toNat by omega, HN.out] at this
                        simp at this
                        omega
                      have hc3 : nearC 0 r m k off most = 3 := by unfold nearC; rw [if_neg (by decide), if_pos hlen]
                      exact ⟨HO2'.out.2, Or.inl ⟨by rw [hc3]; decide, by rw [hc3]; rfl⟩⟩
                    · have hfb : ((d.length : Int) == 65536) = false := by simp; omega
                      have hdl : d.length ≤ 65535 := by omega
                      go_wp2_with (at_builtin; refine wpList_append_own _ rfl _ _ 27 rfl w.heap.size 2 i0 (.int .i64 0) 1 8 Try.underlying27 hi hz0 hz1 hz2 rfl (by decide) _ _ _ rfl (HO2'.out.1.alloc _) ⟨wr.heap.size, 0, none⟩ 1 1 [.int .i64 b] rfl rfl (one_new _ _ _) (one_one _) (by unfold maxLen; omega) (by omega) (by simp; omega) ?_; intro v2 w3 h2 hg2 _; have HO3 : Hid (OI w.heap.size w3 v2 (d ++ [(b : Int)]) ∧ Up w w3) := app_own HO2'.out.1 HO2'.out.2 h2 hg2; clear h2 hg2)
                      obtain ⟨p2, cap2, hv, _⟩ := own_form HO3.out.1
                      subst hv
                      go_roundw
                      case rel => exact ⟨p2, cap2, d ++ [(b : Int)], b + 1, rfl, by go_num, by omega, by simp; omega, by show _ = _; rw [HN.out]; rfl, HO3.out.1, HO3.out.2⟩
                      case measure => simp [intOf]; omega
          · have he : nears r m k off most = d := by
              unfold nears
              rw [show most.toNat = b by omega]; exact HD.out.symm
            have HE : Hid (nears r m k off most = d) := he
            clear he
            go_wp2
            go_ret2
            have hc0 : nearC 0 r m k off most = 0 := by unfold nearC; rw [if_neg (by decide), HE.out, if_neg (by omega)]
            exact ⟨HU, Or.inr ⟨hc0, _, rfl, by rw [HE.out]; exact HO⟩⟩
  · have hbb : (B != 0) = true := by simp [hb]
    have HC2 : Hid (nearC C r m k off most = B) := by
      show _ = _
      rw [HC, if_pos hb, nearC, if_pos hb]
    clear HC HCK
    go_enter Try.func17, Try.ntmps17
    go_wp2_with (go_at_call 33; (with_reducible refine (H33.out _ HM.out).mono ?_); rintro e w ⟨rfl, rfl⟩)
    go_ret2
    exact ⟨Up.refl _, Or.inl ⟨by rw [HC2.out]; exact hb, by rw [HC2.out]; rfl⟩⟩
end Go.Proofs.Ytpahjenfkgcdlaa
