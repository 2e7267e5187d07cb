/- The reference's Best. -/
import Derived.Test.YtpahjenfkgcdlaaP
namespace Go.Proofs.Ytpahjenfkgcdlaa
open Go.ChangeShapes Go.WideShapes Go.ChangeAt Go.RowKit

theorem Bst.uniq {W : Int → Int} {n y z : Int} (h : Bst W n y) (k : Bst W n z) : y = z := by
  obtain ⟨h0, h1, h2, h3⟩ := h
  obtain ⟨k0, k1, k2, k3⟩ := k
  rcases (show y < z ∨ y = z ∨ z < y by omega) with c | c | c
  · have := k3 y h0 c
    have := h2 z k0 k1
    omega
  · exact c
  · have := h3 z k0 c
    have := k2 y h0 h1
    omega
/-- The best so far. -/
def Bsf (W : Int → Int) (K X O : Int) : Prop := (K = 0 ∧ X = 0 ∧ O = 9223372036854775807) ∨ (1 ≤ K ∧ O = W X ∧ Bst W K X)
theorem Bsf.next {W : Int → Int} {K X O : Int} (h : Bsf W K X O) (h0 : 0 ≤ K) (hW : W K < 9223372036854775807) : (W K < O → Bsf W (K + 1) K (W K)) ∧ (¬ W K < O → Bsf W (K + 1) X O) := by
  rcases h with ⟨rfl, rfl, rfl⟩ | ⟨h1, rfl, b0, b1, b2, b3⟩
  · refine ⟨fun _ => Or.inr ⟨by omega, rfl, by omega, by omega, fun j h1 h2 => ?_, fun j h1 h2 => by omega⟩, fun h => absurd hW h⟩
    rw [show j = 0 by omega]; exact Int.le_refl _
  · constructor
    · intro h
      refine Or.inr ⟨by omega, rfl, by omega, by omega, fun j g1 g2 => ?_, fun j g1 g2 => ?_⟩
      · by_cases e : j = K
        · rw [e]; exact Int.le_refl _
        · have := b2 j g1 (by omega); omega
      · have := b2 j g1 (by omega); omega
    · intro h
      refine Or.inr ⟨by omega, rfl, b0, by omega, fun j g1 g2 => ?_, b3⟩
      by_cases e : j = K
      · rw [e]; omega
      · exact b2 j g1 (by omega)
set_option maxHeartbeats 4000000 in
theorem t21 (p q : Option Addr) (n1 n2 c1 c2 : Nat) (r m : Nat → Int) (most : Int) (w : World) (hr : IR w p n1 r) (hm : IR w q n2 m) : Calls Try.prog 21 #[.slice p n1 c1, .slice q n2 c2, .int .i64 most] w (BestP w (ringsC m n1 n2 (decide (most < 1)) most) r m (min n1 n2) most) := by
  have HC := ringsC_bad m n1 n2 (decide (most < 1)) most
  obtain ⟨C, hC⟩ : ∃ C, ringsC m n1 n2 (decide (most < 1)) most = C := ⟨_, rfl⟩
  have H33 : Hid (∀ w, IR w q n2 m → _) := fun w h => t33 p q n1 n2 c1 c2 m w h
  have HCK : Hid (ringsC m n1 n2 (decide (most < 1)) most = C) := hC
  rw [hC] at HC ⊢
  have H28 : Hid (∀ w, _) := fun w => t28 p q n1 n2 c1 c2 w
  have HR : Hid (IR w p n1 r) := hr
  have HM : Hid (IR w q n2 m) := hm
  obtain ⟨k, hk⟩ : ∃ k, min n1 n2 = k := ⟨_, rfl⟩
  have HK : Hid (min n1 n2 = k) := hk
  rw [hk] at H28 ⊢
  obtain ⟨B, hB⟩ : ∃ B, badC m n1 n2 = B := ⟨_, rfl⟩
  rw [hB] at HC H33
  clear hC hr hm hk hB
  by_cases hb : B = 0
  · subst hb
    rw [if_neg (by simp)] at HC
    by_cases hneg : most < 1
    · have HC2 : Hid (C = 2) := by
        show _ = _
        rw [HC, if_pos (by simpa using hneg)]
      clear HC HCK
      go_enter Try.func21, Try.ntmps21
      go_wp2_with (go_at_call 33; (with_reducible refine (H33.out _ HM.out).mono ?_); rintro e w ⟨rfl, rfl⟩)
      go_ret3
      exact ⟨Up.refl _, Or.inl ⟨by rw [HC2.out]; decide, by rw [HC2.out]; rfl⟩⟩
    · have hnb : (decide (most < 1)) = false := by simpa using hneg
      rw [hnb] at HC
      have hm1 : 1 ≤ most := by omega
      clear hneg
      by_cases hbig : 4194304 < most
      · have HC2 : Hid (C = 3) := by
          show _ = _
          rw [HC, if_neg (by decide), if_pos hbig]
        clear HC HCK
        go_enter Try.func21, Try.ntmps21
        go_wp2_with (go_at_call 33; (with_reducible refine (H33.out _ HM.out).mono ?_); rintro e w ⟨rfl, rfl⟩)
        go_ret3
        exact ⟨Up.refl _, Or.inl ⟨by rw [HC2.out]; decide, by rw [HC2.out]; rfl⟩⟩
      · have hC0 : C = 0 := by rw [HC, if_neg (by decide), if_neg hbig]
        subst hC0
        obtain ⟨o1, o2, o3, o4⟩ := ringsC_ok HCK.out
        rw [HK.out] at o1 o2
        have HO2 : Hid (∀ i, i < k → 1 ≤ m i ∧ m i ≤ 1099511627776) := o2
        have hk8 : (k : Int) ≤ 8 := by omega
        have hmx : most ≤ 4194304 := o4
        have hk1 : k ≤ n1 := by have := HK.out; omega
        have hk2 : k ≤ n2 := by have := HK.out; omega
        have HWl : Hid (∀ x i, i ≤ k → 0 ≤ worst r m x i ∧ worst r m x i < 1099511627776) := fun x i hi => ⟨worst_nn _ _ _ _, worst_lt r m x 1099511627776 (by decide) i fun j hj => HO2.out j (by omega)⟩
        clear HC HCK HK o1 o2 o3 o4 hbig hnb
        go_enter Try.func21, Try.ntmps21
        go_wp2_with (first
          | (go_at_call 33; (with_reducible refine (H33.out _ HM.out).mono ?_); rintro e w ⟨rfl, rfl⟩)
          | (go_at_call 28; (with_reducible refine (H28.out _).mono ?_); rintro e w ⟨rfl, rfl⟩))
        go_loopw [10, 6, 7] (fun v10 v6 v7 wr => ∃ (K X O : Int), v10 = .int .i64 K ∧ v6 = .int .i64 X ∧ v7 = .int .i64 O ∧ 0 ≤ K ∧ K ≤ most ∧ Hid (Bsf (fun x => worst r m x k) K X O) ∧ Hid (Up w wr)) (fun v10 _ _ _ => (most - intOf v10).toNat)
        case atStart => exact ⟨0, 0, 9223372036854775807, rfl, rfl, rfl, by omega, by omega, Or.inl ⟨rfl, rfl, rfl⟩, Up.refl _⟩
        case round =>
          obtain ⟨K, X, O, rfl, rfl, rfl, K0, K1, HB, HU⟩ := hrel
          by_cases hlt : K < most
          · go_wp2
            go_loopw [12, 11] (fun v12 v11 wr2 => ∃ (i : Nat) (z : Int), i ≤ k ∧ v12 = .int .i64 i ∧ v11 = .int .i64 z ∧ Hid (z = worst r m K i) ∧ Hid (Up w wr2)) (fun v12 _ _ => k - (intOf v12).toNat)
            case atStart => exact ⟨0, 0, by omega, rfl, rfl, rfl, HU⟩
            case round =>
              obtain ⟨i, z, hi2, rfl, rfl, HZ, HU2⟩ := hrel
              have hzl : 0 ≤ z ∧ z < 1099511627776 := by rw [HZ.out]; exact HWl.out K i hi2
              by_cases hik : i < k
              · obtain ⟨b1, o1, rfl, cr0⟩ := HR.out i (by omega)
                obtain ⟨b2, o2, rfl, cm0⟩ := HM.out i (by omega)
                have cr := cell_up cr0 HU2.out
                have cm := cell_up cm0 HU2.out
                clear cr0 cm0
                obtain ⟨q1, q2⟩ := HO2.out i hik
                have HLT : Hid (i < k) := hik
                have hiz : (i : Int) < (k : Int) := by omega
                have hiz1 : (i : Int) < (n1 : Int) := by omega
                have hiz2 : (i : Int) < (n2 : Int) := by omega
                have hiz0 : (0 : Int) ≤ (i : Int) := by omega
                obtain ⟨fz, hfz⟩ : ∃ fz, far K (r i) (m i) = fz := ⟨_, rfl⟩
                have HZ2 : Hid (worst r m K (i + 1) = max z fz) := by
                  show _ = _
                  rw [worst, hfz, HZ.out]
                generalize r i = ri at *
                generalize m i = mi at *
                by_cases hc : z < fz
                · go_wp2_with fail
                  go_quiet (first | (go_at_call 34; (with_reducible refine Calls.quiet_of (t34q (x := K) (r := ri) (m := mi) (v := fz) q1 q2 hfz _))))
                  all_goals (try go_wp2)
                  go_roundw
                  case rel => exact ⟨i + 1, _, HLT.out, by go_num, rfl, by show _ = _; rw [HZ2.out]; omega, HU2.out.trans (Up.drewN _ _)⟩
                  case measure => have := HLT.out; simp [intOf]; omega
                · go_wp2_with fail
                  go_quiet (first | (go_at_call 34; (with_reducible refine Calls.quiet_of (t34q (x := K) (r := ri) (m := mi) (v := fz) q1 q2 hfz _))))
                  all_goals (try go_wp2)
                  go_roundw
                  case rel => exact ⟨i + 1, _, HLT.out, by go_num, rfl, by show _ = _; rw [HZ2.out]; omega, HU2.out.trans (Up.drewN _ _)⟩
                  case measure => have := HLT.out; simp [intOf]; omega
              · obtain rfl : i = k := by omega
                obtain ⟨g1, g2⟩ := HB.out.next K0 (by show worst r m K i < _; rw [← HZ.out]; omega)
                simp only [← HZ.out] at g1 g2
                by_cases hc : z < O
                · have HB2 : Hid (Bsf (fun x => worst r m x i) (K + 1) K z) := g1 hc
                  clear g1 g2
                  go_wp2
                  go_roundw
                  case rel => exact ⟨K + 1, K, z, rfl, rfl, rfl, by omega, by omega, HB2, HU2⟩
                  case measure => simp [intOf]; omega
                · have HB2 : Hid (Bsf (fun x => worst r m x i) (K + 1) X O) := g2 hc
                  clear g1 g2
                  go_wp2
                  go_roundw
                  case rel => exact ⟨K + 1, X, O, rfl, rfl, rfl, by omega, by omega, HB2, HU2⟩
                  case measure => simp [intOf]; omega
          · obtain rfl : K = most := by omega
            go_wp2
            go_ret3
            rcases HB.out with ⟨h, _⟩ | ⟨_, hO, hBst⟩
            · omega
            · exact ⟨HU, Or.inr ⟨rfl, X, by rw [hO]; rfl, hBst⟩⟩
  · have hbb : (B != 0) = true := by simp [hb]
    have HC2 : Hid (C = B) := by
      show _ = _
      rw [HC, if_pos hb]
    clear HC HCK
    go_enter Try.func21, Try.ntmps21
    go_wp2_with (go_at_call 33; (with_reducible refine (H33.out _ HM.out).mono ?_); rintro e w ⟨rfl, rfl⟩)
    go_ret3
    exact ⟨Up.refl _, Or.inl ⟨by rw [HC2.out]; exact hb, by rw [HC2.out]; rfl⟩⟩
end Go.Proofs.Ytpahjenfkgcdlaa
