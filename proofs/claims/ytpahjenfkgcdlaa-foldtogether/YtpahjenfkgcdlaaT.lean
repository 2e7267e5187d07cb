/- FoldTogether. -/
import Derived.Test.YtpahjenfkgcdlaaS
namespace Go.Proofs.Ytpahjenfkgcdlaa
open Go.ChangeShapes Go.WideShapes Go.ChangeAt Go.RowKit

theorem eucl_one {m : Int} (hm : 1 ≤ m) : (eucl 1 1 0 m 0 1).1 = 1 := by
  have h := eucl_told (A := 1) (B := m) (by omega) (by omega)
  obtain ⟨hg, _⟩ := h.parts (by omega) hm
  have hd := ((h.dvd _).2 (Int.dvd_refl _)).1
  have := Int.le_of_dvd (by omega) hd
  omega
theorem join_code (r m : Nat → Int) : ∀ i, i ≤ 5 → (∀ j, j < i → 1 ≤ m j ∧ m j ≤ 4096) → ((joinF r m i).2.2 = 0 ∧ (joinF r m i).2.1 ≤ 4096 ^ i) ∨ (joinF r m i = (0, 0, 100) ∧ 2 ≤ i)
  | 0, _, _ => Or.inl ⟨rfl, by simp [joinF]⟩
  | i + 1, hi, hm => by
    rcases join_code r m i (by omega) (fun j hj => hm j (by omega)) with ⟨h0, hb⟩ | ⟨h, h2⟩
    · obtain ⟨m1, m2⟩ := hm i (by omega)
      rw [joinF_next r m i h0 ⟨m1, by omega⟩]
      obtain ⟨f1, f2, f3, f4⟩ := join_ok h0
      have hone : i = 0 → (joinF r m i).2.1 = 1 := fun e => by subst e; rfl
      generalize (joinF r m i).1 = x at *
      generalize (joinF r m i).2.1 = a at *
      have hre := Re.of (x := x) (a := a) (r := r i) (m := m i) f1 ⟨f3, f4⟩ m1
      have hmul : a * (m i / (eucl a 1 0 (m i) 0 1).1) ≤ 4096 ^ i * 4096 := Int.mul_le_mul hb (by have := hre.own2; omega) (by have := hre.own1; omega) (by omega)
      have hpow : (4096 : Int) ^ i * 4096 = 4096 ^ (i + 1) := by rw [Int.pow_succ]
      have hpl : (4096 : Int) ^ (i + 1) ≤ 1152921504606846976 := by
        rcases (show i = 0 ∨ i = 1 ∨ i = 2 ∨ i = 3 ∨ i = 4 by omega) with rfl | rfl | rfl | rfl | rfl <;> decide
      unfold stepF
      by_cases hz : (r i - x) % (eucl a 1 0 (m i) 0 1).1 ≠ 0
      · rw [if_pos hz]
        refine Or.inr ⟨rfl, ?_⟩
        by_cases e : i = 0
        · exfalso
          rw [hone e, eucl_one m1] at hz
          exact hz (Int.emod_one _)
        · omega
      · rw [if_neg hz, if_neg (by omega)]
        exact Or.inl ⟨rfl, by simp only; omega⟩
    · refine Or.inr ⟨?_, by omega⟩
      rw [joinF, if_pos (by rw [h]; decide), h]
theorem dvd_of_mod {m y r : Int} (h : y % m = r % m) : m ∣ y - r := by
  apply Int.dvd_of_emod_eq_zero
  exact Int.emod_eq_emod_iff_emod_sub_eq_zero.1 h
theorem mod_of_dvd {m y r : Int} (h : m ∣ y - r) : y % m = r % m :=
  Int.emod_eq_emod_iff_emod_sub_eq_zero.2 (Int.emod_eq_zero_of_dvd h)
theorem t23q {a m v : Int} {w : World} (hm : 1 ≤ m ∧ m ≤ 4611686018427387904) (h : a % m = v) (n : Nat) : Calls Try.prog 23 #[.int .i64 a, .int .i64 m] (w.drewN n) fun e w' => e = .returned (.int .i64 v) ∧ ∃ k, w' = (w.drewN n).drewN k :=
  (t23 a m hm _).mono fun e w' h' => ⟨by rw [h'.1, h], 0, h'.2⟩
set_option maxHeartbeats 8000000 in
set_option maxRecDepth 100000 in
theorem t8 (p q : Option Addr) (n1 n2 c1 c2 : Nat) (r f : Nat → Int) (w : World) (hr : IR w p n1 r) (hm : IR w q n2 f) : Calls Try.prog 8 #[.slice p n1 c1, .slice q n2 c2] w (TU w) := by
  have H22 : Hid (∀ w, IR w q n2 f → _) := fun w h => t22 q n2 c2 f w h
  have HR : Hid (IR w p n1 r) := hr
  have HM : Hid (IR w q n2 f) := hm
  obtain ⟨kl, hkl⟩ : ∃ k, min n2 5 = k := ⟨_, rfl⟩
  have hkl5 : kl ≤ 5 := by omega
  rw [hkl] at H22
  have HLin : Hid (∀ j, j < kl → 1 ≤ (modL f kl)[j]! ∧ (modL f kl)[j]! ≤ 4096) := fun j hj => modL_in f hj
  generalize modL f kl = L at *
  obtain ⟨k, hk⟩ : ∃ k, min n1 kl = k := ⟨_, rfl⟩
  have hk1 : k ≤ n1 := by omega
  have hk2 : k ≤ kl := by omega
  have hk5 : (k : Int) ≤ 5 := by omega
  have HCC := join_code r (fun i => L[i]!) k (by omega) (fun j hj => HLin.out j (by omega))
  have hjt : joinT r (fun i => L[i]!) n1 kl = joinF r (fun i => L[i]!) k := by unfold joinT; rw [hk, if_pos (by omega)]
  have hmin : (n1 < kl → (n1 : Int) = k) ∧ (¬ n1 < kl → (kl : Int) = k) := by omega
  have HMIN : Hid ((n1 < kl → (n1 : Int) = k) ∧ (¬ n1 < kl → (kl : Int) = k)) := hmin
  have HINV := join_inv r (fun i => L[i]!) k
  have HNONE := join_none r (fun i => L[i]!)
  have H13 : Hid (∀ w pp cc, IR w p n1 r → IR w pp kl (fun i => L[i]!) → Calls Try.prog 13 #[.slice p n1 c1, .slice pp kl cc] w fun e w' => e = .returned (.tuple #[.int .i64 (joinF r (fun i => L[i]!) k).1, .int .i64 (joinF r (fun i => L[i]!) k).2.1, .int .i64 (joinF r (fun i => L[i]!) k).2.2]) ∧ Hid (Up w w')) := fun w pp cc h1 h2 => by
    have := t13 p pp n1 kl c1 cc r (fun i => L[i]!) w h1 h2
    rw [hjt] at this
    exact this
  clear hr hm hkl hk hjt hmin
  rcases HCC with ⟨h0, hb⟩ | ⟨h100, hk2'⟩
  · obtain ⟨x, all, cd, hS⟩ : ∃ x all cd, joinF r (fun i => L[i]!) k = (x, all, cd) := ⟨_, _, _, rfl⟩
    rw [hS] at h0 hb H13
    simp only at h0 hb H13
    subst h0
    obtain ⟨hJ, hall⟩ := HINV x all hS
    have HJ : Hid (JI r (fun i => L[i]!) k x all) := hJ
    have x0 := hJ.lo
    have x1 := hJ.hi
    have x2 := hJ.one
    clear HINV HNONE hS hJ hb
    go_enter Try.func8, Try.ntmps8
    go_wp2_with (first
      | (go_at_call 22; (with_reducible refine (H22.out _ HM.out).mono ?_); rintro e w1 ⟨pl, cl, rfl, HL⟩)
      | (go_at_call 13; (with_reducible refine (H13.out w1 pl cl (HR.out.up HL.out.2) HL.out.1.ir.2).mono ?_); rintro e w2 ⟨rfl, HU2⟩))
    all_goals
      first
        | (rw [show (n1 : Int) = (k : Int) from HMIN.out.1 (by omega)])
        | (rw [show (kl : Int) = (k : Int) from HMIN.out.2 (by omega)])
    all_goals
      have HL2 : Hid (OI w.heap.size w2 (.slice pl kl cl) L ∧ Up w w2) := ⟨HL.out.1.up HU2.out, HL.out.2.trans HU2.out⟩
      clear HL HU2 H22 HM H13 HMIN
      go_loopw [10] (fun vi wr => ∃ i : Nat, i ≤ k ∧ vi = .int .i64 i ∧ Hid (Up w2 wr)) (fun vi _ => k - (intOf vi).toNat)
      case atStart => exact ⟨0, by omega, rfl, Up.refl _⟩
      case round =>
        obtain ⟨i, hik, rfl, HU⟩ := hrel
        by_cases hlt : i < k
        · obtain ⟨gl, rfl, cl0, _, _⟩ := (HL2.out.1.up HU.out).cellsome (show i < kl by omega)
          obtain ⟨b1, o1, rfl, cr0⟩ := HR.out i (by omega)
          have cr1 := cell_up cr0 (HL2.out.2.trans HU.out)
          obtain ⟨q1, q2⟩ := HLin.out i (by omega)
          have hdv := Int.emod_eq_zero_of_dvd (HJ.out.dv i hlt)
          have hre := mod_of_dvd (HJ.out.re i hlt)
          obtain ⟨li, hli⟩ : ∃ t, L[i]! = t := ⟨_, rfl⟩
          obtain ⟨ri, hri⟩ : ∃ t, r i = t := ⟨_, rfl⟩
          rw [hli] at cl0 q1 q2 hdv hre
          rw [hri] at cr1 hre
          obtain ⟨v, hv⟩ : ∃ t, ri % li = t := ⟨_, rfl⟩
          rw [hv] at hre
          have HLT : Hid (i < k) := hlt
          have hiz : (i : Int) < (k : Int) := by omega
          have hiz1 : (i : Int) < (n1 : Int) := by omega
          have hiz2 : (i : Int) < (kl : Int) := by omega
          have hiz0 : (0 : Int) ≤ (i : Int) := by omega
          have hli0 : ¬ li = 0 := by omega
          have htm : all.tmod li = 0 := by rw [Int.tmod_eq_emod_of_nonneg (by omega)]; exact hdv
          clear cr0
          go_wp2_with fail
          go_quiet (first
            | (go_at_call 23; (with_reducible refine Calls.quiet_of (t23q (a := x) (m := li) (v := v) (by omega) hre _)))
            | (go_at_call 23; (with_reducible refine Calls.quiet_of (t23q (a := ri) (m := li) (v := v) (by omega) hv _))))
          all_goals (try go_wp2)
          go_roundw
          case rel => exact ⟨i + 1, HLT.out, by go_num, HU.out.trans (Up.drewN _ _)⟩
          case measure => have := HLT.out; simp [intOf]; omega
        · obtain rfl : i = k := by omega
          go_wp2_with (go_at_call 11; (with_reducible refine (t11 _).mono ?_); rintro e w6 ⟨rfl, HU6⟩)
          go_ret
          exact ⟨rfl, (HL2.out.2.trans HU.out).trans HU6.out⟩
  · rw [h100] at H13
    simp only at H13
    have HNO : Hid (∀ y, ¬ ∀ j, j < k → y % L[j]! = r j % L[j]!) := fun y hy => HNONE y k (fun j hj => dvd_of_mod (hy j hj)) (by rw [h100])
    have hk2z : (2 : Int) ≤ (k : Int) := by omega
    clear HINV HNONE h100
    go_enter Try.func8, Try.ntmps8
    go_wp2_with (first
      | (go_at_call 22; (with_reducible refine (H22.out _ HM.out).mono ?_); rintro e w1 ⟨pl, cl, rfl, HL⟩)
      | (go_at_call 13; (with_reducible refine (H13.out w1 pl cl (HR.out.up HL.out.2) HL.out.1.ir.2).mono ?_); rintro e w2 ⟨rfl, HU2⟩))
    all_goals
      first
        | (rw [show (n1 : Int) = (k : Int) from HMIN.out.1 (by omega)])
        | (rw [show (kl : Int) = (k : Int) from HMIN.out.2 (by omega)])
    all_goals
      have HL2 : Hid (OI w.heap.size w2 (.slice pl kl cl) L ∧ Up w w2) := ⟨HL.out.1.up HU2.out, HL.out.2.trans HU2.out⟩
      clear HL HU2 H22 HM H13 HMIN
      go_loopw [11, 12] (fun v11 v12 wr => ∃ (s : Int) (i : Nat), i ≤ k ∧ v11 = .int .i64 s ∧ v12 = .int .i64 i ∧ 1 ≤ s ∧ s ≤ 268435456 ∧ w2 = wr) (fun _ v12 _ => k - (intOf v12).toNat)
      case atStart => exact ⟨1, 0, by omega, rfl, rfl, by omega, by omega, rfl⟩
      case round =>
        obtain ⟨s, i, hik, rfl, rfl, s0, s1, hw⟩ := hrel
        subst hw
        by_cases hc : i < k ∧ s ≤ 65536
        · obtain ⟨hlt, hs⟩ := hc
          obtain ⟨gl, rfl, cl0, _, _⟩ := HL2.out.1.cellsome (show i < kl by omega)
          obtain ⟨q1, q2⟩ := HLin.out i (by omega)
          generalize L[i]! = li at cl0 q1 q2
          have pr0 : 1 ≤ s * li := mul_pos1 s0 q1
          have pr1 : s * li ≤ 268435456 := by
            have := Int.mul_le_mul hs q2 (by omega) (by omega)
            omega
          obtain ⟨P, hP⟩ : ∃ P, s * li = P := ⟨_, rfl⟩
          rw [hP] at pr0 pr1
          have HLT : Hid (i < k) := hlt
          have hiz : (i : Int) < (k : Int) := by omega
          have hiz2 : (i : Int) < (kl : Int) := by omega
          have hiz0 : (0 : Int) ≤ (i : Int) := by omega
          go_wp2
          go_roundw
          case rel => exact ⟨P, i + 1, HLT.out, rfl, by go_num, pr0, pr1, by simp⟩
          case measure => have := HLT.out; simp [intOf]; omega
        · have hout : (k : Int) ≤ (i : Int) ∨ ((i : Int) < (k : Int) ∧ 65536 < s) := by omega
          clear hc
          rcases hout with hout | ⟨hik2, hout⟩
          · go_wp2
            go_loopw [13] (fun v13 wr => ∃ y : Int, v13 = .int .i64 y ∧ 0 ≤ y ∧ y ≤ s ∧ Hid (Up w2 wr)) (fun v13 _ => (s - intOf v13).toNat)
            case atStart => exact ⟨0, rfl, by omega, by omega, Up.refl _⟩
            case round =>
              obtain ⟨y, rfl, y0, y1, HU⟩ := hrel
              by_cases hy : y < s ∧ s ≤ 65536
              · obtain ⟨hys, hs⟩ := hy
                go_wp2
                go_loopw [14, 15] (fun v14 v15 wr2 => ∃ (z : Bool) (i' : Nat), i' ≤ k ∧ v14 = .bool z ∧ v15 = .int .i64 i' ∧ Hid (z = true → ∀ j, j < i' → y % L[j]! = r j % L[j]!) ∧ Hid (Up w2 wr2)) (fun _ v15 _ => k - (intOf v15).toNat)
                case atStart => exact ⟨true, 0, by omega, rfl, rfl, fun _ j hj => by omega, HU⟩
                case round =>
                  obtain ⟨z, i', hik', rfl, rfl, HZ, HU2'⟩ := hrel
                  by_cases hlt : i' < k
                  · have HLT : Hid (i' < k) := hlt
                    have hiz : (i' : Int) < (k : Int) := by omega
                    have hiz1 : (i' : Int) < (n1 : Int) := by omega
                    have hiz2 : (i' : Int) < (kl : Int) := by omega
                    have hiz0 : (0 : Int) ≤ (i' : Int) := by omega
                    obtain ⟨gl, rfl, cl0, _, _⟩ := (HL2.out.1.up HU2'.out).cellsome (show i' < kl by omega)
                    obtain ⟨b1, o1, rfl, cr0⟩ := HR.out i' (by omega)
                    have cr1 := cell_up cr0 (HL2.out.2.trans HU2'.out)
                    obtain ⟨q1, q2⟩ := HLin.out i' (by omega)
                    obtain ⟨li, hli⟩ : ∃ t, L[i']! = t := ⟨_, rfl⟩
                    obtain ⟨ri, hri⟩ : ∃ t, r i' = t := ⟨_, rfl⟩
                    rw [hli] at cl0 q1 q2
                    rw [hri] at cr1
                    obtain ⟨v, hv⟩ : ∃ t, ri % li = t := ⟨_, rfl⟩
                    obtain ⟨u, hu⟩ : ∃ t, y % li = t := ⟨_, rfl⟩
                    clear cr0
                    cases z with
                    | false =>
                      go_wp2_with fail
                      go_quiet (fail)
                      all_goals (try go_wp2)
                      go_roundw
                      case rel => exact ⟨false, i' + 1, HLT.out, rfl, by go_num, (fun h => absurd h (by decide)), HU2'.out.trans (Up.drewN _ _)⟩
                      case measure => have := HLT.out; simp [intOf]; omega
                    | true =>
                      have HZ2 : Hid ((u == v) = true → ∀ j, j < i' + 1 → y % L[j]! = r j % L[j]!) := fun h j hj => by
                        by_cases e : j = i'
                        · subst e
                          rw [hli, hri, hv, hu]
                          simpa using h
                        · exact HZ.out rfl j (by omega)
                      go_wp2_with fail
                      go_quiet (first
                        | (go_at_call 23; (with_reducible refine Calls.quiet_of (t23q (a := y) (m := li) (v := u) (by omega) hu _)))
                        | (go_at_call 23; (with_reducible refine Calls.quiet_of (t23q (a := ri) (m := li) (v := v) (by omega) hv _))))
                      all_goals (try go_wp2)
                      go_roundw
                      case rel => exact ⟨u == v, i' + 1, HLT.out, rfl, by go_num, HZ2, HU2'.out.trans (Up.drewN _ _)⟩
                      case measure => have := HLT.out; simp [intOf]; omega
                  · obtain rfl : i' = k := by omega
                    have hz : z = false := by
                      cases z with
                      | false => rfl
                      | true => exact absurd (HZ.out rfl) (HNO.out y)
                    subst hz
                    clear HZ
                    go_wp2
                    go_roundw
                    case rel => exact ⟨y + 1, rfl, by omega, by omega, HU2'⟩
                    case measure => simp [intOf]; omega
              · by_cases hys : y < s
                · have hs : 65536 < s := by omega
                  go_wp2_with (go_at_call 11; (with_reducible refine (t11 _).mono ?_); rintro e w6 ⟨rfl, HU6⟩)
                  go_ret
                  exact ⟨rfl, (HL2.out.2.trans HU.out).trans HU6.out⟩
                · have hys' : s ≤ y := by omega
                  go_wp2_with (go_at_call 11; (with_reducible refine (t11 _).mono ?_); rintro e w6 ⟨rfl, HU6⟩)
                  go_ret
                  exact ⟨rfl, (HL2.out.2.trans HU.out).trans HU6.out⟩
          · go_wp2
            go_loopw [13] (fun v13 wr => v13 = .int .i64 0 ∧ w2 = wr) (fun _ _ => 0)
            case atStart => exact ⟨rfl, rfl⟩
            case round =>
              obtain ⟨rfl, hw⟩ := hrel
              subst hw
              have hys : (0 : Int) < s := by omega
              go_wp2_with (go_at_call 11; (with_reducible refine (t11 _).mono ?_); rintro e w6 ⟨rfl, HU6⟩)
              go_ret
              exact ⟨rfl, HL2.out.2.trans HU6.out⟩
end Go.Proofs.Ytpahjenfkgcdlaa
