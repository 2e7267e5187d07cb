/- The reference's steps; FoldGcds and FoldDivides. -/
import Derived.Test.YtpahjenfkgcdlaaJ
namespace Go.Proofs.Ytpahjenfkgcdlaa
open Go.ChangeShapes Go.WideShapes Go.ChangeAt Go.RowKit

set_option maxHeartbeats 1000000 in
theorem t29 (a b : Int) (ha : 0 ≤ a) (ha2 : a ≤ 4611686018427387904) (hb : 0 ≤ b) (hb2 : b ≤ 4611686018427387904) (w : World) : Calls Try.prog 29 #[.int .i64 a, .int .i64 b] w fun e w' => e = .returned (.tuple #[.int .i64 (eucl a 1 0 b 0 1).1, .int .i64 (eucl a 1 0 b 0 1).2.1, .int .i64 (eucl a 1 0 b 0 1).2.2, .int .i64 0]) ∧ w' = w := by
  have HE : Hid (EB a b a 1 0 b 0 1) := EB.start ha hb
  obtain ⟨E, hE⟩ : ∃ E, eucl a 1 0 b 0 1 = E := ⟨_, rfl⟩
  rw [hE]
  have HF : Hid (eucl a 1 0 b 0 1 = E) := hE
  clear hE
  go_enter Try.func29, Try.ntmps29
  go_wp2
  go_loopw [0, 1, 5, 6, 8, 9] (fun v0 v1 v5 v6 v8 v9 wr => ∃ A x y B u v, v0 = .int .i64 A ∧ v1 = .int .i64 B ∧ v5 = .int .i64 x ∧ v6 = .int .i64 y ∧ v8 = .int .i64 u ∧ v9 = .int .i64 v ∧ Hid (EB a b A x y B u v) ∧ Hid (eucl A x y B u v = E) ∧ w = wr) (fun _ v1 _ _ _ _ _ => (intOf v1).toNat)
  case atStart => exact ⟨a, 1, 0, b, 0, 1, rfl, rfl, rfl, rfl, rfl, rfl, HE, HF, rfl⟩
  case round =>
    clear HE HF
    obtain ⟨A, x, y, B, u, v, rfl, rfl, rfl, rfl, rfl, rfl, HE, HF, hw⟩ := hrel
    subst hw
    have hB0 : 0 ≤ B ∧ B ≤ 4611686018427387904 := by have := HE.out.2.2.2.2.2.2; omega
    have hA0 : 0 ≤ A ∧ A ≤ 4611686018427387904 := by have := HE.out.2.2.2.2.2.1; omega
    by_cases hz : B = 0
    · subst hz
      go_wp2
      (try simp only [Exit.inBlock, Exit.then]); refine bodyPost_ret (results_tmp4 rfl _ _ _) rfl ?_
      have := HF.out
      rw [eucl_zero] at this
      subst this
      exact ⟨rfl, rfl⟩
    · have hB : (B != 0) = true := by simpa using hz
      have hB1 : 0 < B := by omega
      have hs := HE.out.step hB1
      obtain ⟨_, _, _, hu', hv', _, hl'⟩ := hs
      have HS : Hid (EB a b B u v (A - A / B * B) (x - A / B * u) (y - A / B * v)) := HE.out.step hB1
      have HF2 : Hid (eucl B u v (A - A / B * B) (x - A / B * u) (y - A / B * v) = E) := by
        have := HF.out
        rw [eucl_step hB1] at this
        exact this
      have HM : Hid ((A - A / B * B).toNat < B.toNat) := by
        have := Eu.less A hB1
        show _ < _
        omega
      have e1 := wrap_sub_wrap (x := A) (p := A / B * B) (by omega)
      have e2 := wrap_sub_wrap (x := x) (p := A / B * u) (by omega)
      have e3 := wrap_sub_wrap (x := y) (p := A / B * v) (by omega)
      have hq0 : 0 ≤ A / B := Int.ediv_nonneg hA0.1 hB0.1
      have hq1 : A / B ≤ A := Int.ediv_le_self _ hA0.1
      obtain ⟨q, hq⟩ : ∃ q, A / B = q := ⟨_, rfl⟩
      rw [hq] at HS HF2 HM e1 e2 e3 hu' hv' hl' hq0 hq1
      obtain ⟨A', hA'⟩ : ∃ t, A - q * B = t := ⟨_, rfl⟩
      obtain ⟨x', hx'⟩ : ∃ t, x - q * u = t := ⟨_, rfl⟩
      obtain ⟨y', hy'⟩ : ∃ t, y - q * v = t := ⟨_, rfl⟩
      rw [hA'] at HS HF2 HM e1 hl'
      rw [hx'] at HS HF2 e2 hu'
      rw [hy'] at HS HF2 e3 hv'
      obtain ⟨p1, hp1⟩ : ∃ t, q * B = t := ⟨_, rfl⟩
      obtain ⟨p2, hp2⟩ : ∃ t, q * u = t := ⟨_, rfl⟩
      obtain ⟨p3, hp3⟩ : ∃ t, q * v = t := ⟨_, rfl⟩
      rw [hp1] at e1
      rw [hp2] at e2
      rw [hp3] at e3
      clear hA' hx' hy'
      go_wp2
      go_roundw
      case rel => exact ⟨B, u, v, A', x', y', rfl, by rw [e1], rfl, rfl, by rw [e2], by rw [e3], HS, HF2, by simp⟩
      case measure => simp only [intOf]; rw [e1]; exact HM.out
set_option maxHeartbeats 1000000 in
theorem t10 (a b : Int) (ha : 0 ≤ a) (ha2 : a ≤ 1099511627776) (hb : 0 ≤ b) (hb2 : b ≤ 1099511627776) (w : World) : Calls Try.prog 10 #[.int .i64 a, .int .i64 b] w fun e w' => e = .returned (.tuple #[.int .i64 (eucl a 1 0 b 0 1).1, .int .i64 (eucl a 1 0 b 0 1).2.1, .int .i64 (eucl a 1 0 b 0 1).2.2, .int .i64 0]) ∧ w' = w := by
  have HE : Hid (EB a b a 1 0 b 0 1) := EB.start ha hb
  obtain ⟨E, hE⟩ : ∃ E, eucl a 1 0 b 0 1 = E := ⟨_, rfl⟩
  rw [hE]
  have HF : Hid (eucl a 1 0 b 0 1 = E) := hE
  clear hE
  go_enter Try.func10, Try.ntmps10
  go_wp2
  go_loopw [0, 1, 5, 6, 8, 9] (fun v0 v1 v5 v6 v8 v9 wr => ∃ A x y B u v, v0 = .int .i64 A ∧ v1 = .int .i64 B ∧ v5 = .int .i64 x ∧ v6 = .int .i64 y ∧ v8 = .int .i64 u ∧ v9 = .int .i64 v ∧ Hid (EB a b A x y B u v) ∧ Hid (eucl A x y B u v = E) ∧ w = wr) (fun _ v1 _ _ _ _ _ => (intOf v1).toNat)
  case atStart => exact ⟨a, 1, 0, b, 0, 1, rfl, rfl, rfl, rfl, rfl, rfl, HE, HF, rfl⟩
  case round =>
    clear HE HF
    obtain ⟨A, x, y, B, u, v, rfl, rfl, rfl, rfl, rfl, rfl, HE, HF, hw⟩ := hrel
    subst hw
    have hB0 : 0 ≤ B ∧ B ≤ 4611686018427387904 := by have := HE.out.2.2.2.2.2.2; omega
    have hA0 : 0 ≤ A ∧ A ≤ 4611686018427387904 := by have := HE.out.2.2.2.2.2.1; omega
    by_cases hz : B = 0
    · subst hz
      go_wp2
      (try simp only [Exit.inBlock, Exit.then]); refine bodyPost_ret (results_tmp4 rfl _ _ _) rfl ?_
      have := HF.out
      rw [eucl_zero] at this
      subst this
      exact ⟨rfl, rfl⟩
    · have hB : (B != 0) = true := by simpa using hz
      have hB1 : 0 < B := by omega
      have hs := HE.out.step hB1
      obtain ⟨_, _, _, hu', hv', _, hl'⟩ := hs
      have HS : Hid (EB a b B u v (A - A / B * B) (x - A / B * u) (y - A / B * v)) := HE.out.step hB1
      have HF2 : Hid (eucl B u v (A - A / B * B) (x - A / B * u) (y - A / B * v) = E) := by
        have := HF.out
        rw [eucl_step hB1] at this
        exact this
      have HM : Hid ((A - A / B * B).toNat < B.toNat) := by
        have := Eu.less A hB1
        show _ < _
        omega
      have e1 := wrap_sub_wrap (x := A) (p := A / B * B) (by omega)
      have e2 := wrap_sub_wrap (x := x) (p := A / B * u) (by omega)
      have e3 := wrap_sub_wrap (x := y) (p := A / B * v) (by omega)
      have hq0 : 0 ≤ A / B := Int.ediv_nonneg hA0.1 hB0.1
      have hq1 : A / B ≤ A := Int.ediv_le_self _ hA0.1
      obtain ⟨q, hq⟩ : ∃ q, A / B = q := ⟨_, rfl⟩
      rw [hq] at HS HF2 HM e1 e2 e3 hu' hv' hl' hq0 hq1
      obtain ⟨A', hA'⟩ : ∃ t, A - q * B = t := ⟨_, rfl⟩
      obtain ⟨x', hx'⟩ : ∃ t, x - q * u = t := ⟨_, rfl⟩
      obtain ⟨y', hy'⟩ : ∃ t, y - q * v = t := ⟨_, rfl⟩
      rw [hA'] at HS HF2 HM e1 hl'
      rw [hx'] at HS HF2 e2 hu'
      rw [hy'] at HS HF2 e3 hv'
      obtain ⟨p1, hp1⟩ : ∃ t, q * B = t := ⟨_, rfl⟩
      obtain ⟨p2, hp2⟩ : ∃ t, q * u = t := ⟨_, rfl⟩
      obtain ⟨p3, hp3⟩ : ∃ t, q * v = t := ⟨_, rfl⟩
      rw [hp1] at e1
      rw [hp2] at e2
      rw [hp3] at e3
      clear hA' hx' hy'
      go_wp2
      go_roundw
      case rel => exact ⟨B, u, v, A', x', y', rfl, by rw [e1], rfl, rfl, by rw [e2], by rw [e3], HS, HF2, by simp⟩
      case measure => simp only [intOf]; rw [e1]; exact HM.out
theorem t10e (a b : Int) (h : a < 0 ∨ b < 0 ∨ 1099511627776 < a ∨ 1099511627776 < b) (w : World) : Calls Try.prog 10 #[.int .i64 a, .int .i64 b] w fun e w' => e = .returned (.tuple #[.int .i64 0, .int .i64 0, .int .i64 0, .int .i64 2]) ∧ w' = w := by
  have hb : (decide (a < 0) || decide (b < 0) || decide (1099511627776 < a) || decide (1099511627776 < b)) = true := by
    simp only [Bool.or_eq_true, decide_eq_true_eq]; omega
  go_enter Try.func10, Try.ntmps10
  go_wp2
  all_goals first
    | ((try simp only [Exit.inBlock, Exit.then]); refine bodyPost_ret (results_tmp4 rfl _ _ _) rfl ?_; exact ⟨rfl, rfl⟩)
    | (exfalso; simp_all; omega)
theorem t3 (a b : Int) (w : World) : Calls Try.prog 3 #[.int .i64 a, .int .i64 b] w (TU w) := by
  by_cases h : 0 ≤ a ∧ a ≤ 1099511627776 ∧ 0 ≤ b ∧ b ≤ 1099511627776
  · obtain ⟨h1, h2, h3, h4⟩ := h
    have H9 : Hid (∀ w, _) := fun w => t9 a b h1 h2 h3 h4 w
    have H10 : Hid (∀ w, _) := fun w => t10 a b h1 h2 h3 h4 w
    generalize eucl a 1 0 b 0 1 = E at *
    go_enter Try.func3, Try.ntmps3
    go_wp2_with (first
      | (go_at_call 9; (with_reducible refine (H9.out _).mono ?_); rintro e w1 ⟨rfl, HU1⟩)
      | (go_at_call 10; (with_reducible refine (H10.out _).mono ?_); rintro e w2 ⟨rfl, rfl⟩)
      | (go_at_call 11; (with_reducible refine (t11 _).mono ?_); rintro e w3 ⟨rfl, HU3⟩))
    go_ret
    exact ⟨rfl, HU1.out.trans HU3.out⟩
  · go_enter Try.func3, Try.ntmps3
    go_wp2_with (first
      | (go_at_call 9; (with_reducible refine (t9e a b (by omega) _).mono ?_); rintro e w1 ⟨rfl, HU1⟩)
      | (go_at_call 10; (with_reducible refine (t10e a b (by omega) _).mono ?_); rintro e w2 ⟨rfl, rfl⟩)
      | (go_at_call 11; (with_reducible refine (t11 _).mono ?_); rintro e w3 ⟨rfl, HU3⟩))
    go_ret
    exact ⟨rfl, HU1.out.trans HU3.out⟩
theorem wrap_two (u v : Int) : wrap64 (wrap64 u + wrap64 v) = wrap64 (u + v) := by unfold wrap64; omega
set_option maxHeartbeats 1000000 in
theorem t6 (a b : Int) (w : World) : Calls Try.prog 6 #[.int .i64 a, .int .i64 b] w (TU w) := by
  by_cases h : 0 ≤ a ∧ a ≤ 1099511627776 ∧ 0 ≤ b ∧ b ≤ 1099511627776
  · obtain ⟨h1, h2, h3, h4⟩ := h
    have hg := eucl_told h1 h3
    have H9 : Hid (∀ w, _) := fun w => t9 a b h1 h2 h3 h4 w
    generalize eucl a 1 0 b 0 1 = E at *
    obtain ⟨g, x, y⟩ := E
    simp only at hg H9
    obtain ⟨m1, m2, m3, m4, m5⟩ := hg
    obtain ⟨d1, d2⟩ := (m3 g).2 (Int.dvd_refl g)
    have hg0 : g = 0 ↔ a = 0 ∧ b = 0 := by
      constructor
      · rintro rfl
        exact ⟨Int.zero_dvd.1 d1, Int.zero_dvd.1 d2⟩
      · rintro ⟨rfl, rfl⟩
        exact Int.zero_dvd.1 ((m3 0).1 ⟨Int.dvd_refl _, Int.dvd_refl _⟩)
    have hgl : g ≤ 1099511627776 := by
      by_cases ha : 0 < a
      · have := Int.le_of_dvd ha d1; omega
      · by_cases hb : 0 < b
        · have := Int.le_of_dvd hb d2; omega
        · have := hg0.2 ⟨by omega, by omega⟩; omega
    have hw : wrap64 (wrap64 (a * x) + wrap64 (b * y)) = g := by
      rw [wrap_two, m1]; exact wrap_in (by unfold I64; omega)
    by_cases hz : g = 0
    · obtain ⟨rfl, rfl⟩ := hg0.1 hz
      subst hz
      clear m1 m3 d1 d2 hg0 m4 m5
      go_enter Try.func6, Try.ntmps6
      go_wp2_with (first
        | (go_at_call 9; (with_reducible refine (H9.out _).mono ?_); rintro e w1 ⟨rfl, HU1⟩)
        | (go_at_call 11; (with_reducible refine (t11 _).mono ?_); rintro e w3 ⟨rfl, HU3⟩))
      all_goals first
        | (go_ret; exact ⟨rfl, HU1.out.trans HU3.out⟩)
    · have t1 : a.tmod g = 0 := by rw [Int.tmod_eq_emod_of_nonneg h1]; exact Int.emod_eq_zero_of_dvd d1
      have t2 : b.tmod g = 0 := by rw [Int.tmod_eq_emod_of_nonneg h3]; exact Int.emod_eq_zero_of_dvd d2
      have t1' : a % g = 0 := Int.emod_eq_zero_of_dvd d1
      have t2' : b % g = 0 := Int.emod_eq_zero_of_dvd d2
      have hgb : (g == 0) = false := by simpa using hz
      have hgp : 0 < g := by omega
      have hab : (a == 0 && b == 0) = false := by
        rw [Bool.and_eq_false_iff]
        by_cases ha : a = 0
        · right; simp; intro hb; exact hz (hg0.2 ⟨ha, hb⟩)
        · left; simpa using ha
      clear m1 m3 d1 d2 hg0 m4 m5
      by_cases ha : a = 0
      · have hab1 : (a == 0) = true := by simpa using ha
        have hab2 : (b == 0) = false := by rw [hab1] at hab; simpa using hab
        clear ha
        go_enter Try.func6, Try.ntmps6
        go_wp2_with (first
          | (go_at_call 9; (with_reducible refine (H9.out _).mono ?_); rintro e w1 ⟨rfl, HU1⟩)
          | (go_at_call 11; (with_reducible refine (t11 _).mono ?_); rintro e w3 ⟨rfl, HU3⟩))
        all_goals first
          | (go_ret; exact ⟨rfl, HU1.out.trans HU3.out⟩)
      · have hab1 : (a == 0) = false := by simpa using ha
        go_enter Try.func6, Try.ntmps6
        go_wp2_with (first
          | (go_at_call 9; (with_reducible refine (H9.out _).mono ?_); rintro e w1 ⟨rfl, HU1⟩)
          | (go_at_call 11; (with_reducible refine (t11 _).mono ?_); rintro e w3 ⟨rfl, HU3⟩))
        all_goals first
          | (go_ret; exact ⟨rfl, HU1.out.trans HU3.out⟩)
  · have hb : (decide (a < 0) || decide (b < 0) || decide (1099511627776 < a) || decide (1099511627776 < b)) = true := by
      simp only [Bool.or_eq_true, decide_eq_true_eq]; omega
    go_enter Try.func6, Try.ntmps6
    go_wp2_with (first
      | (go_at_call 9; (with_reducible refine (t9e a b (by omega) _).mono ?_); rintro e w1 ⟨rfl, HU1⟩)
      | (go_at_call 11; (with_reducible refine (t11 _).mono ?_); rintro e w3 ⟨rfl, HU3⟩))
    all_goals first
      | (go_ret; exact ⟨rfl, HU1.out.trans HU3.out⟩)
      | (exfalso; simp_all; omega)
end Go.Proofs.Ytpahjenfkgcdlaa
