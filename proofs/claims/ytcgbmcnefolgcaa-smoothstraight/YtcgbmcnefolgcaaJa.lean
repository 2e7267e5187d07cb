/- An exact quotient of whole numbers. -/
import Derived.Test.YtcgbmcnefolgcaaWh
namespace Go.Proofs.Ytcgbmcnefolgcaa
open Go.Fl Ieee

theorem cancelR {a b c : Rat} (hc : 0 < c) (h : a * c = b * c) : a = b :=
  Rat.le_antisymm (le_of_mul hc (by rw [h]; exact Rat.le_refl)) (le_of_mul hc (by rw [h]; exact Rat.le_refl))
/-- Where Q n 2^j = m 2^i, n divides m 2^more. -/
theorem quo_divides {m n Q more : Nat} {i j : Int} (h : (Q : Rat) * ((n : Rat) * pw j) = (m : Rat) * pw i) (hm : 0 < m → i - j ≤ more) : n ∣ m * 2 ^ more := by
  rcases Nat.eq_zero_or_pos m with h0 | h0
  · subst h0; simp
  · have hm := hm h0
    rcases Int.le_total i j with hij | hij
    · obtain ⟨k, hk⟩ : ∃ k : Nat, j = i + k := ⟨(j - i).toNat, by omega⟩
      have e : ((Q * n * 2 ^ k : Nat) : Rat) = (m : Rat) := by
        refine cancelR (pw_pos i) ?_
        rw [← h, hk, pw_add, Rat.natCast_mul, Rat.natCast_mul, ← pw_nat]
        grind
      have e' : Q * n * 2 ^ k = m := Rat.natCast_inj.1 e
      rw [← e']
      exact ⟨Q * 2 ^ k * 2 ^ more, by rw [Nat.mul_comm Q n]; simp only [Nat.mul_assoc]⟩
    · obtain ⟨k, hk⟩ : ∃ k : Nat, i = j + k := ⟨(i - j).toNat, by omega⟩
      have e : ((Q * n : Nat) : Rat) = ((m * 2 ^ k : Nat) : Rat) := by
        refine cancelR (pw_pos j) ?_
        rw [hk, pw_add] at h
        rw [Rat.natCast_mul, Rat.natCast_mul, ← pw_nat]
        grind
      have e' : Q * n = m * 2 ^ k := Rat.natCast_inj.1 e
      obtain ⟨l, hl⟩ : ∃ l, more = k + l := ⟨more - k, by omega⟩
      rw [hl, Nat.pow_add, ← Nat.mul_assoc, ← e']
      exact ⟨Q * 2 ^ l, by rw [Nat.mul_comm Q n, Nat.mul_assoc]⟩
theorem WH.quo {a b : Option Nat} {z y : Int} (ha : WH a (z * y)) (hb : WH b y) (hy : y ≠ 0) (h1 : -P53 < z) (h2 : z < P53) : WH (bin .quo a b) z := by
  obtain ⟨p, rfl, fp, vp⟩ := ha
  obtain ⟨q, rfl, fq, vq⟩ := hb
  obtain ⟨s, m, i, ex⟩ := fin_read fp
  obtain ⟨t, n, j, ey⟩ := fin_read fq
  have vx := val_read ex
  have vy := val_read ey
  have hpi := pw_pos i
  have hpj := pw_pos j
  have hm0 : 0 ≤ (m : Rat) * pw i := Rat.mul_nonneg Rat.natCast_nonneg (Rat.le_of_lt hpi)
  have hyR : (y : Rat) ≠ 0 := by
    intro e
    have e2 : (y : Rat) = ((0 : Int) : Rat) := by simpa using e
    exact hy (Rat.intCast_inj.1 e2)
  have hn : 0 < n := by
    rcases Nat.eq_zero_or_pos n with h0 | h0
    · subst h0
      exfalso
      apply hyR
      rw [← vq, vy]
      cases t
      · rw [dv_false]; simp
      · rw [dv_true]; simp
    · exact h0
  have hA : 0 < (n : Rat) * pw j := Rat.mul_pos (Rat.natCast_pos.2 hn) hpj
  have hzy : (z : Rat) * val q = val p := by rw [vq, vp, Rat.intCast_mul]
  obtain ⟨A, eA⟩ : ∃ A : Rat, (n : Rat) * pw j = A := ⟨_, rfl⟩
  obtain ⟨B, eB⟩ : ∃ B : Rat, (m : Rat) * pw i = B := ⟨_, rfl⟩
  rw [eA] at hA
  rw [eB] at hm0
  -- the size of z
  have hQ : ((z.natAbs : Nat) : Rat) * A = B := by
    have hz0 : 0 ≤ ((z.natAbs : Nat) : Rat) * A := Rat.mul_nonneg Rat.natCast_nonneg (Rat.le_of_lt hA)
    have hz : (z : Rat) = ((z.natAbs : Nat) : Rat) ∨ (z : Rat) = -((z.natAbs : Nat) : Rat) := by
      rcases Int.natAbs_eq z with h | h
      · left; rw [← Rat.intCast_natCast]; exact congrArg _ h
      · right; rw [← Rat.intCast_natCast, ← Rat.intCast_neg]; exact congrArg _ h
    obtain ⟨Q, eQ⟩ : ∃ Q : Rat, ((z.natAbs : Nat) : Rat) = Q := ⟨_, rfl⟩
    rw [eQ] at hz hz0 ⊢
    rw [vx, vy] at hzy
    cases s <;> cases t <;> simp only [dv_false, dv_true, eA, eB] at hzy <;> rcases hz with h | h <;> rw [h] at hzy <;> grind
  obtain ⟨more, hmore⟩ : ∃ more, more = 54 + n.log2 - m.log2 := ⟨_, rfl⟩
  have hml : m.log2 ≤ 52 := by
    have := read_lt ex
    rcases Nat.lt_or_ge 52 m.log2 with h1 | h1
    · have h2 := Nat.pow_le_pow_right (show 0 < 2 by omega) (show 53 ≤ m.log2 by omega)
      rcases Nat.eq_zero_or_pos m with h0 | h0
      · subst h0; simp at h1
      · have := Nat.log2_self_le (n := m) (by omega)
        omega
    · exact h1
  have hdvd : n ∣ m * 2 ^ more := by
    refine quo_divides (Q := z.natAbs) (i := i) (j := j) (by rw [eA, eB]; exact hQ) fun hm => ?_
    rcases Int.lt_or_le (more : Int) (i - j) with hlt | hle
    · exfalso
      obtain ⟨k, hk⟩ : ∃ k : Nat, i = j + k := ⟨(i - j).toNat, by omega⟩
      have e : ((z.natAbs * n : Nat) : Rat) = ((m * 2 ^ k : Nat) : Rat) := by
        refine cancelR hpj ?_
        have hQ' := hQ
        rw [← eA, ← eB, hk, pw_add] at hQ'
        rw [Rat.natCast_mul, Rat.natCast_mul, ← pw_nat]
        grind
      have e' : z.natAbs * n = m * 2 ^ k := Rat.natCast_inj.1 e
      have a1 : 2 ^ m.log2 ≤ m := Nat.log2_self_le (by omega)
      have a2 : n < 2 ^ (n.log2 + 1) := Nat.lt_log2_self
      have a3 : z.natAbs ≤ 2 ^ 53 := by unfold P53 at h1 h2; omega
      have a4 : z.natAbs * n ≤ 2 ^ 53 * 2 ^ (n.log2 + 1) := Nat.mul_le_mul a3 (Nat.le_of_lt a2)
      have a5 : 2 ^ m.log2 * 2 ^ k ≤ m * 2 ^ k := Nat.mul_le_mul_right _ a1
      rw [← Nat.pow_add] at a4 a5
      have a6 := Nat.pow_lt_pow_right (show 1 < 2 by omega) (show 53 + (n.log2 + 1) < m.log2 + k by omega)
      omega
    · exact hle
  obtain ⟨D, hD⟩ : ∃ D, D = m * 2 ^ more := ⟨_, rfl⟩
  rw [← hD] at hdvd
  obtain ⟨K, hK⟩ : ∃ K, K = 2 * (D / n) + (D % n != 0).toNat := ⟨_, rfl⟩
  have hr : bin .quo (some p) (some q) = some (double.write (.number (s ^^ t) K (i - j - more - 1))) := by
    show double.div p q = _
    unfold Format.div
    rw [ex, ey]
    have e4 : double.fractionBits + 2 = 54 := rfl
    simp only [Datum.quotient, e4, shl, if_neg (show ¬ n = 0 by omega), Option.map_some, ← hmore, ← hD, ← hK]
  have hKn : K * n = 2 * D := by
    have hmod : D % n = 0 := Nat.mod_eq_zero_of_dvd hdvd
    rw [hK, hmod]
    have := Nat.div_mul_cancel hdvd
    simp
    rw [Nat.mul_assoc, this]
  obtain ⟨V, hV⟩ : ∃ V : Rat, (K : Rat) * pw (i - j - more - 1) = V := ⟨_, rfl⟩
  have hVA : V * A = B := by
    have c1 : V * A = ((K * n : Nat) : Rat) * pw (i - more - 1) := by
      rw [← hV, ← eA, Rat.natCast_mul]
      have : pw (i - j - more - 1) * pw j = pw (i - more - 1) := by rw [← pw_add]; exact congrArg pw (by omega)
      grind
    rw [c1, hKn, ← eB, hD, Rat.natCast_mul, Rat.natCast_mul, ← pw_nat]
    have : pw (i - more - 1) * pw (more : Int) = pw (i - 1) := by rw [← pw_add]; exact congrArg pw (by omega)
    have h2 := pw_half i
    have e2 : ((2 : Nat) : Rat) = 2 := rfl
    rw [e2]
    grind
  have hVQ : V = ((z.natAbs : Nat) : Rat) := cancelR hA (by rw [hVA, hQ])
  obtain ⟨f0, v0⟩ := whole_val h1 h2
  obtain ⟨b1, b2, b3⟩ := big53 h1 h2
  have hV53 : V ≤ pw 53 := by
    rw [hVQ, show pw 53 = ((9007199254740992 : Nat) : Rat) by decide +kernel]
    exact Rat.natCast_le_natCast.2 (by unfold P53 at h1 h2; omega)
  have hdv : dv (s ^^ t) K (i - j - more - 1) = (z : Rat) := by
    refine (show _ = _ from ?_)
    have hzA : (z : Rat) * dv t n j = dv s m i := by rw [← vx, ← vy]; exact hzy
    cases s <;> cases t <;> simp only [Bool.xor_false, Bool.xor_true, Bool.not_false, Bool.not_true, dv_false, dv_true, eA, eB, hV] at hzA ⊢
    · exact cancelR hA (by grind)
    · exact cancelR hA (by grind)
    · exact cancelR hA (by grind)
    · exact cancelR hA (by grind)
  refine ⟨_, hr, (write_near _ _ _ (B := pw 53) (by rw [hV]; exact hV53) b3).1, ?_⟩
  rw [write_same (y := floatOfInt .f64 z) (by rw [hV]; exact Rat.le_trans hV53 b3) (by rw [hdv, v0]), v0]
end Go.Proofs.Ytcgbmcnefolgcaa
