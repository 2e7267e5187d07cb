/- The point of any finite number of turns; the magnitude of such a point. -/
import Derived.Test.YtlgejebgkkmacaaFy
namespace Go.Proofs.Ytlgejebgkkmacaa
open Go.Fl Ieee Go.RowKit

theorem clean_val {v : Nat} (h : Fnt v) : ∃ r, cleanF (some v) = some r ∧ Fnt r ∧ val r = val v := by
  unfold cleanF
  have g := eqF_val h fzero.1
  rw [Fnt.ab h, fzero.2] at g
  rw [g]
  by_cases h0 : val v = 0
  · rw [if_pos (by simp [h0])]
    exact ⟨0, Fnt.ab fzero.1, fzero.1, by rw [fzero.2, h0]⟩
  · rw [if_neg (by simp [h0])]
    exact ⟨v, rfl, h, rfl⟩
theorem Good.swap {c s : Nat} (h : Good c s) : Good s c := by
  refine ⟨h.fs, h.fc, ?_⟩
  have := h.near
  rw [Rat.add_comm]; exact this
/-- Parts that have the same numbers, but for a sign. -/
theorem Good.like {c s c' s' : Nat} (h : Good c s) (f1 : Fnt c') (f2 : Fnt s') (h1 : val c' = val c ∨ val c' = -val c) (h2 : val s' = val s ∨ val s' = -val s) : Good c' s' := by
  refine ⟨f1, f2, ?_⟩
  have e1 : val c' * val c' = val c * val c := by rcases h1 with h | h <;> rw [h] <;> grind
  have e2 : val s' * val s' = val s * val s := by rcases h2 with h | h <;> rw [h] <;> grind
  rw [e1, e2]; exact h.near
theorem turn_good {x : Nat} (hx : Fnt x) (hB : val x ≤ pw 1000) (hB' : -pw 1000 ≤ val x) : ∃ c s, turnC (some x) = some c ∧ turnS (some x) = some s ∧ Good c s := by
  obtain ⟨w, w1, w2, w3, w4⟩ := wrap_val hx hB hB'
  obtain ⟨a, a1, a2, a3, a4⟩ := twice_val w2 w3 w4
  obtain ⟨c, s, c1, s1, hg⟩ := east_good a2 a3 a4
  have hf := fin_of hx
  rw [Fnt.ab hx] at hf
  unfold turnC turnS
  rw [if_pos hf, if_pos hf, w1]
  unfold pointC pointS
  rw [a1, c1, s1]
  -- swapped or not
  have hsw : ∃ p q, (if swapped (some w) = true then some s else some c) = some p ∧ (if swapped (some w) = true then some c else some s) = some q ∧ Good p q := by
    cases swapped (some w)
    · exact ⟨c, s, rfl, rfl, hg⟩
    · exact ⟨s, c, rfl, rfl, hg.swap⟩
  obtain ⟨p, q, hp, hq, hg2⟩ := hsw
  simp only [hp, hq]
  have h1 : ∃ p', (if flipped (some w) = true then (some p).map neg else some p) = some p' ∧ Fnt p' ∧ (val p' = val p ∨ val p' = -val p) := by
    cases flipped (some w)
    · exact ⟨p, rfl, hg2.fc, Or.inl rfl⟩
    · exact ⟨neg p, rfl, fin_neg hg2.fc, Or.inr (vneg p)⟩
  have h2 : ∃ q', (if ltF (some w) (ab 0) = true then (some q).map neg else some q) = some q' ∧ Fnt q' ∧ (val q' = val q ∨ val q' = -val q) := by
    cases ltF (some w) (ab 0)
    · exact ⟨q, rfl, hg2.fs, Or.inl rfl⟩
    · exact ⟨neg q, rfl, fin_neg hg2.fs, Or.inr (vneg q)⟩
  obtain ⟨p', e1, f1, v1⟩ := h1
  obtain ⟨q', e2, f2, v2⟩ := h2
  rw [e1, e2]
  obtain ⟨p2, k1, k2, k3⟩ := clean_val f1
  obtain ⟨q2, l1, l2, l3⟩ := clean_val f2
  exact ⟨p2, q2, k1, l1, hg2.like k2 l2 (by grind) (by grind)⟩

/-! The magnitude. -/
theorem sq_le {a b : Rat} (ha : 0 ≤ a) (hb : 0 ≤ b) (h : a * a ≤ b * b) : a ≤ b := by
  rcases Rat.le_total (a := a) (b := b) with h1 | h1
  · exact h1
  · by_cases he : a = b
    · rw [he]; exact Rat.le_refl
    · have hlt : b < a := by grind
      have h2 := Rat.mul_le_mul_of_nonneg_left h1 ha
      have h3 := Rat.mul_lt_mul_of_pos_right hlt (show 0 < a by grind)
      have h4 := Rat.mul_le_mul_of_nonneg_left h1 hb
      grind
theorem abs_one {m n : Nat} (fm : Fnt m) (fn : Fnt n) (hn0 : 0 ≤ val n) (hmn : val n ≤ val m) (hQ : Near (val m * val m + val n * val n) 1 (11 * u53)) :
    ∃ q t v r A D, bin .quo (some n) (some m) = some q ∧ bin .mul (some q) (some q) = some t ∧ bin .add (some 4607182418800017408) (some t) = some v ∧ Fnt v ∧ double.sqrt v = some r ∧ bin .mul (some m) (some r) = some A ∧ bin .sub (some A) (some 4607182418800017408) = some D ∧ Fnt D ∧ val D ≤ 16 * u53 ∧ -(16 * u53) ≤ val D ∧ 0 < val m := by
  have hη := eta_le
  have hη2 : (0 : Rat) ≤ pw (-1075) := Rat.le_of_lt (pw_pos _)
  have hh : h80 ≤ 1 / 1000000 * u53 := by decide +kernel
  have hu0 : 0 ≤ u53 := by decide +kernel
  have hu1 : u53 ≤ 1 / 100000000 := by decide +kernel
  have hu : pw (-53) = u53 := pw53
  have hu2 : pw (-52) = 2 * u53 := by decide +kernel
  obtain ⟨f1, v1⟩ := fone
  obtain ⟨Q1, Q2⟩ := hQ
  have hm0 : 0 ≤ val m := Rat.le_trans hn0 hmn
  have hnn : val n * val n ≤ val m * val m := by
    have a1 := Rat.mul_le_mul_of_nonneg_right hmn hn0
    have a2 := Rat.mul_le_mul_of_nonneg_left hmn hm0
    grind
  have hnn0 : 0 ≤ val n * val n := Rat.mul_nonneg hn0 hn0
  have hm7 : 7 / 10 ≤ val m := sq_le (by decide +kernel) hm0 (by grind)
  have hm1 : val m ≤ 10001 / 10000 := sq_le hm0 (by decide +kernel) (by grind)
  have hmpos : 0 < val m := by grind
  -- q
  obtain ⟨κ, hκ⟩ : ∃ κ : Rat, κ * val m = val n := ⟨val n / val m, by rw [Rat.div_mul_cancel (by grind)]⟩
  have κ0 : 0 ≤ κ := le_of_mul hmpos (by grind)
  have κ1 : κ ≤ 1 := le_of_mul hmpos (by grind)
  have hq' : ∃ q, bin .quo (some n) (some m) = some q := by
    obtain ⟨s, a, i, ex⟩ := fin_read fn
    obtain ⟨t, b, j, ey⟩ := fin_read fm
    have vm := val_read ey
    have hb : b ≠ 0 := by
      intro h0
      subst h0
      have : dv t 0 j = 0 := by cases t <;> simp [dv, sgn]
      grind
    show ∃ q, double.div n m = some q
    unfold Format.div
    rw [ex, ey]
    simp only [Datum.quotient, if_neg hb, Option.map_some]
    exact ⟨_, rfl⟩
  obtain ⟨q, hq⟩ := hq'
  obtain ⟨q1, q2, q3⟩ := quo_near fn fm hn0 hmpos hq hκ (B := 1) κ1 (by
    have := pw_mono (show (0 : Int) ≤ 990 by omega)
    have e0 : pw 0 = 1 := by decide +kernel
    rw [e0] at this; exact this)
  rw [hu2] at q2
  generalize hηd : pw (-1075) = η at *
  obtain ⟨q21, q22⟩ := q2
  have q4 : val q ≤ 10001 / 10000 := by grind
  -- t
  obtain ⟨t, ht⟩ := bin_some_mul q1 q1
  have qq0 : 0 ≤ val q * val q := Rat.mul_nonneg q3 q3
  have qq1 : val q * val q ≤ 1001 / 1000 := by
    have a1 := Rat.mul_le_mul_of_nonneg_right q4 q3
    grind
  obtain ⟨t1, t2⟩ := mul_near q1 q1 ht (B := 1001 / 1000) qq1 (by grind) (big_ok (by decide +kernel))
  rw [hu, hηd] at t2
  obtain ⟨t38, t992299⟩ := t2
  obtain ⟨k1, k2⟩ := big2 (v := val q * val q) (by grind) (by grind)
  have t99399 := (mul_mono q1 q1 ht k1 k2 (z := 0)).2 (by rw [val0]; exact qq0)
  rw [val0] at t99399
  -- v
  obtain ⟨v, hv⟩ := bin_some_add f1 t1
  obtain ⟨v1', v2⟩ := add_near f1 t1 hv (B := 2002 / 1000) (by grind) (by grind) (by
    have := pw_mono (show (2 : Int) ≤ 1000 by omega)
    have e2 : pw 2 = 4 := by decide +kernel
    generalize pw 1000 = W at *
    grind)
  rw [hu] at v2
  obtain ⟨v21, v22⟩ := v2
  have v3 := (add_mono f1 t1 hv (by
    have := pw_mono (show (2 : Int) ≤ 1000 by omega)
    have e2 : pw 2 = 4 := by decide +kernel
    generalize pw 1000 = W at *
    grind) (by
    have := pw_mono (show (2 : Int) ≤ 1000 by omega)
    have e2 : pw 2 = 4 := by decide +kernel
    generalize pw 1000 = W at *
    grind) (z := 4607182418800017408)).2 (by grind)
  have v4 : 1 ≤ val v := by grind
  have v5 : val v ≤ 201 / 100 := by grind
  -- r
  have hr' : ∃ r, double.sqrt v = some r := by
    obtain ⟨s, a, i, ex⟩ := fin_read v1'
    have vv := val_read ex
    have hs : s = false := by
      cases s
      · rfl
      · rw [dv_true] at vv
        have : 0 ≤ (a : Rat) * pw i := Rat.mul_nonneg Rat.natCast_nonneg (Rat.le_of_lt (pw_pos i))
        grind
    subst hs
    unfold Format.sqrt
    rw [ex]
    simp only [Datum.root]
    split
    · exact ⟨_, rfl⟩
    · exact ⟨_, rfl⟩
  obtain ⟨r, hr⟩ := hr'
  obtain ⟨r1, r2, r3, r4⟩ := sqrt_near v1' v4 v5 hr
  rw [hu] at r4
  obtain ⟨r41, r42⟩ := r4
  -- r r against 1 + κ κ
  obtain ⟨dq, hdq⟩ : ∃ dq : Rat, dq = val q - κ := ⟨_, rfl⟩
  have dq1 : dq ≤ 201 / 100 * u53 := by grind
  have dq2 : -(201 / 100 * u53) ≤ dq := by grind
  have sk : val q + κ ≤ 20002 / 10000 := by grind
  have sk' : -(20002 / 10000) ≤ val q + κ := by grind
  obtain ⟨w1, w2⟩ := mul_bd dq1 dq2 sk sk'
  have idq : val q * val q - κ * κ = dq * (val q + κ) := by rw [hdq]; grind
  obtain ⟨R, hR⟩ : ∃ R : Rat, R = val r * val r - (1 + κ * κ) := ⟨_, rfl⟩
  have R1 : R ≤ 1414 / 100 * u53 := by rw [hR]; grind
  have R2 : -(1414 / 100 * u53) ≤ R := by rw [hR]; grind
  have mm1 : val m * val m ≤ 1001 / 1000 := by
    have a1 := Rat.mul_le_mul_of_nonneg_right hm1 hm0
    grind
  have mm0 : 0 ≤ val m * val m := Rat.mul_nonneg hm0 hm0
  obtain ⟨x1, x2⟩ := mul_bd mm1 (show -(1001 / 1000) ≤ val m * val m by grind) R1 R2
  have idm : (val m * val r) * (val m * val r) = val m * val m + val n * val n + val m * val m * R := by
    rw [hR, ← hκ]; grind
  -- A
  obtain ⟨M, hM⟩ : ∃ M : Rat, M = val m * val r := ⟨_, rfl⟩
  have M0 : 0 ≤ M := by rw [hM]; exact Rat.mul_nonneg hm0 r2
  rw [← hM] at idm
  have MM : M * M ≤ 1 + 26 * u53 := by grind
  have MM' : 1 - 26 * u53 ≤ M * M := by grind
  have M1 : M ≤ 101 / 100 := sq_le M0 (by decide +kernel) (by grind)
  obtain ⟨A, hA⟩ := bin_some_mul fm r1
  obtain ⟨A1, A2⟩ := mul_near fm r1 hA (B := 101 / 100) (by rw [← hM]; exact M1) (by rw [← hM]; grind) (big_ok (by decide +kernel))
  rw [hu, hηd, ← hM] at A2
  obtain ⟨A21, A22⟩ := A2
  have A0 := (mul_mono fm r1 hA (by rw [← hM]; exact (big2 (v := M) (by grind) (by grind)).1) (by rw [← hM]; exact (big2 (v := M) (by grind) (by grind)).2) (z := 0)).2 (by rw [val0, ← hM]; exact M0)
  rw [val0] at A0
  obtain ⟨dA, hdA⟩ : ∃ dA : Rat, dA = val A - M := ⟨_, rfl⟩
  have dA1 : dA ≤ 102 / 100 * u53 := by grind
  have dA2 : -(102 / 100 * u53) ≤ dA := by grind
  have sA : val A + M ≤ 203 / 100 := by grind
  have sA' : -(203 / 100) ≤ val A + M := by grind
  obtain ⟨y1, y2⟩ := mul_bd dA1 dA2 sA sA'
  have idA : val A * val A - M * M = dA * (val A + M) := by rw [hdA]; grind
  have AA1 : val A * val A ≤ 1 + 29 * u53 := by grind
  have AA2 : 1 - 29 * u53 ≤ val A * val A := by grind
  -- A against 1
  have uu0 : 0 ≤ u53 * u53 := Rat.mul_nonneg hu0 hu0
  have uu1 : u53 * u53 ≤ 1 / 100000000 * u53 := Rat.mul_le_mul_of_nonneg_right hu1 hu0
  have up : val A ≤ 1 + 155 / 10 * u53 := sq_le A0 (by grind) (by grind)
  have dn : 1 - 155 / 10 * u53 ≤ val A := sq_le (by grind) A0 (by grind)
  -- D
  obtain ⟨D, hD⟩ := bin_some_sub A1 f1
  obtain ⟨D1, D2⟩ := sub_near A1 f1 hD (B := 1 / 100) (by grind) (by grind) (big_ok (by decide +kernel))
  rw [hu] at D2
  obtain ⟨D21, D22⟩ := D2
  exact ⟨q, t, v, r, A, D, hq, ht, hv, v1', hr, hA, hD, D1, by grind, by grind, hmpos⟩
end Go.Proofs.Ytlgejebgkkmacaa
