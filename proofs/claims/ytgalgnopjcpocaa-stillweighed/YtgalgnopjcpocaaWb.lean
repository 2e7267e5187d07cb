/- near1: the walk; lists of good points. -/
import Derived.Test.YtgalgnopjcpocaaFx
import Derived.Test.YtgalgnopjcpocaaM
namespace Go.Proofs.Ytgalgnopjcpocaa
open Go.ChangeShapes Go.WideShapes Go.ChangeAt Go.RowKit Go.Fl Ieee

/-! Whole numbers as floats; quotients of numbers below 0. -/
theorem int_write (s : Bool) {K : Nat} (hK : K < 2 ^ 53) : Fnt (double.write (.number s K 0)) ∧ val (double.write (.number s K 0)) = dv s K 0 := by
  have e0 : pw 0 = 1 := by decide +kernel
  have hb : (K : Rat) * pw 0 ≤ pw 53 := by
    have e53 : pw 53 = ((2 ^ 53 : Nat) : Rat) := pw_nat 53
    rw [e0, Rat.mul_one, e53]; exact Rat.natCast_le_natCast.2 (by omega)
  have hb2 : pw 53 ≤ pw 1000 := pw_mono (by omega)
  refine ⟨(write_near s K 0 hb hb2).1, ?_⟩
  rcases Nat.eq_zero_or_pos K with h1 | h1
  · subst h1
    have e2 : dv s 0 0 = 0 := by cases s <;> simp [dv, sgn]
    rw [e2, write_same (y := 0) (Rat.le_trans hb hb2) (by rw [e2, val0]), val0]
  · have hl0 : (0 : Int) + (K.log2 : Int) ≤ 53 := log_le h1 hb
    obtain ⟨last, kept, hr⟩ := rounds s (e := 0) h1 (by omega)
    have hl : last ≤ 0 := by
      rcases hr.rel with h2 | h2
      · omega
      · rcases Int.lt_or_le 0 last with h3 | h3
        · exfalso
          have a1 := pw_mono (show (53 : Int) ≤ last + 52 by omega)
          have e53 : pw 53 = ((2 ^ 53 : Nat) : Rat) := pw_nat 53
          have a2 : (K : Rat) < ((2 ^ 53 : Nat) : Rat) := Rat.natCast_lt_natCast.2 hK
          rw [e0, Rat.mul_one] at h2
          rw [e53] at a1
          grind
        · exact h3
    have e2 := hr.exact hl
    show val (double.nearest s K 0) = _
    rw [hr.value]
    cases s
    · rw [dv_false, dv_false, e2]
    · rw [dv_true, dv_true, e2]
theorem int_val {K : Nat} (hK : K < 2 ^ 53) : Fnt (floatOfInt .f64 (K : Int)) ∧ val (floatOfInt .f64 (K : Int)) = (K : Rat) := by
  have e : floatOfInt .f64 (K : Int) = double.write (.number false K 0) := by
    show double.write (.number (decide ((K : Int) < 0)) (K : Int).natAbs 0) = _
    have : decide ((K : Int) < 0) = false := by simp
    rw [this]; rfl
  obtain ⟨h1, h2⟩ := int_write false hK
  have e0 : pw 0 = 1 := by decide +kernel
  rw [e]
  exact ⟨h1, by rw [h2, dv_false, e0, Rat.mul_one]⟩
theorem neg_parts (x : Nat) : neg x % 2 ^ 63 = x % 2 ^ 63 ∧ neg x / 2 ^ 63 = x / 2 ^ 63 ^^^ 1 := by
  constructor
  · show (x ^^^ 2 ^ 63) % 2 ^ 63 = _
    rw [Nat.xor_mod_two_pow]; simp
  · show (x ^^^ 2 ^ 63) / 2 ^ 63 = _
    rw [Nat.xor_div_two_pow, show 2 ^ 63 / 2 ^ 63 = 1 by decide]
theorem of_parts {x y : Nat} (h1 : x % 2 ^ 63 = y % 2 ^ 63) (h2 : x / 2 ^ 63 = y / 2 ^ 63) : x = y := by omega
theorem neg_word (s : Bool) {r : Nat} (h : r < 2 ^ 63) : neg (double.word s r) = double.word (!s) r := by
  have e : double.signWeight = 2 ^ 63 := rfl
  obtain ⟨p1, p2⟩ := neg_parts (double.word s r)
  refine of_parts ?_ ?_
  · rw [p1, word_mod s r h, word_mod (!s) r h]
  · rw [p2]
    unfold Format.word
    rw [e]
    cases s
    · simp only [Bool.false_eq_true, if_false, Bool.not_false, if_true]
      rw [Nat.div_eq_of_lt h, show (2 ^ 63 + r) / 2 ^ 63 = 1 by omega]; rfl
    · simp only [Bool.not_true, Bool.false_eq_true, if_false, if_true]
      rw [Nat.div_eq_of_lt h, show (2 ^ 63 + r) / 2 ^ 63 = 1 by omega]; rfl
theorem neg_neg' (x : Nat) : neg (neg x) = x := by
  obtain ⟨p1, p2⟩ := neg_parts x
  obtain ⟨q1, q2⟩ := neg_parts (neg x)
  refine of_parts (by rw [q1, p1]) ?_
  rw [q2, p2, Nat.xor_assoc]; simp
theorem write_neg (s : Bool) (m : Nat) (e : Int) : double.write (.number (!s) m e) = neg (double.write (.number s m e)) := by
  show double.nearest (!s) m e = neg (double.nearest s m e)
  have e3 : double.infRung = 0x7ff0000000000000 := rfl
  unfold Format.nearest
  split
  · rw [neg_word s (by omega)]
  · simp only [e3]
    rw [neg_word s (by omega)]
    rfl
theorem read_neg {x : Nat} {s : Bool} {m : Nat} {e : Int} (h : double.read x = .number s m e) : double.read (neg x) = .number (!s) m e := by
  obtain ⟨p1, p2⟩ := neg_parts x
  have hs : (neg x / 2 ^ 63 % 2 == 1) = !(x / 2 ^ 63 % 2 == 1) := by
    rw [p2]
    have := Nat.xor_mod_two_pow (a := x / 2 ^ 63) (b := 1) (n := 1)
    simp only [Nat.pow_one] at this
    rw [this]
    rcases Nat.mod_two_eq_zero_or_one (x / 2 ^ 63) with h | h <;> rw [h] <;> decide
  unfold Format.read at *
  have e1 : double.signWeight = 2 ^ 63 := rfl
  simp only [e1] at *
  rw [p1, hs]
  split at h
  · rename_i h1
    rw [if_pos h1]
    injection h with a b c
    rw [a, b, c]
  · rename_i h1
    rw [if_neg h1]
    split at h
    · rename_i h2
      rw [if_pos h2]
      injection h with a b c
      rw [a, b, c]
    · split at h <;> cases h
theorem quo_neg {a b : Nat} (ha : Fnt a) (hb : Fnt b) : bin .quo (some (neg a)) (some b) = (bin .quo (some a) (some b)).map neg := by
  obtain ⟨s, m, i, ex⟩ := fin_read ha
  obtain ⟨t, n, j, ey⟩ := fin_read hb
  show double.div (neg a) b = (double.div a b).map neg
  unfold Format.div
  rw [ex, ey, read_neg ex]
  simp only [Datum.quotient]
  split
  · split
    · rfl
    · simp only [Option.map_some]
      congr 1
      have e3 : double.infRung = 0x7ff0000000000000 := rfl
      show double.word (!s ^^ t) double.infRung = neg (double.word (s ^^ t) double.infRung)
      rw [neg_word _ (by rw [e3]; omega)]
      cases s <;> cases t <;> rfl
  · simp only [Option.map_some]
    congr 1
    rw [← write_neg]
    cases s <;> cases t <;> rfl
theorem int_neg {K : Nat} (h : 0 < K) : floatOfInt .f64 (-(K : Int)) = neg (floatOfInt .f64 (K : Int)) := by
  show double.write (.number (decide (-(K : Int) < 0)) (-(K : Int)).natAbs 0) = neg (double.write (.number (decide ((K : Int) < 0)) (K : Int).natAbs 0))
  have d1 : decide (-(K : Int) < 0) = true := by simp; omega
  have d2 : decide ((K : Int) < 0) = false := by simp
  rw [d1, d2, Int.natAbs_neg, ← write_neg]; rfl
/-- Of a whole number by a greater one: a float from 0 to 1. -/
theorem unit_quo {r n : Nat} (h1 : 1 ≤ n) (hr : r ≤ n) (hn : n ≤ 16384) : ∃ x, bin .quo (some (floatOfInt .f64 (r : Int))) (some (floatOfInt .f64 (n : Int))) = some x ∧ Fnt x ∧ 0 ≤ val x ∧ val x ≤ 2 ∧ ∃ κ : Rat, κ * (n : Rat) = (r : Rat) ∧ Near (val x) κ (3 * u53) := by
  obtain ⟨f1, v1⟩ := int_val (K := r) (by omega)
  obtain ⟨f2, v2⟩ := int_val (K := n) (by omega)
  have hn0 : (0 : Rat) < (n : Rat) := Rat.natCast_pos.2 (by omega)
  have hr0 : (0 : Rat) ≤ (r : Rat) := Rat.natCast_nonneg
  have hrn : (r : Rat) ≤ (n : Rat) := Rat.natCast_le_natCast.2 hr
  obtain ⟨κ, hκ⟩ : ∃ κ : Rat, κ * (n : Rat) = (r : Rat) := ⟨(r : Rat) / n, by rw [Rat.div_mul_cancel (by grind)]⟩
  have κ1 : κ ≤ 1 := le_of_mul hn0 (by grind)
  have hq : ∃ q, bin .quo (some (floatOfInt .f64 (r : Int))) (some (floatOfInt .f64 (n : Int))) = some q := by
    obtain ⟨s, a, i, ex⟩ := fin_read f1
    obtain ⟨t, b, j, ey⟩ := fin_read f2
    have vm := val_read ey
    have hb : b ≠ 0 := by
      intro h0
      subst h0
      have : dv t 0 j = 0 := by cases t <;> simp [dv, sgn]
      grind
    show ∃ q, double.div _ _ = some q
    unfold Format.div
    rw [ex, ey]
    simp only [Datum.quotient, if_neg hb, Option.map_some]
    exact ⟨_, rfl⟩
  obtain ⟨x, hx⟩ := hq
  obtain ⟨x1, x2, x3⟩ := quo_near f1 f2 (by rw [v1]; exact hr0) (by rw [v2]; exact hn0) hx (κ := κ) (B := 1) (by rw [v1, v2]; exact hκ) κ1 (by
    have := pw_mono (show (0 : Int) ≤ 990 by omega)
    have e0 : pw 0 = 1 := by decide +kernel
    rw [e0] at this; exact this)
  have hη := eta_le
  have hh : h80 ≤ 1 / 1000000 * u53 := by decide +kernel
  have hu0 : 0 ≤ u53 := by decide +kernel
  have hu1 : u53 ≤ 1 / 100000000 := by decide +kernel
  have hu2 : pw (-52) = 2 * u53 := by decide +kernel
  rw [hu2] at x2
  generalize pw (-1075) = η at *
  obtain ⟨x21, x22⟩ := x2
  refine ⟨x, hx, x1, x3, by grind, κ, hκ, ?_⟩
  unfold Near
  constructor <;> grind
theorem unit_good {k n : Int} (h1 : 1 ≤ n) (hn : n ≤ 16384) : ∃ c s, unitP k n = (some c, some s) ∧ Good c s := by
  obtain ⟨N, rfl⟩ := Int.eq_ofNat_of_zero_le (show 0 ≤ n by omega)
  have b1 := Int.tmod_lt_of_pos k (show (0 : Int) < N by omega)
  have b2 : -(N : Int) < k.tmod N := Int.lt_tmod_of_pos k (show (0 : Int) < N by omega)
  have hR : -(N : Int) ≤ unitR k N ∧ unitR k N ≤ N := by
    unfold unitR
    simp only
    generalize k.tmod N = t at *
    split <;> split <;> omega
  obtain ⟨fN, vN⟩ := int_val (K := N) (by omega)
  have key : ∃ x, unitX k N = some x ∧ Fnt x ∧ -2 ≤ val x ∧ val x ≤ 2 := by
    unfold unitX
    generalize unitR k N = R at *
    rcases Int.lt_or_le R 0 with hneg | hpos
    · obtain ⟨K, hK⟩ := Int.eq_ofNat_of_zero_le (show 0 ≤ -R by omega)
      have hR2 : R = -(K : Int) := by omega
      have hK0 : 0 < K := by omega
      obtain ⟨fK, vK⟩ := int_val (K := K) (by omega)
      obtain ⟨x, x1, x2, x3, x4, _⟩ := unit_quo (r := K) (n := N) (by omega) (by omega) (by omega)
      refine ⟨neg x, ?_, fin_neg x2, by rw [vneg]; grind, by rw [vneg]; grind⟩
      rw [hR2, int_neg hK0, Fnt.ab (fin_neg fK), Fnt.ab fN, quo_neg fK fN, x1]
      rfl
    · obtain ⟨K, hK⟩ := Int.eq_ofNat_of_zero_le hpos
      subst hK
      obtain ⟨fK, vK⟩ := int_val (K := K) (by omega)
      obtain ⟨x, x1, x2, x3, x4, _⟩ := unit_quo (r := K) (n := N) (by omega) (by omega) (by omega)
      exact ⟨x, by rw [Fnt.ab fK, Fnt.ab fN]; exact x1, x2, by grind, x4⟩
  obtain ⟨x, hx, fx, x1, x2⟩ := key
  obtain ⟨k1, k2⟩ := big2 x2 x1
  obtain ⟨c, s, hc, hs, hg⟩ := turn_good fx k1 k2
  refine ⟨c, s, ?_, hg⟩
  unfold unitP unitC unitS
  rw [if_neg (by omega), if_neg (by omega), hx, hc, hs]
end Go.Proofs.Ytgalgnopjcpocaa
