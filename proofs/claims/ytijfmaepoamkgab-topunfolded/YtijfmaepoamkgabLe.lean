/- What Go's int(x) gives of a float that is not below 0 and not too great; floors as whole numbers; words that are not below 0. No program is spoken of here. -/
import Derived.Test.YtijfmaepoamkgabWh
namespace Go.Proofs.Ytijfmaepoamkgab.Gt
open Go.ChangeShapes Go.WideShapes Go.ChangeAt Go.RowKit Go.Fl Ieee

/-- Not below 0: a sign of 0, or the other nought. -/
def NN (x : Nat) : Prop := x < 2 ^ 63 ∨ x = 2 ^ 63
theorem nn_write {s : Bool} {m : Nat} {e : Int} (h : s = true → m = 0) : NN (double.write (.number s m e)) := by
  show NN (double.nearest s m e)
  cases s with
  | false =>
    left
    unfold Format.nearest
    have e3 : double.infRung = 0x7ff0000000000000 := rfl
    split
    · show 0 < _; omega
    · simp only [e3, Format.word]
      rw [if_neg (by simp)]
      omega
  | true =>
    right
    rw [h rfl]
    rfl
theorem nn_read {x : Nat} {s : Bool} {m : Nat} {e : Int} (hx : NN x) (h : double.read x = .number s m e) : s = true → m = 0 := by
  intro hs
  subst hs
  have := read_num h
  rcases hx with hx | hx
  · have h1 := this.1
    rw [show x / 2 ^ 63 = 0 by omega] at h1
    simp at h1
  · subst hx
    have e : double.read (2 ^ 63) = .number true 0 (-1074) := by decide +kernel
    rw [e] at h
    cases h; rfl
theorem nn_val {x : Nat} (hx : NN x) : 0 ≤ val x := by
  have hp := pw_pos (-1074)
  unfold val
  rcases hx with hx | hx
  · rw [show x / 2 ^ 63 = 0 by omega]
    exact Rat.mul_nonneg (by simp [sgn]; exact Rat.natCast_nonneg) (Rat.le_of_lt hp)
  · subst hx
    have : ((sgn (2 ^ 63 / 2 ^ 63 % 2 == 1) (mag (2 ^ 63 % 2 ^ 63)) : Int) : Rat) = 0 := by decide +kernel
    rw [this]; grind
theorem sign_of {x : Nat} {s : Bool} {m : Nat} {i : Int} (ex : double.read x = .number s m i) (h0 : 0 ≤ val x) : s = true → m = 0 := by
  have vx := val_read ex
  have hp := pw_pos i
  have hm0 : 0 ≤ (m : Rat) * pw i := Rat.mul_nonneg Rat.natCast_nonneg (Rat.le_of_lt hp)
  intro hs
  subst hs
  rw [dv_true] at vx
  have h0 : (m : Rat) * pw i = 0 := by grind
  rcases Nat.eq_zero_or_pos m with h1 | h1
  · exact h1
  · have := Rat.mul_pos (Rat.natCast_pos.2 h1) hp
    grind
theorem pos_of {y : Nat} {s : Bool} {m : Nat} {i : Int} (ey : double.read y = .number s m i) (h0 : 0 < val y) : s = false ∧ 0 < m := by
  have vy := val_read ey
  have hp := pw_pos i
  have hm0 : 0 ≤ (m : Rat) * pw i := Rat.mul_nonneg Rat.natCast_nonneg (Rat.le_of_lt hp)
  have hs : s = false := by
    cases s
    · rfl
    · rw [dv_true] at vy; grind
  subst hs
  refine ⟨rfl, ?_⟩
  rcases Nat.eq_zero_or_pos m with h1 | h1
  · subst h1; rw [dv_false] at vy; have z : ((0 : Nat) : Rat) = 0 := rfl; rw [z] at vy; grind
  · exact h1
/-- A quotient of what is not below 0 and what is above it. -/
theorem quo_nn {x y : Nat} (hx : Fnt x) (hy : Fnt y) (hx0 : 0 ≤ val x) (hy0 : 0 < val y) : ∃ r, bin .quo (some x) (some y) = some r ∧ NN r ∧ isN r = false := by
  obtain ⟨s, m, i, ex⟩ := fin_read hx
  obtain ⟨t, n, j, ey⟩ := fin_read hy
  have hs := sign_of ex hx0
  obtain ⟨rfl, hn⟩ := pos_of ey hy0
  obtain ⟨r, hr⟩ : ∃ r, bin .quo (some x) (some y) = some r := by
    show ∃ r, double.div x y = some r
    unfold Format.div
    rw [ex, ey]
    simp only [Datum.quotient, if_neg (show ¬ n = 0 by omega), Option.map_some, Option.some.injEq, exists_eq']
  refine ⟨r, hr, ?_, bits_ok (op := .quo) (x := x) (y := y) hr⟩
  have hr' : double.div x y = some r := hr
  unfold Format.div at hr'
  rw [ex, ey] at hr'
  simp only [Datum.quotient, if_neg (show ¬ n = 0 by omega), Option.map_some, Option.some.injEq] at hr'
  rw [← hr']
  refine nn_write fun h => ?_
  have hm : m = 0 := hs (by revert h; cases s <;> simp)
  subst hm
  simp [shl]
theorem floor_nn {r : Nat} (h : NN r) (hN : isN r = false) : NN (floor r) ∧ isN (floor r) = false := by
  refine ⟨?_, floor_ok hN⟩
  rcases not_nan hN with ⟨s, m, e, hr⟩ | ⟨s, hr⟩
  · have hs := nn_read h hr
    unfold floor
    rw [hr]
    refine nn_write fun h => ?_
    rw [hs h, h]
    simp [Toward.cut, shl]
  · have := read_inf hr
    rcases h with h | h
    · obtain rfl : r = 0x7ff0000000000000 := by omega
      left; decide +kernel
    · exfalso; subst h; simp at this
/-- A word that is not below 0 and below 2^50, is finite. -/
theorem nn_fnt {x : Nat} (hx : NN x) (hN : isN x = false) (h : (gtF (ab x) (ab 4832362400168542208) || eqF (ab x) (ab 4832362400168542208)) = false) : Fnt x ∧ val x < 1125899906842624 := by
  have hf2 : Fnt 4832362400168542208 ∧ val 4832362400168542208 = 1125899906842624 := ⟨by unfold Fnt; decide, by decide +kernel⟩
  have hf : Fnt x := by
    rcases hx with hl | hl
    · have := num_mod hN
      unfold Fnt
      rcases Nat.lt_or_ge (x % 2 ^ 63) 0x7ff0000000000000 with h1 | h1
      · exact h1
      · exfalso
        obtain rfl : x = 0x7ff0000000000000 := by omega
        revert h; decide +kernel
    · subst hl; unfold Fnt; decide
  refine ⟨hf, ?_⟩
  rw [gtF_val hf hf2.1, eqF_val hf hf2.1, hf2.2] at h
  simp at h
  grind
theorem toInt_val {x : Nat} (hx : Fnt x) (h0 : 0 ≤ val x) (hB : val x < 1125899906842624) : ∃ K : Nat, floatToIntVal .f64 x .i64 = some (K : Int) ∧ (K : Rat) ≤ val x ∧ val x < (K : Rat) + 1 ∧ K < 1125899906842624 := by
  obtain ⟨s, m, i, ex⟩ := fin_read hx
  have vx := val_read ex
  have hp := pw_pos i
  have hm0 : 0 ≤ (m : Rat) * pw i := Rat.mul_nonneg Rat.natCast_nonneg (Rat.le_of_lt hp)
  have hx' : val x = (m : Rat) * pw i := by
    cases s
    · rw [vx, dv_false]
    · rw [dv_true] at vx; grind
  have hsm : s = true → m = 0 := by
    intro hs
    subst hs
    rw [dv_true] at vx
    have h0 : (m : Rat) * pw i = 0 := by grind
    rcases Nat.eq_zero_or_pos m with h1 | h1
    · exact h1
    · have := Rat.mul_pos (Rat.natCast_pos.2 h1) hp
      grind
  obtain ⟨K, hK⟩ : ∃ K, K = Toward.zero.cut s (m <<< i.toNat) (-i).toNat := ⟨_, rfl⟩
  have hKd : K = m * 2 ^ i.toNat / 2 ^ (-i).toNat := by
    rw [hK]
    unfold Toward.cut
    simp only [shl, Nat.one_mul, Bool.toNat_false, Nat.add_zero]
    generalize m * 2 ^ i.toNat = n
    rcases Nat.lt_or_ge (n.log2 + 2) ((-i).toNat) with h | h
    · rw [Nat.min_eq_right (Nat.le_of_lt h)]
      have hn : n < 2 ^ (n.log2 + 1) := Nat.lt_log2_self
      have a1 : 2 ^ (n.log2 + 1) ≤ 2 ^ (n.log2 + 2) := Nat.pow_le_pow_right (by omega) (by omega)
      have a2 : 2 ^ (n.log2 + 2) ≤ 2 ^ ((-i).toNat) := Nat.pow_le_pow_right (by omega) (by omega)
      rw [Nat.div_eq_of_lt (by omega), Nat.div_eq_of_lt (by omega)]
    · rw [Nat.min_eq_left h]
  have hz0 : s = true → K = 0 := fun hs => by rw [hKd, hsm hs]; simp
  have hb : (K : Rat) ≤ val x ∧ val x < (K : Rat) + 1 := by
    rcases Int.le_total 0 i with hi | hi
    · have e1 : (-i).toNat = 0 := by omega
      have hKx : (K : Rat) = val x := by
        rw [hKd, e1, Nat.pow_zero, Nat.div_one, hx', Rat.natCast_mul, ← pw_nat, show ((i.toNat : Nat) : Int) = i by omega]
      constructor <;> grind
    · have e1 : i.toNat = 0 := by omega
      rw [e1, Nat.pow_zero, Nat.mul_one] at hKd
      obtain ⟨d, hd⟩ : ∃ d, d = (-i).toNat := ⟨_, rfl⟩
      rw [← hd] at hKd
      have hxi : val x * ((2 ^ d : Nat) : Rat) = (m : Rat) := by
        rw [hx', ← pw_nat, Rat.mul_assoc, ← pw_add, show i + (d : Int) = 0 by omega]
        have e0 : pw 0 = 1 := by decide +kernel
        rw [e0, Rat.mul_one]
      have hpd := Nat.two_pow_pos d
      have hpdR : (0 : Rat) < ((2 ^ d : Nat) : Rat) := Rat.natCast_pos.2 hpd
      have hdm := Nat.div_add_mod m (2 ^ d)
      have hlt := Nat.mod_lt m hpd
      rw [← hKd] at hdm
      have k1 : K * 2 ^ d ≤ m := by rw [Nat.mul_comm]; omega
      have k2 : m < (K + 1) * 2 ^ d := by rw [Nat.add_mul, Nat.mul_comm]; omega
      have k1' : (K : Rat) * ((2 ^ d : Nat) : Rat) ≤ (m : Rat) := by rw [← Rat.natCast_mul]; exact Rat.natCast_le_natCast.2 k1
      have k2' : (m : Rat) < ((K : Rat) + 1) * ((2 ^ d : Nat) : Rat) := by
        have := Rat.natCast_lt_natCast.2 k2
        rw [Rat.natCast_mul, Rat.natCast_add] at this
        exact this
      rw [← hxi] at k1' k2'
      refine ⟨le_of_mul hpdR k1', ?_⟩
      rcases (Rat.le_total : (K : Rat) + 1 ≤ val x ∨ val x ≤ (K : Rat) + 1) with h | h
      · exfalso
        have := Rat.mul_le_mul_of_nonneg_right h (Rat.le_of_lt hpdR)
        grind
      · refine Rat.lt_of_le_of_ne h fun e => ?_
        rw [e] at k2'
        grind
  have hK50 : K < 1125899906842624 := by
    rcases Nat.lt_or_ge K 1125899906842624 with h | h
    · exact h
    · exfalso
      have := Rat.natCast_le_natCast.2 h
      have e : ((1125899906842624 : Nat) : Rat) = 1125899906842624 := rfl
      rw [e] at this
      grind
  refine ⟨K, ?_, hb.1, hb.2, hK50⟩
  unfold floatToIntVal
  have et : (FloatKind.f64.decode x).toInt .zero = some (K : Int) := by
    show (double.read x).toInt .zero = _
    rw [ex]
    unfold Datum.toInt
    simp only [Datum.integral, ← hK]
    cases s
    · simp [signed]
    · rw [hz0 rfl]; rfl
  rw [et]
  simp only
  rw [if_pos]
  show (-9223372036854775808 : Int) ≤ K ∧ (K : Int) ≤ 9223372036854775807
  omega
theorem nat_between {K n : Nat} {x : Rat} (h1 : (K : Rat) ≤ x) (h2 : x < (K : Rat) + 1) (h3 : (n : Rat) ≤ x) (h4 : x < (n : Rat) + 1) : K = n := by
  have a : (K : Rat) < ((n + 1 : Nat) : Rat) := by rw [Rat.natCast_add]; have : ((1 : Nat) : Rat) = 1 := rfl; grind
  have b : (n : Rat) < ((K + 1 : Nat) : Rat) := by rw [Rat.natCast_add]; have : ((1 : Nat) : Rat) = 1 := rfl; grind
  have a' := Rat.natCast_lt_natCast.1 a
  have b' := Rat.natCast_lt_natCast.1 b
  omega
end Go.Proofs.Ytijfmaepoamkgab.Gt
