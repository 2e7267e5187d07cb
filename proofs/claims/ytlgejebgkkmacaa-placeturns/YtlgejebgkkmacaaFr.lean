/- Floats as rational numbers: how far a rounded number is from the exact one; rounding keeps an order. No program is spoken of here. -/
import Derived.Test.YtlgejebgkkmacaaO
namespace Go.Fl
open Ieee Go.RowKit

theorem two_ne : (2 : Rat) ≠ 0 := by decide
/-- A power of two. -/
def pw (e : Int) : Rat := (2 : Rat) ^ e
theorem pw_add (a b : Int) : pw (a + b) = pw a * pw b := Rat.zpow_add two_ne a b
theorem pw_nat (n : Nat) : pw (n : Int) = ((2 ^ n : Nat) : Rat) := by
  induction n with
  | zero => rfl
  | succ k ih =>
    rw [show ((k + 1 : Nat) : Int) = (k : Int) + 1 by omega, pw_add, ih, Nat.pow_succ]
    rw [show pw 1 = ((2 : Nat) : Rat) by decide +kernel, ← Rat.natCast_mul]
theorem pw_pos (e : Int) : 0 < pw e := by
  have h : ∀ n : Nat, 0 < pw (n : Int) := fun n => by
    rw [pw_nat]; exact Rat.natCast_pos.2 (Nat.two_pow_pos n)
  rcases Int.le_total 0 e with he | he
  · obtain ⟨n, rfl⟩ := Int.eq_ofNat_of_zero_le he
    exact h n
  · obtain ⟨n, hn⟩ := Int.eq_ofNat_of_zero_le (show 0 ≤ -e by omega)
    have e1 : pw e * pw (n : Int) = 1 := by
      rw [← pw_add, show e + (n : Int) = 0 by omega]; rfl
    have hp := h n
    rcases Rat.le_total (a := pw e) (b := 0) with h1 | h1
    · exfalso
      have := Rat.mul_le_mul_of_nonneg_right h1 (Rat.le_of_lt hp)
      grind
    · grind
theorem pw_mono {a b : Int} (h : a ≤ b) : pw a ≤ pw b := by
  obtain ⟨n, rfl⟩ := Int.le.dest h
  rw [pw_add, pw_nat]
  have h1 : (1 : Rat) ≤ ((2 ^ n : Nat) : Rat) := by
    rw [show (1 : Rat) = ((1 : Nat) : Rat) by rfl]; exact Rat.natCast_le_natCast.2 Nat.one_le_two_pow
  have := Rat.mul_le_mul_of_nonneg_left h1 (Rat.le_of_lt (pw_pos a))
  grind
/-- A whole number of units, scaled. -/
theorem pw_split {e k : Int} (h : k ≤ e) : pw e = ((2 ^ (e - k).toNat : Nat) : Rat) * pw k := by
  rw [← pw_nat, ← pw_add]
  congr 1
  omega
/-- The number that a finite float is. -/
def val (x : Nat) : Rat := ((sgn (x / 2 ^ 63 % 2 == 1) (mag (x % 2 ^ 63)) : Int) : Rat) * pw (-1074)
def dv (s : Bool) (m : Nat) (e : Int) : Rat := ((sgn s m : Int) : Rat) * pw e
theorem sgn_mul (s : Bool) (m k : Nat) : sgn s (m * k) = sgn s m * (k : Int) := by
  unfold sgn; split <;> simp [Int.neg_mul]
theorem val_read {x : Nat} {s : Bool} {m : Nat} {e : Int} (h : double.read x = .number s m e) : val x = dv s m e := by
  obtain ⟨h1, h2, h3, h4⟩ := read_num h
  unfold val dv
  rw [← h1, ← h4, sgn_mul, pw_split h3, Rat.intCast_mul, Rat.mul_assoc]
  congr 2
theorem val_word (s : Bool) {r : Nat} (h : r < 2 ^ 63) : val (double.word s r) = dv s (mag r) (-1074) := by
  unfold val dv
  have e : double.signWeight = 2 ^ 63 := rfl
  rw [word_mod s r h]
  congr 3
  unfold Format.word
  rw [e]
  cases s
  · simp; omega
  · simp
    omega

/-! Rounding, over whole numbers. -/
theorem cut_err (neg : Bool) (n drop : Nat) : 2 * (Toward.even.cut neg n drop * 2 ^ drop) ≤ 2 * n + 2 ^ drop ∧ 2 * n ≤ 2 * (Toward.even.cut neg n drop * 2 ^ drop) + 2 ^ drop := by
  unfold Toward.cut
  simp only [Nat.one_shiftLeft]
  rcases Nat.lt_or_ge (n.log2 + 2) drop with h | h
  · rw [Nat.min_eq_right (Nat.le_of_lt h)]
    have hn : n < 2 ^ (n.log2 + 1) := Nat.lt_log2_self
    have e1 : 2 ^ (n.log2 + 2) = 2 * 2 ^ (n.log2 + 1) := by rw [Nat.pow_succ]; omega
    have e2 : n / 2 ^ (n.log2 + 2) = 0 := Nat.div_eq_of_lt (by omega)
    have e3 : n % 2 ^ (n.log2 + 2) = n := Nat.mod_eq_of_lt (by omega)
    have e4 : 2 ^ (n.log2 + 2) ≤ 2 ^ drop := Nat.pow_le_pow_right (by omega) (Nat.le_of_lt h)
    rw [e2, e3]
    have f1 : decide (2 ^ (n.log2 + 2) < 2 * n) = false := by simp; omega
    have f2 : (2 ^ (n.log2 + 2) == 2 * n) = false := by rw [beq_eq_false_iff_ne]; omega
    simp only [f1, f2, Bool.false_and, Bool.or_false, Bool.toNat_false, Nat.zero_add, Nat.zero_mul]
    omega
  · rw [Nat.min_eq_left h]
    have hd := Nat.div_add_mod n (2 ^ drop)
    have hp := Nat.two_pow_pos drop
    have hm := Nat.mod_lt n hp
    generalize 2 ^ drop = g at *
    generalize n / g = q at *
    generalize n % g = r at *
    have e : ∀ k : Nat, (q + k) * g = g * q + k * g := fun k => by rw [Nat.add_mul, Nat.mul_comm q]
    rw [e]
    generalize g * q = t at *
    cases hb : (decide (g < 2 * r) || (g == 2 * r && q % 2 == 1))
    · simp only [Bool.or_eq_false_iff, decide_eq_false_iff_not] at hb
      simp; omega
    · simp only [Bool.or_eq_true, decide_eq_true_eq, Bool.and_eq_true, beq_iff_eq] at hb
      simp; omega

theorem mag_rung {L k : Nat} (hk : k ≤ 2 ^ 53) (hL : L = 0 ∨ 2 ^ 52 ≤ k) : mag (L * 2 ^ 52 + k) = k * 2 ^ L := by
  unfold mag
  rcases Nat.lt_or_ge k (2 ^ 52) with h | h
  · obtain rfl : L = 0 := by omega
    rw [if_pos (by omega)]; simp
  · rw [if_neg (by omega)]
    rcases Nat.lt_or_ge k (2 ^ 53) with h2 | h2
    · have e1 : (L * 2 ^ 52 + k) / 2 ^ 52 = L + 1 := by omega
      have e2 : (L * 2 ^ 52 + k) % 2 ^ 52 = k - 2 ^ 52 := by omega
      have e3 : 2 ^ 52 + (k - 2 ^ 52) = k := by omega
      rw [e1, e2, e3, Nat.add_sub_cancel]
    · obtain rfl : k = 2 ^ 53 := by omega
      have e1 : (L * 2 ^ 52 + 2 ^ 53) / 2 ^ 52 = L + 2 := by omega
      have e2 : (L * 2 ^ 52 + 2 ^ 53) % 2 ^ 52 = 0 := by omega
      rw [e1, e2]
      simp only [Nat.add_zero, show L + 2 - 1 = L + 1 by omega, Nat.pow_succ 2 L]
      omega
/-- A float that is neither endless nor NaN. -/
def Fnt (x : Nat) : Prop := x % 2 ^ 63 < 0x7ff0000000000000
theorem fin_read {x : Nat} (h : Fnt x) : ∃ s m e, double.read x = .number s m e := by
  unfold Fnt at h
  unfold Format.read
  have e1 : double.signWeight = 2 ^ 63 := rfl
  have e2 : double.binade = 2 ^ 52 := rfl
  have e3 : double.infRung = 0x7ff0000000000000 := rfl
  simp only [e1, e2, e3, if_pos h]
  split
  · exact ⟨_, _, _, rfl⟩
  · exact ⟨_, _, _, rfl⟩
theorem Fnt.num {x : Nat} (h : Fnt x) : isN x = false := by
  unfold Fnt at h
  rw [isN_mod]; simp; omega
/-- What the nearest float to a number is. -/
structure Rounds (s : Bool) (m : Nat) (e : Int) (r : Nat) (last : Int) (kept : Nat) : Prop where
  least : -1074 ≤ last
  value : val r = dv s kept last
  fin : Fnt r
  up : 2 * ((kept : Rat) * pw last) ≤ 2 * ((m : Rat) * pw e) + pw last
  down : 2 * ((m : Rat) * pw e) ≤ 2 * ((kept : Rat) * pw last) + pw last
  rel : last = -1074 ∨ pw (last + 52) ≤ (m : Rat) * pw e
  exact : last ≤ e → (kept : Rat) * pw last = (m : Rat) * pw e
  most : kept ≤ 2 ^ 53
  low : last = -1074 ∨ 2 ^ 52 ≤ kept
theorem shl (m k : Nat) : m <<< k = m * 2 ^ k := Nat.shiftLeft_eq m k
theorem rounds (s : Bool) {m : Nat} {e : Int} (hm : 0 < m) (hbig : e + m.log2 ≤ 1022) : ∃ last kept, Rounds s m e (double.nearest s m e) last kept := by
  have e1 : double.leastPlace = -1074 := rfl
  have e2 : double.binade = 2 ^ 52 := rfl
  have e3 : double.infRung = 0x7ff0000000000000 := rfl
  have e4 : double.fractionBits = 52 := rfl
  have hlog : 2 ^ m.log2 ≤ m := Nat.log2_self_le (by omega)
  have hlog2 : m < 2 ^ (m.log2 + 1) := Nat.lt_log2_self
  unfold Format.nearest
  rw [if_neg (by omega)]
  simp only [e1, e2, e3, e4, shl]
  generalize hl : max (e + (m.log2 : Int) - 52) (-1074) = last
  have hmpos : (0 : Rat) < m := Rat.natCast_pos.2 hm
  -- the shifted number, and its bounds
  obtain ⟨n, hn⟩ : ∃ n, n = m * 2 ^ (e - last).toNat := ⟨_, rfl⟩
  obtain ⟨d, hd⟩ : ∃ d, d = (last - e).toNat := ⟨_, rfl⟩
  rw [← hn, ← hd]
  obtain ⟨k, hk⟩ : ∃ k, k = Toward.even.cut s n d := ⟨_, rfl⟩
  have herr := cut_err s n d
  rw [← hk] at herr ⊢
  have hpd := Nat.two_pow_pos d
  -- n below 2^(53 + d), and from 2^(52 + d) on where it is no subnormal number
  have hnd : n < 2 ^ (53 + d) := by
    rcases Int.le_total e last with h | h
    · have : (e - last).toNat = 0 := by omega
      rw [hn, this, Nat.pow_zero, Nat.mul_one]
      exact Nat.lt_of_lt_of_le hlog2 (Nat.pow_le_pow_right (by omega) (by omega))
    · have h0 : d = 0 := by omega
      rw [hn, h0, Nat.add_zero]
      have : 2 ^ (m.log2 + 1) * 2 ^ (e - last).toNat ≤ 2 ^ 53 := by
        rw [← Nat.pow_add]; exact Nat.pow_le_pow_right (by omega) (by omega)
      exact Nat.lt_of_lt_of_le (Nat.mul_lt_mul_of_pos_right hlog2 (Nat.two_pow_pos _)) this
  have hnl : last = -1074 ∨ 2 ^ (52 + d) ≤ n := by
    rcases Int.le_total (e + m.log2 - 52) (-1074) with h | h
    · left; omega
    · right
      rcases Int.le_total e last with h' | h'
      · have h0 : (e - last).toNat = 0 := by omega
        rw [hn, h0, Nat.pow_zero, Nat.mul_one]
        exact Nat.le_trans (Nat.pow_le_pow_right (by omega) (by omega)) hlog
      · have h0 : d = 0 := by omega
        rw [hn, h0, Nat.add_zero]
        have : 2 ^ 52 ≤ 2 ^ m.log2 * 2 ^ (e - last).toNat := by
          rw [← Nat.pow_add]; exact Nat.pow_le_pow_right (by omega) (by omega)
        exact Nat.le_trans this (Nat.mul_le_mul_right _ hlog)
  have hk53 : k ≤ 2 ^ 53 := by
    have a : 2 ^ (53 + d) = 2 ^ 53 * 2 ^ d := Nat.pow_add _ _ _
    rcases Nat.lt_or_ge (2 ^ 53) k with h | h
    · exfalso
      have := Nat.mul_le_mul_right (2 ^ d) h
      have e : (2 ^ 53).succ * 2 ^ d = 2 ^ 53 * 2 ^ d + 2 ^ d := Nat.succ_mul _ _
      generalize 2 ^ 53 * 2 ^ d = A at *
      generalize k * 2 ^ d = B at *
      omega
    · exact h
  have hk52 : last = -1074 ∨ 2 ^ 52 ≤ k := by
    rcases hnl with h | h
    · exact Or.inl h
    · right
      have a : 2 ^ (52 + d) = 2 ^ 52 * 2 ^ d := Nat.pow_add _ _ _
      rcases Nat.lt_or_ge k (2 ^ 52) with h' | h'
      · exfalso
        have := Nat.mul_le_mul_right (2 ^ d) (show k + 1 ≤ 2 ^ 52 from h')
        have e : (k + 1) * 2 ^ d = k * 2 ^ d + 2 ^ d := Nat.succ_mul _ _
        generalize 2 ^ 52 * 2 ^ d = A at *
        generalize k * 2 ^ d = B at *
        omega
      · exact h'
  have hlast : -1074 ≤ last ∧ last ≤ 970 := by omega
  obtain ⟨L, hL⟩ := Int.eq_ofNat_of_zero_le (show 0 ≤ last - -1074 by omega)
  have hLt : (last - -1074).toNat = L := by omega
  rw [hLt]
  have hr : L * 2 ^ 52 + k < 0x7ff0000000000000 := by omega
  rw [Nat.min_eq_left (by omega)]
  have hmag : mag (L * 2 ^ 52 + k) = k * 2 ^ L := mag_rung hk53 (by omega)
  have hpl : pw last = ((2 ^ L : Nat) : Rat) * pw (-1074) := by
    rw [pw_split hlast.1, show (last - -1074).toNat = L by omega]
  -- n and m: the same number in other units
  have hval : (n : Rat) * pw (last - d) = (m : Rat) * pw e := by
    rw [hn, Rat.natCast_mul, Rat.mul_assoc, ← pw_nat, ← pw_add]
    congr 2
    omega
  have hunit : pw last = ((2 ^ d : Nat) : Rat) * pw (last - d) := by
    rw [pw_split (show last - d ≤ last by omega), show (last - (last - (d : Int))).toNat = d by omega]
  have hpp := pw_pos (last - d)
  have hup : (2 : Rat) * ((k : Rat) * ((2 ^ d : Nat) : Rat)) ≤ 2 * (n : Rat) + ((2 ^ d : Nat) : Rat) := by
    have := Rat.natCast_le_natCast.2 herr.1
    rw [Rat.natCast_mul, Rat.natCast_add, Rat.natCast_mul, Rat.natCast_mul] at this
    exact this
  have hdn : (2 : Rat) * (n : Rat) ≤ 2 * ((k : Rat) * ((2 ^ d : Nat) : Rat)) + ((2 ^ d : Nat) : Rat) := by
    have := Rat.natCast_le_natCast.2 herr.2
    rw [Rat.natCast_mul, Rat.natCast_add, Rat.natCast_mul, Rat.natCast_mul] at this
    exact this
  have hup2 := Rat.mul_le_mul_of_nonneg_right hup (Rat.le_of_lt hpp)
  have hdn2 := Rat.mul_le_mul_of_nonneg_right hdn (Rat.le_of_lt hpp)
  refine ⟨last, k, hlast.1, ?_, ?_, ?_, ?_, ?_, ?_, hk53, hk52⟩
  · rw [val_word s (by omega), hmag]
    unfold dv
    rw [sgn_mul, Rat.intCast_mul, Rat.mul_assoc, hpl]
    rfl
  · unfold Fnt
    rw [word_mod s _ (by omega)]
    exact hr
  · rw [← hval, hunit]; grind
  · rw [← hval, hunit]; grind
  · rcases hnl with h | h
    · exact Or.inl h
    · right
      rw [← hval]
      have h1 : ((2 ^ (52 + d) : Nat) : Rat) ≤ (n : Rat) := Rat.natCast_le_natCast.2 h
      have h2 := Rat.mul_le_mul_of_nonneg_right h1 (Rat.le_of_lt hpp)
      have h3 : pw (last + 52) = ((2 ^ (52 + d) : Nat) : Rat) * pw (last - d) := by
        rw [← pw_nat, ← pw_add]; congr 1; omega
      rw [h3]; exact h2
  · intro hle
    have h0 : d = 0 := by omega
    have : k = n := by
      have h1 := herr.1
      have h2 := herr.2
      rw [h0] at h1 h2
      simp only [Nat.pow_zero, Nat.mul_one] at h1 h2
      omega
    rw [this, ← hval, h0]
    congr 2
    omega
end Go.Fl
