/- Floats as rational numbers: how far a rounded number is from the exact one; rounding keeps an order. No program is spoken of here. -/
import Derived.Test.YtijfmaepoamkgabO
namespace Go.Fl
open Ieee Go.RowKit

theorem two_ne : (2 : Rat) ≠ 0 := by decide
/-- A power of two. -/
def pw (e : Int) : Rat := (2 : Rat) ^ e
theorem pw_add (a b : Int) : pw (a + b) = pw a * pw b := Rat.zpow_add two_ne a b
theorem pw_nat (n : Nat) : pw (n : Int) = ((2 ^ n : Nat) : Rat) := by
  induction n with
  | zero => rfl
  | succ k ih =>
    rw [show ((k + 1 : Nat) : Int) = (k : Int) + 1 by omega, pw_add, ih, Nat.pow_succ]
    rw [show pw 1 = ((2 : Nat) : Rat) by decide +kernel, ← Rat.natCast_mul]
theorem pw_pos (e : Int) : 0 < pw e := by
  have h : ∀ n : Nat, 0 < pw (n : Int) := fun n => by
    rw [pw_nat]; exact Rat.natCast_pos.2 (Nat.two_pow_pos n)
  rcases Int.le_total 0 e with he | he
  · obtain ⟨n, rfl⟩ := Int.eq_ofNat_of_zero_le he
    exact h n
  · obtain ⟨n, hn⟩ := Int.eq_ofNat_of_zero_le (show 0 ≤ -e by omega)
    have e1 : pw e * pw (n : Int) = 1 := by
      rw [← pw_add, show e + (n : Int) = 0 by omega]; rfl
    have hp := h n
    rcases Rat.le_total (a := pw e) (b := 0) with h1 | h1
    · exfalso
      have := Rat.mul_le_mul_of_nonneg_right h1 (Rat.le_of_lt hp)
      grind
    · grind
theorem pw_mono {a b : Int} (h : a ≤ b) : pw a ≤ pw b := by
  obtain ⟨n, rfl⟩ := Int.le.dest h
  rw [pw_add, pw_nat]
  have h1 : (1 : Rat) ≤ ((2 ^ n : Nat) : Rat) := by
    rw [show (1 : Rat) = ((1 : Nat) : Rat) by rfl]; exact Rat.natCast_le_natCast.2 Nat.one_le_two_pow
  have := Rat.mul_le_mul_of_nonneg_left h1 (Rat.le_of_lt (pw_pos a))
  grind
/-- A whole number of units, scaled. -/
theorem pw_split {e k : Int} (h : k ≤ e) : pw e = ((2 ^ (e - k).toNat : Nat) : Rat) * pw k := by
  rw [← pw_nat, ← pw_add]
  congr 1
  omega
/-- The number that a finite float is. -/
def val (x : Nat) : Rat := ((sgn (x / 2 ^ 63 % 2 == 1) (mag (x % 2 ^ 63)) : Int) : Rat) * pw (-1074)
def dv (s : Bool) (m : Nat) (e : Int) : Rat := ((sgn s m : Int) : Rat) * pw e
theorem sgn_mul (s : Bool) (m k : Nat) : sgn s (m * k) = sgn s m * (k : Int) := by
  unfold sgn; split <;> simp [Int.neg_mul]
theorem val_read {x : Nat} {s : Bool} {m : Nat} {e : Int} (h : double.read x = .number s m e) : val x = dv s m e := by
  obtain ⟨h1, h2, h3, h4⟩ := read_num h
  unfold val dv
  rw [← h1, ← h4, sgn_mul, pw_split h3, Rat.intCast_mul, Rat.mul_assoc]
  congr 2
theorem val_word (s : Bool) {r : Nat} (h : r < 2 ^ 63) : val (double.word s r) = dv s (mag r) (-1074) := by
  unfold val dv
  have e : double.signWeight = 2 ^ 63 := rfl
  rw [word_mod s r h]
  congr 3
  unfold Format.word
  rw [e]
  cases s
  · simp; omega
  · simp
    omega

/-! Rounding, over whole numbers. -/
theorem cut_err (neg : Bool) (n drop : Nat) : 2 * (Toward.even.cut neg n drop * 2 ^ drop) ≤ 2 * n + 2 ^ drop ∧ 2 * n ≤ 2 * (Toward.even.cut neg n drop * 2 ^ drop) + 2 ^ drop := by
  unfold Toward.cut
  simp only [Nat.one_shiftLeft]
  rcases Nat.lt_or_ge (n.log2 + 2) drop with h | h
  · rw [Nat.min_eq_right (Nat.le_of_lt h)]
    have hn : n < 2 ^ (n.log2 + 1) := Nat.lt_log2_self
    have e1 : 2 ^ (n.log2 + 2) = 2 * 2 ^ (n.log2 + 1) := by rw [Nat.pow_succ]; omega
    have e2 : n / 2 ^ (n.log2 + 2) = 0 := Nat.div_eq_of_lt (by omega)
    have e3 : n % 2 ^ (n.log2 + 2) = n := Nat.mod_eq_of_lt (by omega)
    have e4 : 2 ^ (n.log2 + 2) ≤ 2 ^ drop := Nat.pow_le_pow_right (by omega) (Nat.le_of_lt h)
    rw [e2, e3]
    have f1 : decide (2 ^ (n.log2 + 2) < 2 * n) = false := by simp; omega
    have f2 : (2 ^ (n.log2 + 2) == 2 * n) = false := by rw [beq_eq_false_iff_ne]; omega
    simp only [f1, f2, Bool.false_and, Bool.or_false, Bool.toNat_false, Nat.zero_add, Nat.zero_mul]
    omega
  · rw [Nat.min_eq_left h]
    have hd := Nat.div_add_mod n (2 ^ drop)
    have hp := Nat.two_pow_pos drop
    have hm := Nat.mod_lt n hp
    generalize 2 ^ drop = g at *
    generalize n / g = q at *
    generalize n % g = r at *
    have e : ∀ k : Nat, (q + k) * g = g * q + k * g := fun k => by rw [Nat.add_mul, Nat.mul_comm q]
    rw [e]
    generalize g * q = t at *
    cases hb : (decide (g < 2 * r) || (g == 2 * r && q % 2 == 1))
    · simp only [Bool.or_eq_false_iff, decide_eq_false_iff_not] at hb
      simp; omega
    · simp only [Bool.or_eq_true, decide_eq_true_eq, Bool.and_eq_true, beq_iff_eq] at hb
      simp; omega

theorem mag_rung {L k : Nat} (hk : k ≤ 2 ^ 53) (hL : L = 0 ∨ 2 ^ 52 ≤ k) : mag (L * 2 ^ 52 + k) = k * 2 ^ L := by
  unfold mag
  rcases Nat.lt_or_ge k (2 ^ 52) with h | h
  · obtain rfl : L = 0 := by omega
    rw [if_pos (by omega)]; simp
  · rw [if_neg (by omega)]
    rcases Nat.lt_or_ge k (2 ^ 53) with h2 | h2
    · have e1 : (L * 2 ^ 52 + k) / 2 ^ 52 = L + 1 := by omega
      have e2 : (L * 2 ^ 52 + k) % 2 ^ 52 = k - 2 ^ 52 := by omega
      have e3 : 2 ^ 52 + (k - 2 ^ 52) = k := by omega
      rw [e1, e2, e3, Nat.add_sub_cancel]
    · obtain rfl : k = 2 ^ 53 := by omega
      have e1 : (L * 2 ^ 52 + 2 ^ 53) / 2 ^ 52 = L + 2 := by omega
      have e2 : (L * 2 ^ 52 + 2 ^ 53) % 2 ^ 52 = 0 := by omega
      rw [e1, e2]
      simp only [Nat.add_zero, show L + 2 - 1 = L + 1 by omega, Nat.pow_succ 2 L]
      omega
/-- A float that is neither endless nor NaN. -/
def Fnt (x : Nat) : Prop := x % 2 ^ 63 < 0x7ff0000000000000
theorem fin_read {x : Nat} (h : Fnt x) : ∃ s m e, double.read x = .number s m e := by
  unfold Fnt at h
  unfold Format.read
  have e1 : double.signWeight = 2 ^ 63 := rfl
  have e2 : double.binade = 2 ^ 52 := rfl
  have e3 : double.infRung = 0x7ff0000000000000 := rfl
  simp only [e1, e2, e3, if_pos h]
  split
  · exact ⟨_, _, _, rfl⟩
  · exact ⟨_, _, _, rfl⟩
theorem Fnt.num {x : Nat} (h : Fnt x) : isN x = false := by
  unfold Fnt at h
  rw [isN_mod]; simp; omega
/-- What the nearest float to a number is. -/
structure Rounds (s : Bool) (m : Nat) (e : Int) (r : Nat) (last : Int) (kept : Nat) : Prop where
  least : -1074 ≤ last
  value : val r = dv s kept last
  fin : Fnt r
  up : 2 * ((kept : Rat) * pw last) ≤ 2 * ((m : Rat) * pw e) + pw last
  down : 2 * ((m : Rat) * pw e) ≤ 2 * ((kept : Rat) * pw last) + pw last
  rel : last = -1074 ∨ pw (last + 52) ≤ (m : Rat) * pw e
  exact : last ≤ e → (kept : Rat) * pw last = (m : Rat) * pw e
  most : kept ≤ 2 ^ 53
  low : last = -1074 ∨ 2 ^ 52 ≤ kept
theorem shl (m k : Nat) : m <<< k = m * 2 ^ k := Nat.shiftLeft_eq m k
theorem rounds (s : Bool) {m : Nat} {e : Int} (hm : 0 < m) (hbig : e + m.log2 ≤ 1022) : ∃ last kept, Rounds s m e (double.nearest s m e) last kept := by
  have e1 : double.leastPlace = -1074 := rfl
  have e2 : double.binade = 2 ^ 52 := rfl
  have e3 : double.infRung = 0x7ff0000000000000 := rfl
  have e4 : double.fractionBits = 52 := rfl
  have hlog : 2 ^ m.log2 ≤ m := Nat.log2_self_le (by omega)
  have hlog2 : m < 2 ^ (m.log2 + 1) := Nat.lt_log2_self
  unfold Format.nearest
  rw [if_neg (by omega)]
  simp only [e1, e2, e3, e4, shl]
  generalize hl : max (e + (m.log2 : Int) - 52) (-1074) = last
  have hmpos : (0 : Rat) < m := Rat.natCast_pos.2 hm
  -- the shifted number, and its bounds
  obtain ⟨n, hn⟩ : ∃ n, n = m * 2 ^ (e - last).toNat := ⟨_, rfl⟩
  obtain ⟨d, hd⟩ : ∃ d, d = (last - e).toNat := ⟨_, rfl⟩
  rw [← hn, ← hd]
  obtain ⟨k, hk⟩ : ∃ k, k = Toward.even.cut s n d := ⟨_, rfl⟩
  have herr := cut_err s n d
  rw [← hk] at herr ⊢
  have hpd := Nat.two_pow_pos d
  -- n below 2^(53 + d), and from 2^(52 + d) on where it is no subnormal number
  have hnd : n < 2 ^ (53 + d) := by
    rcases Int.le_total e last with h | h
    · have : (e - last).toNat = 0 := by omega
      rw [hn, this, Nat.pow_zero, Nat.mul_one]
      exact Nat.lt_of_lt_of_le hlog2 (Nat.pow_le_pow_right (by omega) (by omega))
    · have h0 : d = 0 := by omega
      rw [hn, h0, Nat.add_zero]
      have : 2 ^ (m.log2 + 1) * 2 ^ (e - last).toNat ≤ 2 ^ 53 := by
        rw [← Nat.pow_add]; exact Nat.pow_le_pow_right (by omega) (by omega)
      exact Nat.lt_of_lt_of_le (Nat.mul_lt_mul_of_pos_right hlog2 (Nat.two_pow_pos _)) this
  have hnl : last = -1074 ∨ 2 ^ (52 + d) ≤ n := by
    rcases Int.le_total (e + m.log2 - 52) (-1074) with h | h
    · left; omega
    · right
      rcases Int.le_total e last with h' | h'
      · have h0 : (e - last).toNat = 0 := by omega
        rw [hn, h0, Nat.pow_zero, Nat.mul_one]
        exact Nat.le_trans (Nat.pow_le_pow_right (by omega) (by omega)) hlog
      · have h0 : d = 0 := by omega
        rw [hn, h0, Nat.add_zero]
        have : 2 ^ 52 ≤ 2 ^ m.log2 * 2 ^ (e - last).toNat := by
          rw [← Nat.pow_add]; exact Nat.pow_le_pow_right (by omega) (by omega)
        exact Nat.le_trans this (Nat.mul_le_mul_right _ hlog)
  have hk53 : k ≤ 2 ^ 53 := by
    have a : 2 ^ (53 + d) = 2 ^ 53 * 2 ^ d := Nat.pow_add _ _ _
    rcases Nat.lt_or_ge (2 ^ 53) k with h | h
    · exfalso
      have := Nat.mul_le_mul_right (2 ^ d) h
      have e : (2 ^ 53).succ * 2 ^ d = 2 ^ 53 * 2 ^ d + 2 ^ d := Nat.succ_mul _ _
      generalize 2 ^ 53 * 2 ^ d = A at *
      generalize k * 2 ^ d = B at *
      omega
    · exact h
  have hk52 : last = -1074 ∨ 2 ^ 52 ≤ k := by
    rcases hnl with h | h
    · exact Or.inl h
    · right
      have a : 2 ^ (52 + d) = 2 ^ 52 * 2 ^ d := Nat.pow_add _ _ _
      rcases Nat.lt_or_ge k (2 ^ 52) with h' | h'
      · exfalso
        have := Nat.mul_le_mul_right (2 ^ d) (show k + 1 ≤ 2 ^ 52 from h')
        have e : (k + 1) * 2 ^ d = k * 2 ^ d + 2 ^ d := Nat.succ_mul _ _
        generalize 2 ^ 52 * 2 ^ d = A at *
        generalize k * 2 ^ d = B at *
        omega
      · exact h'
  have hlast : -1074 ≤ last ∧ last ≤ 970 := by omega
  obtain ⟨L, hL⟩ := Int.eq_ofNat_of_zero_le (show 0 ≤ last - -1074 by omega)
  have hLt : (last - -1074).toNat = L := by omega
  rw [hLt]
  have hr : L * 2 ^ 52 + k < 0x7ff0000000000000 := by omega
  rw [Nat.min_eq_left (by omega)]
  have hmag : mag (L * 2 ^ 52 + k) = k * 2 ^ L := mag_rung hk53 (by omega)
  have hpl : pw last = ((2 ^ L : Nat) : Rat) * pw (-1074) := by
    rw [pw_split hlast.1, show (last - -1074).toNat = L by omega]
  -- n and m: the same number in other units
  have hval : (n : Rat) * pw (last - d) = (m : Rat) * pw e := by
    rw [hn, Rat.natCast_mul, Rat.mul_assoc, ← pw_nat, ← pw_add]
    congr 2
    omega
  have hunit : pw last = ((2 ^ d : Nat) : Rat) * pw (last - d) := by
    rw [pw_split (show last - d ≤ last by omega), show (last - (last - (d : Int))).toNat = d by omega]
  have hpp := pw_pos (last - d)
  have hup : (2 : Rat) * ((k : Rat) * ((2 ^ d : Nat) : Rat)) ≤ 2 * (n : Rat) + ((2 ^ d : Nat) : Rat) := by
    have := Rat.natCast_le_natCast.2 herr.1
    rw [Rat.natCast_mul, Rat.natCast_add, Rat.natCast_mul, Rat.natCast_mul] at this
    exact this
  have hdn : (2 : Rat) * (n : Rat) ≤ 2 * ((k : Rat) * ((2 ^ d : Nat) : Rat)) + ((2 ^ d : Nat) : Rat) := by
    have := Rat.natCast_le_natCast.2 herr.2
    rw [Rat.natCast_mul, Rat.natCast_add, Rat.natCast_mul, Rat.natCast_mul] at this
    exact this
  have hup2 := Rat.mul_le_mul_of_nonneg_right hup (Rat.le_of_lt hpp)
  have hdn2 := Rat.mul_le_mul_of_nonneg_right hdn (Rat.le_of_lt hpp)
  refine ⟨last, k, hlast.1, ?_, ?_, ?_, ?_, ?_, ?_, hk53, hk52⟩
  · rw [val_word s (by omega), hmag]
    unfold dv
    rw [sgn_mul, Rat.intCast_mul, Rat.mul_assoc, hpl]
    rfl
  · unfold Fnt
    rw [word_mod s _ (by omega)]
    exact hr
  · rw [← hval, hunit]; grind
  · rw [← hval, hunit]; grind
  · rcases hnl with h | h
    · exact Or.inl h
    · right
      rw [← hval]
      have h1 : ((2 ^ (52 + d) : Nat) : Rat) ≤ (n : Rat) := Rat.natCast_le_natCast.2 h
      have h2 := Rat.mul_le_mul_of_nonneg_right h1 (Rat.le_of_lt hpp)
      have h3 : pw (last + 52) = ((2 ^ (52 + d) : Nat) : Rat) * pw (last - d) := by
        rw [← pw_nat, ← pw_add]; congr 1; omega
      rw [h3]; exact h2
  · intro hle
    have h0 : d = 0 := by omega
    have : k = n := by
      have h1 := herr.1
      have h2 := herr.2
      rw [h0] at h1 h2
      simp only [Nat.pow_zero, Nat.mul_one] at h1 h2
      omega
    rw [this, ← hval, h0]
    congr 2
    omega
end Go.Fl
/- The steps of float64 arithmetic, as rational numbers with a bound. No program is spoken of here. -/
namespace Go.Fl
open Ieee Go.RowKit

/-- Two numbers are near each other. -/
def Near (a b E : Rat) : Prop := a ≤ b + E ∧ b ≤ a + E
theorem sgn_neg (m : Nat) : sgn true m = -(m : Int) := rfl
theorem dv_false (m : Nat) (e : Int) : dv false m e = (m : Rat) * pw e := rfl
theorem dv_true (m : Nat) (e : Int) : dv true m e = -((m : Rat) * pw e) := by
  show ((-(m : Int) : Int) : Rat) * pw e = _
  rw [Rat.intCast_neg, Rat.neg_mul]
  rfl
theorem pw_half (e : Int) : pw (e - 1) * 2 = pw e := by
  rw [show (2 : Rat) = pw 1 by decide +kernel, ← pw_add]; congr 1; omega
theorem Rounds.near {s : Bool} {m : Nat} {e : Int} {r : Nat} {last : Int} {kept : Nat} (h : Rounds s m e r last kept) : Near (val r) (dv s m e) (pw (-53) * ((m : Rat) * pw e) + pw (-1075)) ∧ (-1074 ≤ e → Near (val r) (dv s m e) (pw (-53) * ((m : Rat) * pw e))) := by
  have hv0 : 0 ≤ (m : Rat) * pw e := Rat.mul_nonneg Rat.natCast_nonneg (Rat.le_of_lt (pw_pos e))
  have hu : pw last ≤ 2 * (pw (-53) * ((m : Rat) * pw e)) ∨ last = -1074 := by
    rcases h.rel with h1 | h1
    · exact Or.inr h1
    · left
      have h2 := Rat.mul_le_mul_of_nonneg_left h1 (Rat.le_of_lt (pw_pos (-53)))
      have h3 : pw (-53) * pw (last + 52) = pw (last - 1) := by rw [← pw_add]; congr 1; omega
      have h4 := pw_half last
      grind
  have hup := h.up
  have hdn := h.down
  have hE : pw last ≤ 2 * (pw (-53) * ((m : Rat) * pw e) + pw (-1075)) := by
    have hp := pw_pos (-1075)
    have hp2 := Rat.mul_nonneg (Rat.le_of_lt (pw_pos (-53))) hv0
    rcases hu with h1 | h1
    · grind
    · rw [h1]
      have := pw_half (-1074)
      have e1 : (-1074 : Int) - 1 = -1075 := by omega
      rw [e1] at this
      grind
  have key : ∀ E : Rat, (kept : Rat) * pw last ≤ (m : Rat) * pw e + E → (m : Rat) * pw e ≤ (kept : Rat) * pw last + E → Near (val r) (dv s m e) E := by
    intro E h1 h2
    rw [h.value]
    unfold Near
    cases s
    · rw [dv_false, dv_false]; exact ⟨h1, h2⟩
    · rw [dv_true, dv_true]; constructor <;> grind
  refine ⟨key _ (by grind) (by grind), fun he => ?_⟩
  have hE2 := Rat.mul_nonneg (Rat.le_of_lt (pw_pos (-53))) hv0
  rcases hu with h1 | h1
  · exact key _ (by grind) (by grind)
  · have := h.exact (by omega)
    exact key _ (by grind) (by grind)
theorem pw_lt {a b : Int} (h : a < b) : pw a < pw b := by
  have h1 := pw_mono (show a + 1 ≤ b by omega)
  have h2 := pw_half (a + 1)
  rw [show a + 1 - 1 = a by omega] at h2
  have := pw_pos a
  grind
theorem log_le {m : Nat} {e N : Int} (hm : 0 < m) (h : (m : Rat) * pw e ≤ pw N) : e + m.log2 ≤ N := by
  rcases Int.lt_or_le N (e + m.log2) with h1 | h1
  · exfalso
    have h2 : ((2 ^ m.log2 : Nat) : Rat) ≤ (m : Rat) := Rat.natCast_le_natCast.2 (Nat.log2_self_le (by omega))
    have h3 := Rat.mul_le_mul_of_nonneg_right h2 (Rat.le_of_lt (pw_pos e))
    rw [← pw_nat, ← pw_add] at h3
    have h4 := pw_lt h1
    rw [show e + (m.log2 : Int) = (m.log2 : Int) + e by omega] at h4
    grind
  · exact h1
theorem val_zero (s : Bool) : val (double.word s 0) = 0 := by
  rw [val_word s (by omega), show mag 0 = 0 by decide +kernel]
  cases s <;> simp [dv, sgn]
/-- The float that is written for a number. -/
theorem write_near (s : Bool) (m : Nat) (e : Int) {B : Rat} (hB : (m : Rat) * pw e ≤ B) (hB2 : B ≤ pw 1000) :
    Fnt (double.write (.number s m e)) ∧ Near (val (double.write (.number s m e))) (dv s m e) (pw (-53) * B + pw (-1075)) ∧ (-1074 ≤ e → Near (val (double.write (.number s m e))) (dv s m e) (pw (-53) * B)) := by
  have hp := pw_pos (-53)
  have hp2 := pw_pos (-1075)
  have hv0 : 0 ≤ (m : Rat) * pw e := Rat.mul_nonneg Rat.natCast_nonneg (Rat.le_of_lt (pw_pos e))
  have hBm := Rat.mul_le_mul_of_nonneg_left hB (Rat.le_of_lt hp)
  have hB0 := Rat.mul_nonneg (Rat.le_of_lt hp) hv0
  show Fnt (double.nearest s m e) ∧ Near (val (double.nearest s m e)) _ _ ∧ (_ → Near (val (double.nearest s m e)) _ _)
  rcases Nat.eq_zero_or_pos m with h0 | h0
  · subst h0
    have e1 : double.nearest s 0 e = double.word s 0 := by simp [Format.nearest]
    have e2 : dv s 0 e = 0 := by cases s <;> simp [dv, sgn]
    rw [e1, val_zero, e2]
    refine ⟨?_, ?_, fun _ => ?_⟩
    · unfold Fnt; rw [word_mod s 0 (by omega)]; omega
    · unfold Near; constructor <;> grind
    · unfold Near; constructor <;> grind
  · have hlog : e + m.log2 ≤ 1000 := log_le h0 (Rat.le_trans hB hB2)
    obtain ⟨last, kept, hr⟩ := rounds s (e := e) h0 (by omega)
    obtain ⟨n1, n2⟩ := hr.near
    refine ⟨hr.fin, ?_, fun he => ?_⟩
    · unfold Near at *; constructor <;> grind
    · have := n2 he
      unfold Near at *; constructor <;> grind
theorem val_bits {x y : Nat} (h : x = y) : val x = val y := by rw [h]
/-- x times y. -/
theorem mul_near {x y r : Nat} (hx : Fnt x) (hy : Fnt y) (h : bin .mul (some x) (some y) = some r) {B : Rat} (hB : val x * val y ≤ B) (hB' : -B ≤ val x * val y) (hB2 : B ≤ pw 1000) :
    Fnt r ∧ Near (val r) (val x * val y) (pw (-53) * B + pw (-1075)) := by
  obtain ⟨s, m, i, ex⟩ := fin_read hx
  obtain ⟨t, n, j, ey⟩ := fin_read hy
  have hr : r = double.write (.number (s ^^ t) (m * n) (i + j)) := by
    have h' : double.mul x y = some r := h
    unfold Format.mul at h'
    rw [ex, ey] at h'
    simp only [Datum.product, Option.map_some, Option.some.injEq] at h'
    exact h'.symm
  have hv : val x * val y = dv (s ^^ t) (m * n) (i + j) := by
    rw [val_read ex, val_read ey]
    cases s <;> cases t <;> simp only [dv_false, dv_true, Bool.xor_false, Bool.xor_true, Bool.not_false, Bool.not_true, Rat.natCast_mul, pw_add] <;> grind
  have hb : ((m * n : Nat) : Rat) * pw (i + j) ≤ B := by
    rw [hv] at hB hB'
    cases hst : (s ^^ t)
    · rw [hst, dv_false] at hB; exact hB
    · rw [hst, dv_true] at hB'; grind
  obtain ⟨w1, w2, _⟩ := write_near (s ^^ t) (m * n) (i + j) hb hB2
  rw [hr, hv]
  exact ⟨w1, w2⟩
theorem sum_val {s t : Bool} {m n : Nat} {i j : Int} : ∃ (g : Bool) (k : Nat), (Datum.number s m i).sum (.number t n j) = some (.number g k (min i j)) ∧ dv g k (min i j) = dv s m i + dv t n j := by
  refine ⟨_, _, rfl, ?_⟩
  generalize hb : min i j = b
  have h1 : dv s m i = ((signed s m (i - b).toNat : Int) : Rat) * pw b := by
    unfold dv signed
    rw [pw_split (show b ≤ i by omega), ← Rat.mul_assoc]
    congr 1
    cases s <;> simp [sgn, shl, Rat.intCast_neg, Rat.neg_mul, Rat.intCast_natCast]
  have h2 : dv t n j = ((signed t n (j - b).toNat : Int) : Rat) * pw b := by
    unfold dv signed
    rw [pw_split (show b ≤ j by omega), ← Rat.mul_assoc]
    congr 1
    cases t <;> simp [sgn, shl, Rat.intCast_neg, Rat.neg_mul, Rat.intCast_natCast]
  rw [h1, h2, ← Rat.add_mul, ← Rat.intCast_add]
  generalize signed s m (i - b).toNat + signed t n (j - b).toNat = T
  unfold dv
  congr 2
  by_cases h0 : T = 0
  · subst h0; simp [sgn]
  · rw [if_neg h0]
    by_cases hn : T < 0
    · simp [hn, sgn]; omega
    · simp [hn, sgn]; omega

theorem val_neg {x : Nat} (hx : x < 2 ^ 64) : val (neg x) = -val x := by
  have h1 : neg x % 2 ^ 63 = x % 2 ^ 63 := by
    show (x ^^^ 2 ^ 63) % 2 ^ 63 = _
    rw [Nat.xor_mod_two_pow]; simp
  have h2 : neg x / 2 ^ 63 = if x < 2 ^ 63 then 1 else 0 := by
    show (x ^^^ 2 ^ 63) / 2 ^ 63 = _
    rw [Nat.xor_div_two_pow]
    split
    · rw [Nat.div_eq_of_lt (by assumption)]; simp
    · have : x / 2 ^ 63 = 1 := by omega
      rw [this]; simp
  unfold val
  rw [h1, h2]
  rcases Nat.lt_or_ge x (2 ^ 63) with h | h
  · rw [if_pos h, show x / 2 ^ 63 = 0 by omega]
    simp [sgn, Rat.intCast_neg, Rat.neg_mul]
  · rw [if_neg (by omega), show x / 2 ^ 63 = 1 by omega]
    simp [sgn, Rat.intCast_neg, Rat.neg_mul, Rat.neg_neg]
/-- x plus y, x less y: no bound below. -/
theorem add_near {x y r : Nat} (hx : Fnt x) (hy : Fnt y) (h : bin .add (some x) (some y) = some r) {B : Rat} (hB : val x + val y ≤ B) (hB' : -B ≤ val x + val y) (hB2 : B ≤ pw 1000) :
    Fnt r ∧ Near (val r) (val x + val y) (pw (-53) * B) := by
  obtain ⟨s, m, i, ex⟩ := fin_read hx
  obtain ⟨t, n, j, ey⟩ := fin_read hy
  obtain ⟨g, k, e1, e2⟩ := sum_val (s := s) (t := t) (m := m) (n := n) (i := i) (j := j)
  have hr : r = double.write (.number g k (min i j)) := by
    have h' : double.add x y = some r := h
    unfold Format.add at h'
    rw [ex, ey, e1] at h'
    simp only [Option.map_some, Option.some.injEq] at h'
    exact h'.symm
  have hv : val x + val y = dv g k (min i j) := by rw [val_read ex, val_read ey, e2]
  have hb : (k : Rat) * pw (min i j) ≤ B := by
    rw [hv] at hB hB'
    cases g
    · rw [dv_false] at hB; exact hB
    · rw [dv_true] at hB'; grind
  obtain ⟨w1, _, w3⟩ := write_near g k (min i j) hb hB2
  have hi := (read_num ex).2.2.1
  have hj := (read_num ey).2.2.1
  rw [hr, hv]
  exact ⟨w1, w3 (by omega)⟩
theorem dv_not (s : Bool) (m : Nat) (e : Int) : dv (!s) m e = -dv s m e := by
  cases s
  · rw [Bool.not_false, dv_true, dv_false]
  · rw [Bool.not_true, dv_true, dv_false, Rat.neg_neg]
theorem sub_near {x y r : Nat} (hx : Fnt x) (hy : Fnt y) (h : bin .sub (some x) (some y) = some r) {B : Rat} (hB : val x - val y ≤ B) (hB' : -B ≤ val x - val y) (hB2 : B ≤ pw 1000) :
    Fnt r ∧ Near (val r) (val x - val y) (pw (-53) * B) := by
  obtain ⟨s, m, i, ex⟩ := fin_read hx
  obtain ⟨t, n, j, ey⟩ := fin_read hy
  obtain ⟨g, k, e1, e2⟩ := sum_val (s := s) (t := !t) (m := m) (n := n) (i := i) (j := j)
  have hr : r = double.write (.number g k (min i j)) := by
    have h' : double.sub x y = some r := h
    unfold Format.sub at h'
    rw [ex, ey] at h'
    simp only [Datum.opposite] at h'
    rw [e1] at h'
    simp only [Option.map_some, Option.some.injEq] at h'
    exact h'.symm
  have hv : val x - val y = dv g k (min i j) := by rw [val_read ex, val_read ey, e2, dv_not, Rat.sub_eq_add_neg]
  have hb : (k : Rat) * pw (min i j) ≤ B := by
    rw [hv] at hB hB'
    cases g
    · rw [dv_false] at hB; exact hB
    · rw [dv_true] at hB'; grind
  obtain ⟨w1, _, w3⟩ := write_near g k (min i j) hb hB2
  have hi := (read_num ex).2.2.1
  have hj := (read_num ey).2.2.1
  rw [hr, hv]
  exact ⟨w1, w3 (by omega)⟩
/-- Order is the numbers' order. -/
theorem ord_val {x y : Nat} (hx : Fnt x) (hy : Fnt y) : ord (ab x) (ab y) = some (if val x < val y then .lt else if val x = val y then .eq else .gt) := by
  rw [← order_ab]
  show double.order x y = _
  rw [order_lin hx.num hy.num]
  unfold lin
  rw [← sgn_mono]
  unfold val
  have hp := pw_pos (-1074)
  generalize sgn (x / 2 ^ 63 % 2 == 1) (mag (x % 2 ^ 63)) = a
  generalize sgn (y / 2 ^ 63 % 2 == 1) (mag (y % 2 ^ 63)) = b
  congr 1
  rw [Int.compare_eq_ite_lt]
  have hlt : ((a : Rat) * pw (-1074) < (b : Rat) * pw (-1074)) ↔ a < b := by
    constructor
    · intro h
      rcases Int.lt_or_le a b with h1 | h1
      · exact h1
      · exfalso
        have := Rat.mul_le_mul_of_nonneg_right (Rat.intCast_le_intCast.2 h1) (Rat.le_of_lt hp)
        grind
    · intro h
      have := Rat.mul_lt_mul_of_pos_right (Rat.intCast_lt_intCast.2 h) hp
      exact this
  have heq : ((a : Rat) * pw (-1074) = (b : Rat) * pw (-1074)) ↔ a = b := by
    constructor
    · intro h
      rcases Int.lt_trichotomy a b with h1 | h1 | h1
      · have := hlt.2 h1; grind
      · exact h1
      · have := Rat.mul_lt_mul_of_pos_right (Rat.intCast_lt_intCast.2 h1) hp
        grind
    · intro h; rw [h]
  simp only [hlt, heq]
  split
  · rfl
  · split
    · split
      · omega
      · rfl
    · split
      · rfl
      · omega
end Go.Fl
/- Rounding keeps an order; quotients and roots. No program is spoken of here. -/
namespace Go.Fl
open Ieee Go.RowKit

theorem mag_dvd {r L : Nat} (h : 2 ^ (52 + L) ≤ mag r) : ∃ c, mag r = c * 2 ^ L := by
  unfold mag at *
  split at h
  · rename_i h1
    have h2 : 2 ^ 52 ≤ 2 ^ (52 + L) := Nat.pow_le_pow_right (by omega) (by omega)
    omega
  · rename_i h1
    rw [if_neg h1]
    have hlt : 2 ^ 52 + r % 2 ^ 52 < 2 ^ 53 := by
      have := Nat.mod_lt r (show 0 < 2 ^ 52 by omega)
      omega
    generalize r / 2 ^ 52 - 1 = k at *
    rcases Nat.lt_or_ge k L with hk | hk
    · exfalso
      have a1 := Nat.mul_lt_mul_of_pos_right hlt (Nat.two_pow_pos k)
      rw [← Nat.pow_add] at a1
      have a2 : 2 ^ (53 + k) ≤ 2 ^ (52 + L) := Nat.pow_le_pow_right (by omega) (by omega)
      omega
    · refine ⟨(2 ^ 52 + r % 2 ^ 52) * 2 ^ (k - L), ?_⟩
      rw [Nat.mul_assoc, ← Nat.pow_add]
      congr 2
      omega
/-- A float's magnitude as a number. -/
theorem val_cases (x : Nat) : val x = (mag (x % 2 ^ 63) : Rat) * pw (-1074) ∨ val x = -((mag (x % 2 ^ 63) : Rat) * pw (-1074)) := by
  unfold val
  cases (x / 2 ^ 63 % 2 == 1)
  · left; rfl
  · right
    show ((-(mag (x % 2 ^ 63) : Int) : Int) : Rat) * pw (-1074) = _
    rw [Rat.intCast_neg, Rat.neg_mul]; rfl
/-- A float that is not below a binade's least one is a whole number of its units. -/
theorem whole_units {y : Nat} {last : Int} {Y : Rat} (hl : -1074 ≤ last) (hY : val y = Y ∨ val y = -Y) (h0 : 0 ≤ Y) (hb : last = -1074 ∨ pw (last + 52) ≤ Y) : ∃ c : Nat, Y = (c : Rat) * pw last := by
  have hp := pw_pos (-1074)
  have hm : Y = (mag (y % 2 ^ 63) : Rat) * pw (-1074) := by
    have h1 : 0 ≤ (mag (y % 2 ^ 63) : Rat) * pw (-1074) := Rat.mul_nonneg Rat.natCast_nonneg (Rat.le_of_lt hp)
    rcases val_cases y with h | h <;> rcases hY with h2 | h2 <;> grind
  rcases hb with h | h
  · rw [h]; exact ⟨_, hm⟩
  · obtain ⟨L, hL⟩ := Int.eq_ofNat_of_zero_le (show 0 ≤ last + 1074 by omega)
    have hpl : pw last = ((2 ^ L : Nat) : Rat) * pw (-1074) := by
      rw [pw_split hl, show (last - -1074).toNat = L by omega]
    have h2 : pw (last + 52) = ((2 ^ (52 + L) : Nat) : Rat) * pw (-1074) := by
      rw [pw_split (show (-1074 : Int) ≤ last + 52 by omega), show (last + 52 - -1074).toNat = 52 + L by omega]
    have h3 : 2 ^ (52 + L) ≤ mag (y % 2 ^ 63) := by
      rcases Nat.lt_or_ge (mag (y % 2 ^ 63)) (2 ^ (52 + L)) with h4 | h4
      · exfalso
        have := Rat.mul_lt_mul_of_pos_right (Rat.natCast_lt_natCast.2 h4) hp
        grind
      · exact h4
    obtain ⟨c, hc⟩ := mag_dvd h3
    refine ⟨c, ?_⟩
    rw [hm, hc, hpl, Rat.natCast_mul, Rat.mul_assoc]
theorem nat_step {a b : Nat} {p : Rat} (hp : 0 < p) (h : (a : Rat) * p < (b : Rat) * p) : (a : Rat) * p + p ≤ (b : Rat) * p := by
  have h1 : a < b := by
    rcases Nat.lt_or_ge a b with h1 | h1
    · exact h1
    · exfalso
      have := Rat.mul_le_mul_of_nonneg_right (Rat.natCast_le_natCast.2 h1) (Rat.le_of_lt hp)
      grind
  have h2 : ((a + 1 : Nat) : Rat) ≤ (b : Rat) := Rat.natCast_le_natCast.2 h1
  have h3 := Rat.mul_le_mul_of_nonneg_right h2 (Rat.le_of_lt hp)
  rw [Rat.natCast_add, Rat.add_mul] at h3
  have e : ((1 : Nat) : Rat) * p = p := Rat.one_mul p
  grind
theorem Rounds.mono {s : Bool} {m : Nat} {e : Int} {r : Nat} {last : Int} {kept : Nat} (h : Rounds s m e r last kept) {y : Nat} : (dv s m e ≤ val y → val r ≤ val y) ∧ (val y ≤ dv s m e → val y ≤ val r) := by
  have hp := pw_pos last
  have hup := h.up
  have hdn := h.down
  have hk0 : 0 ≤ (kept : Rat) * pw last := Rat.mul_nonneg Rat.natCast_nonneg (Rat.le_of_lt hp)
  have hm0 : 0 ≤ (m : Rat) * pw e := Rat.mul_nonneg Rat.natCast_nonneg (Rat.le_of_lt (pw_pos e))
  have hk52 : last = -1074 ∨ pw (last + 52) ≤ (kept : Rat) * pw last := by
    rcases h.low with h1 | h1
    · exact Or.inl h1
    · right
      have := Rat.mul_le_mul_of_nonneg_right (Rat.natCast_le_natCast.2 h1) (Rat.le_of_lt hp)
      have e1 : pw (last + 52) = ((2 ^ 52 : Nat) : Rat) * pw last := by
        rw [pw_split (show last ≤ last + 52 by omega), show (last + 52 - last).toNat = 52 by omega]
      rw [e1]; exact this
  -- a float from v on, or from the rounded number on, is a whole number of units
  have up_units : ∀ Y : Rat, (val y = Y ∨ val y = -Y) → 0 ≤ Y → ((m : Rat) * pw e ≤ Y ∨ (kept : Rat) * pw last ≤ Y) → ∃ c : Nat, Y = (c : Rat) * pw last := by
    intro Y hY h0 hb
    refine whole_units h.least hY h0 ?_
    rcases hb with hb | hb
    · rcases h.rel with h1 | h1
      · exact Or.inl h1
      · exact Or.inr (Rat.le_trans h1 hb)
    · rcases hk52 with h1 | h1
      · exact Or.inl h1
      · exact Or.inr (Rat.le_trans h1 hb)
  -- above: v ≤ Y < kept: impossible; below: kept < Y ≤ v: impossible
  have no_up : ∀ Y : Rat, (val y = Y ∨ val y = -Y) → 0 ≤ Y → (m : Rat) * pw e ≤ Y → (kept : Rat) * pw last ≤ Y := by
    intro Y hY h0 hb
    obtain ⟨c, hc⟩ := up_units Y hY h0 (Or.inl hb)
    rcases Rat.le_total (a := (kept : Rat) * pw last) (b := Y) with h1 | h1
    · exact h1
    · by_cases heq : Y = (kept : Rat) * pw last
      · grind
      · have hlt : Y < (kept : Rat) * pw last := by grind
        rw [hc] at hlt
        have := nat_step hp hlt
        grind
  have no_dn : ∀ Y : Rat, (val y = Y ∨ val y = -Y) → 0 ≤ Y → Y ≤ (m : Rat) * pw e → Y ≤ (kept : Rat) * pw last := by
    intro Y hY h0 hb
    rcases Rat.le_total (a := Y) (b := (kept : Rat) * pw last) with h1 | h1
    · exact h1
    · by_cases heq : Y = (kept : Rat) * pw last
      · grind
      · have hlt : (kept : Rat) * pw last < Y := by grind
        obtain ⟨c, hc⟩ := up_units Y hY h0 (Or.inr h1)
        rw [hc] at hlt
        have := nat_step hp hlt
        grind
  rw [h.value]
  cases s
  · rw [dv_false, dv_false]
    constructor
    · intro hv
      exact no_up (val y) (Or.inl rfl) (by grind) hv
    · intro hv
      rcases Rat.le_total (a := val y) (b := 0) with h1 | h1
      · grind
      · exact no_dn (val y) (Or.inl rfl) h1 hv
  · rw [dv_true, dv_true]
    constructor
    · intro hv
      rcases Rat.le_total (a := val y) (b := 0) with h1 | h1
      · have := no_dn (-val y) (Or.inr (by grind)) (by grind) (by grind)
        grind
      · grind
    · intro hv
      have := no_up (-val y) (Or.inr (by grind)) (by grind) (by grind)
      grind
theorem write_mono (s : Bool) (m : Nat) (e : Int) (hB : (m : Rat) * pw e ≤ pw 1000) {y : Nat} : (dv s m e ≤ val y → val (double.write (.number s m e)) ≤ val y) ∧ (val y ≤ dv s m e → val y ≤ val (double.write (.number s m e))) := by
  show (_ → val (double.nearest s m e) ≤ _) ∧ (_ → _ ≤ val (double.nearest s m e))
  rcases Nat.eq_zero_or_pos m with h0 | h0
  · subst h0
    have e1 : double.nearest s 0 e = double.word s 0 := by simp [Format.nearest]
    have e2 : dv s 0 e = 0 := by cases s <;> simp [dv, sgn]
    rw [e1, val_zero, e2]
    exact ⟨id, id⟩
  · have hlog : e + m.log2 ≤ 1000 := log_le h0 hB
    obtain ⟨last, kept, hr⟩ := rounds s (e := e) h0 (by omega)
    exact hr.mono
end Go.Fl
/- Quotients and roots, with bounds; products, sums and differences keep an order. No program is spoken of here. -/
namespace Go.Fl
open Ieee Go.RowKit

theorem mul_mono {x y r : Nat} (hx : Fnt x) (hy : Fnt y) (h : bin .mul (some x) (some y) = some r) (hB : val x * val y ≤ pw 1000) (hB' : -pw 1000 ≤ val x * val y) {z : Nat} : (val x * val y ≤ val z → val r ≤ val z) ∧ (val z ≤ val x * val y → val z ≤ val r) := by
  obtain ⟨s, m, i, ex⟩ := fin_read hx
  obtain ⟨t, n, j, ey⟩ := fin_read hy
  have hr : r = double.write (.number (s ^^ t) (m * n) (i + j)) := by
    have h' : double.mul x y = some r := h
    unfold Format.mul at h'
    rw [ex, ey] at h'
    simp only [Datum.product, Option.map_some, Option.some.injEq] at h'
    exact h'.symm
  have hv : val x * val y = dv (s ^^ t) (m * n) (i + j) := by
    rw [val_read ex, val_read ey]
    cases s <;> cases t <;> simp only [dv_false, dv_true, Bool.xor_false, Bool.xor_true, Bool.not_false, Bool.not_true, Rat.natCast_mul, pw_add] <;> grind
  have hb : ((m * n : Nat) : Rat) * pw (i + j) ≤ pw 1000 := by
    rw [hv] at hB hB'
    cases hst : (s ^^ t)
    · rw [hst, dv_false] at hB; exact hB
    · rw [hst, dv_true] at hB'; grind
  rw [hr, hv]
  exact write_mono _ _ _ hb
theorem add_mono {x y r : Nat} (hx : Fnt x) (hy : Fnt y) (h : bin .add (some x) (some y) = some r) (hB : val x + val y ≤ pw 1000) (hB' : -pw 1000 ≤ val x + val y) {z : Nat} : (val x + val y ≤ val z → val r ≤ val z) ∧ (val z ≤ val x + val y → val z ≤ val r) := by
  obtain ⟨s, m, i, ex⟩ := fin_read hx
  obtain ⟨t, n, j, ey⟩ := fin_read hy
  obtain ⟨g, k, e1, e2⟩ := sum_val (s := s) (t := t) (m := m) (n := n) (i := i) (j := j)
  have hr : r = double.write (.number g k (min i j)) := by
    have h' : double.add x y = some r := h
    unfold Format.add at h'
    rw [ex, ey, e1] at h'
    simp only [Option.map_some, Option.some.injEq] at h'
    exact h'.symm
  have hv : val x + val y = dv g k (min i j) := by rw [val_read ex, val_read ey, e2]
  have hb : (k : Rat) * pw (min i j) ≤ pw 1000 := by
    rw [hv] at hB hB'
    cases g
    · rw [dv_false] at hB; exact hB
    · rw [dv_true] at hB'; grind
  rw [hr, hv]
  exact write_mono _ _ _ hb
theorem sub_mono {x y r : Nat} (hx : Fnt x) (hy : Fnt y) (h : bin .sub (some x) (some y) = some r) (hB : val x - val y ≤ pw 1000) (hB' : -pw 1000 ≤ val x - val y) {z : Nat} : (val x - val y ≤ val z → val r ≤ val z) ∧ (val z ≤ val x - val y → val z ≤ val r) := by
  obtain ⟨s, m, i, ex⟩ := fin_read hx
  obtain ⟨t, n, j, ey⟩ := fin_read hy
  obtain ⟨g, k, e1, e2⟩ := sum_val (s := s) (t := !t) (m := m) (n := n) (i := i) (j := j)
  have hr : r = double.write (.number g k (min i j)) := by
    have h' : double.sub x y = some r := h
    unfold Format.sub at h'
    rw [ex, ey] at h'
    simp only [Datum.opposite] at h'
    rw [e1] at h'
    simp only [Option.map_some, Option.some.injEq] at h'
    exact h'.symm
  have hv : val x - val y = dv g k (min i j) := by rw [val_read ex, val_read ey, e2, dv_not, Rat.sub_eq_add_neg]
  have hb : (k : Rat) * pw (min i j) ≤ pw 1000 := by
    rw [hv] at hB hB'
    cases g
    · rw [dv_false] at hB; exact hB
    · rw [dv_true] at hB'; grind
  rw [hr, hv]
  exact write_mono _ _ _ hb
theorem read_lt {x : Nat} {s : Bool} {m : Nat} {e : Int} (h : double.read x = .number s m e) : m < 2 ^ 53 := by
  unfold Format.read at h
  have e1 : double.signWeight = 2 ^ 63 := rfl
  have e2 : double.binade = 2 ^ 52 := rfl
  have e3 : double.infRung = 0x7ff0000000000000 := rfl
  simp only [e1, e2, e3] at h
  split at h
  · injection h with _ hm _
    rename_i h1
    rw [← hm]; omega
  · split at h
    · injection h with _ hm _
      rw [← hm]
      have := Nat.mod_lt (x % 2 ^ 63) (show 0 < 2 ^ 52 by omega)
      omega
    · split at h <;> cases h
theorem pw52 : pw (-52) = 1 / 4503599627370496 := by decide +kernel
theorem pw53 : pw (-53) = 1 / 9007199254740992 := by decide +kernel
theorem pw54 : pw (-54) = 1 / 18014398509481984 := by decide +kernel
theorem le_of_mul {a b c : Rat} (hc : 0 < c) (h : a * c ≤ b * c) : a ≤ b := by
  rcases Rat.le_total (a := a) (b := b) with h1 | h1
  · exact h1
  · by_cases he : a = b
    · rw [he]; exact Rat.le_refl
    · have := Rat.mul_lt_mul_of_pos_right (show b < a by grind) hc
      grind
theorem val0 : val 0 = 0 := by decide +kernel
/-- x divided by y, both from 0 on. -/
theorem quo_near {x y r : Nat} (hx : Fnt x) (hy : Fnt y) (hx0 : 0 ≤ val x) (hy0 : 0 < val y) (h : bin .quo (some x) (some y) = some r) {κ B : Rat} (hκ : κ * val y = val x) (hB : κ ≤ B) (hB2 : B ≤ pw 990) :
    Fnt r ∧ Near (val r) κ (pw (-52) * B + pw (-1075)) ∧ 0 ≤ val r := by
  have HB2 : Hid (B ≤ pw 990) := hB2
  clear hB2
  obtain ⟨s, m, i, ex⟩ := fin_read hx
  obtain ⟨t, n, j, ey⟩ := fin_read hy
  have vx := val_read ex
  have vy := val_read ey
  have hpi := pw_pos i
  have hpj := pw_pos j
  have hm0 : 0 ≤ (m : Rat) * pw i := Rat.mul_nonneg Rat.natCast_nonneg (Rat.le_of_lt hpi)
  have hn0 : 0 ≤ (n : Rat) * pw j := Rat.mul_nonneg Rat.natCast_nonneg (Rat.le_of_lt hpj)
  have ht : t = false := by
    cases t
    · rfl
    · rw [dv_true] at vy; grind
  subst ht
  rw [dv_false] at vy
  have hn : 0 < n := by
    rcases Nat.eq_zero_or_pos n with h0 | h0
    · subst h0; simp at vy; grind
    · exact h0
  have vx' : val x = (m : Rat) * pw i := by
    cases s
    · rw [vx, dv_false]
    · rw [dv_true] at vx; grind
  have hsm : s = true → m = 0 := by
    intro hs
    subst hs
    rw [dv_true] at vx
    have h0 : (m : Rat) * pw i = 0 := by grind
    rcases Nat.eq_zero_or_pos m with h1 | h1
    · exact h1
    · have := Rat.mul_pos (Rat.natCast_pos.2 h1) hpi
      grind
  obtain ⟨more, hmore⟩ : ∃ more, more = 54 + n.log2 - m.log2 := ⟨_, rfl⟩
  obtain ⟨D, hD⟩ : ∃ D, D = m * 2 ^ more := ⟨_, rfl⟩
  obtain ⟨K, hK⟩ : ∃ K, K = 2 * (D / n) + (D % n != 0).toNat := ⟨_, rfl⟩
  have hr : r = double.write (.number s K (i - j - more - 1)) := by
    have h' : double.div x y = some r := h
    unfold Format.div at h'
    rw [ex, ey] at h'
    have e4 : double.fractionBits + 2 = 54 := rfl
    simp only [Datum.quotient, e4, shl, if_neg (show ¬ n = 0 by omega), Option.map_some, Option.some.injEq, Bool.xor_false, ← hmore, ← hD, ← hK] at h'
    exact h'.symm
  -- how far K is from twice the quotient
  have hKn : K * n ≤ 2 * D + n ∧ 2 * D ≤ K * n + n ∧ (m = 0 → K = 0) := by
    have hdm := Nat.div_add_mod D n
    have hlt := Nat.mod_lt D hn
    have e1 : K * n = 2 * (n * (D / n)) + (D % n != 0).toNat * n := by
      rw [hK, Nat.add_mul, Nat.mul_assoc, Nat.mul_comm (D / n)]
    refine ⟨?_, ?_, fun h0 => by rw [hK, hD, h0]; simp⟩
    · rw [e1]
      cases hb : (D % n != 0)
      · simp; omega
      · simp; omega
    · rw [e1]
      cases hb : (D % n != 0)
      · simp at hb; simp; omega
      · simp; omega
  have hDn : m = 0 ∨ n * 2 ^ 53 ≤ D := by
    rcases Nat.eq_zero_or_pos m with h0 | h0
    · exact Or.inl h0
    · right
      have a1 : 2 ^ m.log2 ≤ m := Nat.log2_self_le (by omega)
      have a2 : n < 2 ^ (n.log2 + 1) := Nat.lt_log2_self
      have a3 : m.log2 ≤ 52 := by
        have := read_lt ex
        rcases Nat.lt_or_ge 52 m.log2 with h1 | h1
        · have := Nat.pow_le_pow_right (show 0 < 2 by omega) (show 53 ≤ m.log2 by omega)
          omega
        · exact h1
      have a4 : 2 ^ m.log2 * 2 ^ more = 2 ^ (n.log2 + 1) * 2 ^ 53 := by
        rw [← Nat.pow_add, ← Nat.pow_add]
        exact congrArg (fun k => 2 ^ k) (by omega)
      have a5 := Nat.mul_le_mul_right (2 ^ more) a1
      have a6 := Nat.mul_le_mul_right (2 ^ 53) (Nat.le_of_lt a2)
      rw [hD]; omega
  -- the number that is rounded
  obtain ⟨V, hV⟩ : ∃ V : Rat, V = (K : Rat) * pw (i - j - more - 1) := ⟨_, rfl⟩
  have hdv : dv s K (i - j - more - 1) = V := by
    cases hs : s
    · rw [dv_false, hV]
    · rw [dv_true, hV, hKn.2.2 (hsm hs)]
      simp
  obtain ⟨P, hP⟩ : ∃ P : Rat, P = pw (i - more - 1) := ⟨_, rfl⟩
  have hPpos : 0 < P := by rw [hP]; exact pw_pos _
  have hVy : V * val y = ((K * n : Nat) : Rat) * P := by
    rw [hV, vy, hP, Rat.natCast_mul]
    have : pw (i - j - more - 1) * pw j = pw (i - more - 1) := by rw [← pw_add]; exact congrArg pw (by omega)
    grind
  have hxP : val x = ((2 * D : Nat) : Rat) * P := by
    rw [vx', hP, hD, Rat.natCast_mul, Rat.natCast_mul, ← pw_nat]
    have : pw (i - more - 1) * pw (more : Int) = pw (i - 1) := by rw [← pw_add]; exact congrArg pw (by omega)
    have h2 := pw_half i
    have e2 : ((2 : Nat) : Rat) = 2 := rfl
    rw [e2]
    grind
  have c1 := Rat.mul_le_mul_of_nonneg_right (Rat.natCast_le_natCast.2 hKn.1) (Rat.le_of_lt hPpos)
  have c2 := Rat.mul_le_mul_of_nonneg_right (Rat.natCast_le_natCast.2 hKn.2.1) (Rat.le_of_lt hPpos)
  rw [Rat.natCast_add, Rat.add_mul] at c1 c2
  have hnP : (n : Rat) * P ≤ pw (-54) * val x ∨ m = 0 := by
    rcases hDn with h0 | h0
    · exact Or.inr h0
    · left
      have := Rat.mul_le_mul_of_nonneg_right (Rat.natCast_le_natCast.2 h0) (Rat.le_of_lt hPpos)
      rw [Rat.natCast_mul, show ((2 ^ 53 : Nat) : Rat) = 9007199254740992 by decide +kernel] at this
      rw [hxP, pw54, Rat.natCast_mul]
      have e2 : ((2 : Nat) : Rat) = 2 := rfl
      rw [e2]
      grind
  have hκ0 : 0 ≤ κ := by
    have := le_of_mul (a := 0) (b := κ) hy0 (by grind)
    exact this
  have hVκ : V ≤ κ + pw (-54) * κ ∧ κ ≤ V + pw (-54) * κ := by
    rcases hnP with h0 | h0
    · have e1 : (κ + pw (-54) * κ) * val y = val x + pw (-54) * val x := by rw [← hκ]; grind
      have e2 : (V + pw (-54) * κ) * val y = V * val y + pw (-54) * val x := by rw [← hκ]; grind
      constructor
      · refine le_of_mul hy0 ?_
        rw [e1, hVy]
        grind
      · refine le_of_mul hy0 ?_
        rw [e2, hVy, hκ]
        grind
    · have hK0 := hKn.2.2 h0
      have hx00 : val x = 0 := by rw [vx', h0]; simp
      have hκ00 : κ = 0 := by
        have h1 := le_of_mul (a := κ) (b := 0) hy0 (by grind)
        grind
      have hV00 : V = 0 := by
        rw [hV, hK0]
        exact Rat.zero_mul _
      rw [hV00, hκ00]
      constructor <;> grind
  have hV0 : 0 ≤ V := by rw [hV]; exact Rat.mul_nonneg Rat.natCast_nonneg (Rat.le_of_lt (pw_pos _))
  rw [pw54] at hVκ
  have hB1 : (K : Rat) * pw (i - j - more - 1) ≤ B + B * (1 / 18014398509481984) := by rw [← hV]; grind
  have hBig : B + B * (1 / 18014398509481984) ≤ pw 1000 := by
    have h1 : pw 990 + pw 990 ≤ pw 1000 := by
      have a := pw_half 991
      have b := pw_mono (show (991 : Int) ≤ 1000 by omega)
      rw [show (991 : Int) - 1 = 990 by omega] at a
      grind
    have hB2 := HB2.out
    generalize pw 990 = W at *
    generalize pw 1000 = W2 at *
    grind
  obtain ⟨w1, w2, _⟩ := write_near s K (i - j - more - 1) hB1 hBig
  have w3 := write_mono s K (i - j - more - 1) (Rat.le_trans hB1 hBig) (y := 0)
  rw [← hr, hdv] at w2 w3
  rw [← hr] at w1
  refine ⟨w1, ?_, ?_⟩
  · unfold Near at *
    rw [pw53] at w2
    rw [pw52]
    constructor <;> grind
  · have := w3.2 (by rw [val0]; exact hV0)
    rw [val0] at this
    exact this
theorem root_spec (n : Nat) : ∀ todo root, root * root ≤ n → n < (root + 2 ^ todo) * (root + 2 ^ todo) → Datum.rootFrom n todo root * Datum.rootFrom n todo root ≤ n ∧ n < (Datum.rootFrom n todo root + 1) * (Datum.rootFrom n todo root + 1)
  | 0, root, h1, h2 => ⟨h1, by simpa [Datum.rootFrom] using h2⟩
  | todo + 1, root, h1, h2 => by
    unfold Datum.rootFrom
    simp only [Nat.one_shiftLeft]
    split
    · rename_i h
      refine root_spec n todo _ h ?_
      rw [show root + 2 ^ todo + 2 ^ todo = root + 2 ^ (todo + 1) by rw [Nat.pow_succ]; omega]
      exact h2
    · rename_i h
      exact root_spec n todo root h1 (by omega)

/-- The root of a number from 1 to 2.01. -/
theorem sqrt_near {x r : Nat} (hx : Fnt x) (h1 : 1 ≤ val x) (h2 : val x ≤ 201 / 100) (h : double.sqrt x = some r) :
    Fnt r ∧ 0 ≤ val r ∧ val r ≤ 3 / 2 ∧ Near (val r * val r) (val x) (7 * pw (-53)) := by
  obtain ⟨s, m, i, ex⟩ := fin_read hx
  have vx := val_read ex
  have hpi := pw_pos i
  have hm0 : 0 ≤ (m : Rat) * pw i := Rat.mul_nonneg Rat.natCast_nonneg (Rat.le_of_lt hpi)
  have hs : s = false := by
    cases s
    · rfl
    · rw [dv_true] at vx; grind
  subst hs
  rw [dv_false] at vx
  have hm : 0 < m := by
    rcases Nat.eq_zero_or_pos m with h0 | h0
    · subst h0
      have : ((0 : Nat) : Rat) * pw i = 0 := Rat.zero_mul _
      grind
    · exact h0
  obtain ⟨m0, hm00⟩ : ∃ m0, m0 = 2 * 54 - m.log2 := ⟨_, rfl⟩
  obtain ⟨more, hmore⟩ : ∃ more, more = m0 + ((i - m0) % 2).toNat := ⟨_, rfl⟩
  obtain ⟨n, hn⟩ : ∃ n, n = m * 2 ^ more := ⟨_, rfl⟩
  obtain ⟨w, hw⟩ : ∃ w, w = Datum.rootFrom n (n.log2 / 2 + 1) 0 := ⟨_, rfl⟩
  obtain ⟨K, hK⟩ : ∃ K, K = 2 * w + (w * w != n).toNat := ⟨_, rfl⟩
  have hr : r = double.write (.number false K ((i - more) / 2 - 1)) := by
    unfold Format.sqrt at h
    rw [ex] at h
    have e4 : double.fractionBits + 2 = 54 := rfl
    simp only [Datum.root, e4, shl, if_neg (show ¬ m = 0 by omega), Bool.false_eq_true, if_false, Option.map_some, Option.some.injEq, ← hm00, ← hmore, ← hn, ← hw, ← hK] at h
    exact h.symm
  obtain ⟨q1, q2⟩ := root_spec n (n.log2 / 2 + 1) 0 (by omega) (by
    have a : n < 2 ^ (n.log2 + 1) := Nat.lt_log2_self
    rw [Nat.zero_add, ← Nat.pow_add]
    exact Nat.lt_of_lt_of_le a (Nat.pow_le_pow_right (by omega) (by omega)))
  rw [← hw] at q1 q2
  -- n is great, so w is
  have hbig : 2 ^ 108 ≤ n := by
    have a1 : 2 ^ m.log2 ≤ m := Nat.log2_self_le (by omega)
    have a2 := Nat.mul_le_mul_right (2 ^ more) a1
    rw [← Nat.pow_add] at a2
    rw [hn]
    exact Nat.le_trans (Nat.pow_le_pow_right (by omega) (by omega)) a2
  have hw54 : 2 ^ 54 ≤ w := by
    rcases Nat.lt_or_ge w (2 ^ 54) with h0 | h0
    · exfalso
      have : (w + 1) * (w + 1) ≤ 2 ^ 54 * 2 ^ 54 := Nat.mul_le_mul h0 h0
      have e : 2 ^ 54 * 2 ^ 54 = 2 ^ 108 := by rw [← Nat.pow_add]
      omega
    · exact h0
  -- K K against 4 n
  have hww : 2 ^ 54 * w ≤ w * w := Nat.mul_le_mul_right w hw54
  have e1 : (w + 1) * (w + 1) = w * w + 2 * w + 1 := by rw [Nat.mul_add, Nat.add_mul]; omega
  have hKK : K * K * 2 ^ 53 ≤ 4 * n * 2 ^ 53 + 4 * n ∧ 4 * n * 2 ^ 53 ≤ K * K * 2 ^ 53 + 4 * n := by
    cases hb : (w * w != n)
    · have hwn : w * w = n := by simpa using hb
      have e2 : K * K = 4 * n := by
        rw [hK, hb, ← hwn]
        simp only [Bool.toNat_false, Nat.add_zero]
        rw [Nat.mul_mul_mul_comm]
      rw [e2]; omega
    · have hwn : w * w ≠ n := by simpa using hb
      have e2 : K * K = 4 * (w * w) + 4 * w + 1 := by
        rw [hK, hb]
        simp only [Bool.toNat_true]
        rw [Nat.mul_add, Nat.add_mul, Nat.mul_mul_mul_comm]; omega
      rw [e2]
      rw [e1] at q2
      generalize w * w = W at *
      omega
  -- as numbers
  obtain ⟨p, hp⟩ : ∃ p : Int, p = (i - more) / 2 - 1 := ⟨_, rfl⟩
  rw [← hp] at hr
  have hpar : (i - more : Int) = 2 * p + 2 := by omega
  obtain ⟨V, hV⟩ : ∃ V : Rat, V = (K : Rat) * pw p := ⟨_, rfl⟩
  have hV0 : 0 ≤ V := by rw [hV]; exact Rat.mul_nonneg Rat.natCast_nonneg (Rat.le_of_lt (pw_pos _))
  obtain ⟨P, hP⟩ : ∃ P : Rat, P = pw p * pw p := ⟨_, rfl⟩
  have hPpos : 0 < P := by rw [hP]; exact Rat.mul_pos (pw_pos _) (pw_pos _)
  have hVV : V * V = ((K * K : Nat) : Rat) * P := by rw [hV, hP, Rat.natCast_mul]; grind
  have hxP : val x = ((4 * n : Nat) : Rat) * P := by
    rw [vx, hn, Rat.natCast_mul, Rat.natCast_mul, ← pw_nat, hP]
    have a : pw i = pw (more : Int) * (pw 2 * (pw p * pw p)) := by
      rw [← pw_add, ← pw_add, ← pw_add]; exact congrArg pw (by omega)
    have b : pw 2 = 4 := by decide +kernel
    have e4 : ((4 : Nat) : Rat) = 4 := rfl
    rw [a, b, e4]
    grind
  have c1 := Rat.mul_le_mul_of_nonneg_right (Rat.natCast_le_natCast.2 hKK.1) (Rat.le_of_lt hPpos)
  have c2 := Rat.mul_le_mul_of_nonneg_right (Rat.natCast_le_natCast.2 hKK.2) (Rat.le_of_lt hPpos)
  rw [Rat.natCast_add, Rat.add_mul, Rat.natCast_mul (K * K) (2 ^ 53), Rat.natCast_mul (4 * n) (2 ^ 53), show ((2 ^ 53 : Nat) : Rat) = 9007199254740992 by decide +kernel] at c1 c2
  have d1 : V * V ≤ val x + val x * (1 / 9007199254740992) := by rw [hVV, hxP]; grind
  have d2 : val x ≤ V * V + val x * (1 / 9007199254740992) := by rw [hVV, hxP]; grind
  have hV15 : V ≤ 149 / 100 := by
    rcases Rat.le_total (a := V) (b := 149 / 100) with h0 | h0
    · exact h0
    · exfalso
      have a1 := Rat.mul_le_mul_of_nonneg_left h0 hV0
      have a2 := Rat.mul_le_mul_of_nonneg_right h0 (show (0 : Rat) ≤ 149 / 100 by decide +kernel)
      grind
  obtain ⟨k1, k2, _⟩ := write_near false K p (B := 149 / 100) (by rw [← hV]; exact hV15) (by
    have := pw_mono (show (1 : Int) ≤ 1000 by omega)
    have b : pw 1 = 2 := by decide +kernel
    generalize pw 1000 = W at *
    grind)
  have k3 := write_mono false K p (y := 0) (by
    rw [← hV]
    have := pw_mono (show (1 : Int) ≤ 1000 by omega)
    have b : pw 1 = 2 := by decide +kernel
    generalize pw 1000 = W at *
    grind)
  rw [dv_false, ← hV, ← hr] at k2 k3
  rw [← hr] at k1
  have k4 : 0 ≤ val r := by
    have := k3.2 (by rw [val0]; exact hV0)
    rw [val0] at this; exact this
  have hη : pw (-1075) ≤ 1 / 1208925819614629174706176 := by
    have := pw_mono (show (-1075 : Int) ≤ -80 by omega)
    have b : pw (-80) = 1 / 1208925819614629174706176 := by decide +kernel
    generalize pw (-1075) = W at *
    grind
  unfold Near at k2
  rw [pw53] at k2
  generalize pw (-1075) = η at *
  obtain ⟨k2a, k2b⟩ := k2
  have r15 : val r ≤ 3 / 2 := by grind
  refine ⟨k1, k4, r15, ?_⟩
  rw [pw53]
  obtain ⟨D, hD⟩ : ∃ D : Rat, D = val r - V := ⟨_, rfl⟩
  have rr : val r * val r = V * V + D * (val r + V) := by rw [hD]; grind
  have D1 : D ≤ 15 / 10 * (1 / 9007199254740992) := by grind
  have D2 : -D ≤ 15 / 10 * (1 / 9007199254740992) := by grind
  have s0 : 0 ≤ val r + V := by grind
  have s1 := Rat.mul_le_mul_of_nonneg_right D1 s0
  have s2 := Rat.mul_le_mul_of_nonneg_right D2 s0
  unfold Near
  rw [rr]
  constructor <;> grind
end Go.Fl
/- Rows of floats, folded: how far the outcome is from the polynomial. No program is spoken of here. -/
namespace Go.Fl
open Ieee Go.RowKit

/-- A polynomial's value. -/
def evalP : List Rat → Rat → Rat
  | [], _ => 0
  | a :: l, z => a + z * evalP l z
def addP : List Rat → List Rat → List Rat
  | [], m => m
  | l, [] => l
  | a :: l, b :: m => (a + b) :: addP l m
def mulP : List Rat → List Rat → List Rat
  | [], _ => []
  | a :: l, m => addP (m.map (a * ·)) (0 :: mulP l m)
theorem eval_add (z : Rat) : ∀ l m, evalP (addP l m) z = evalP l z + evalP m z
  | [], m => by simp [addP, evalP, Rat.zero_add]
  | a :: l, [] => by simp [addP, evalP, Rat.add_zero]
  | a :: l, b :: m => by simp only [addP, evalP, eval_add z l m]; grind
theorem eval_scale (a z : Rat) : ∀ m, evalP (m.map (a * ·)) z = a * evalP m z
  | [] => by simp [evalP, Rat.mul_zero]
  | b :: m => by simp only [List.map_cons, evalP, eval_scale a z m]; grind
theorem eval_mul (z : Rat) : ∀ l m, evalP (mulP l m) z = evalP l z * evalP m z
  | [], m => by simp [mulP, evalP, Rat.zero_mul]
  | a :: l, m => by simp only [mulP, eval_add, eval_scale, evalP, eval_mul z l m]; grind
def absR (a : Rat) : Rat := if a < 0 then -a else a
theorem absR_le (a : Rat) : a ≤ absR a ∧ -a ≤ absR a ∧ 0 ≤ absR a := by unfold absR; split <;> grind
/-- The greatest that a polynomial can be, up to Z. -/
def absP (Z : Rat) : List Rat → Rat
  | [] => 0
  | a :: l => absR a + Z * absP Z l
theorem absP_nonneg {Z : Rat} (hZ : 0 ≤ Z) : ∀ l, 0 ≤ absP Z l
  | [] => by simp [absP]
  | a :: l => by
    have h1 := Rat.mul_nonneg hZ (absP_nonneg hZ l)
    have h2 := absR_le a
    simp only [absP]; grind
theorem eval_abs {Z z : Rat} (h0 : 0 ≤ z) (hz : z ≤ Z) : ∀ l, evalP l z ≤ absP Z l ∧ -evalP l z ≤ absP Z l
  | [] => by simp [evalP, absP]
  | a :: l => by
    obtain ⟨h1, h2⟩ := eval_abs h0 hz l
    have h3 := absR_le a
    have h4 := Rat.mul_le_mul_of_nonneg_left h1 h0
    have h5 := Rat.mul_le_mul_of_nonneg_left h2 h0
    have h6 := Rat.mul_le_mul_of_nonneg_right hz (absP_nonneg (Rat.le_trans h0 hz) l)
    simp only [evalP, absP]
    constructor <;> grind
/-- 2^-53, and a bound for what is lost among the least numbers. -/
def u53 : Rat := 1 / 9007199254740992
def h80 : Rat := 1 / 1208925819614629174706176
theorem eta_le : pw (-1075) ≤ h80 := by
  have := pw_mono (show (-1075 : Int) ≤ -80 by omega)
  have b : pw (-80) = h80 := by decide +kernel
  rw [← b]; exact this
theorem big_ok {B : Rat} (h : B ≤ 2) : B ≤ pw 1000 := by
  have := pw_mono (show (1 : Int) ≤ 1000 by omega)
  have b : pw 1 = 2 := by decide +kernel
  generalize pw 1000 = W at *
  grind
/-- To fold a row, from its last number down to its first. -/
def foldG : List Nat → Option Nat → Option Nat
  | [], _ => none
  | [c], _ => some c
  | c :: r, z => bin .add (bin .mul (foldG r z) z) (some c)
/-- The error of a fold. -/
def errP (Z : Rat) : List Rat → Rat
  | [] => 0
  | [_] => 0
  | a :: b :: r =>
    let E := errP Z (b :: r)
    let P := Z * (absP Z (b :: r) + E)
    Z * E + (u53 * P + h80) + u53 * (P + (u53 * P + h80) + absR a)
/-- All of a row's numbers stay small. -/
def okP (Z : Rat) : List Rat → Bool
  | [] => true
  | [_] => true
  | a :: b :: r =>
    let P := Z * (absP Z (b :: r) + errP Z (b :: r))
    okP Z (b :: r) && decide (0 ≤ errP Z (b :: r)) && decide (P ≤ 2) && decide (P + (u53 * P + h80) + absR a ≤ 2)
theorem bin_some_mul {x y : Nat} (hx : Fnt x) (hy : Fnt y) : ∃ r, bin .mul (some x) (some y) = some r := by
  obtain ⟨s, m, i, ex⟩ := fin_read hx
  obtain ⟨t, n, j, ey⟩ := fin_read hy
  show ∃ r, double.mul x y = some r
  unfold Format.mul
  rw [ex, ey]
  exact ⟨_, rfl⟩
theorem bin_some_add {x y : Nat} (hx : Fnt x) (hy : Fnt y) : ∃ r, bin .add (some x) (some y) = some r := by
  obtain ⟨s, m, i, ex⟩ := fin_read hx
  obtain ⟨t, n, j, ey⟩ := fin_read hy
  show ∃ r, double.add x y = some r
  unfold Format.add
  rw [ex, ey]
  exact ⟨_, rfl⟩
theorem bin_some_sub {x y : Nat} (hx : Fnt x) (hy : Fnt y) : ∃ r, bin .sub (some x) (some y) = some r := by
  obtain ⟨s, m, i, ex⟩ := fin_read hx
  obtain ⟨t, n, j, ey⟩ := fin_read hy
  show ∃ r, double.sub x y = some r
  unfold Format.sub
  rw [ex, ey]
  exact ⟨_, rfl⟩
theorem fold_near {Z : Rat} {zf : Nat} (hz : Fnt zf) (h0 : 0 ≤ val zf) (hZ : val zf ≤ Z) (hZ1 : Z ≤ 1) : ∀ (L : List Nat), L ≠ [] → (∀ c ∈ L, Fnt c) → okP Z (L.map val) = true →
    ∃ p, foldG L (some zf) = some p ∧ Fnt p ∧ Near (val p) (evalP (L.map val) (val zf)) (errP Z (L.map val))
  | [], h, _, _ => absurd rfl h
  | [c], _, hf, _ => by
    refine ⟨c, rfl, hf c (by simp), ?_⟩
    simp only [List.map_cons, List.map_nil, evalP, errP, Near]
    constructor <;> grind
  | c :: d :: r, _, hf, hok => by
    have hZ0 : 0 ≤ Z := Rat.le_trans h0 hZ
    simp only [List.map_cons, okP, Bool.and_eq_true, decide_eq_true_eq] at hok
    obtain ⟨⟨⟨hok1, hE0⟩, hP⟩, hS⟩ := hok
    obtain ⟨p, e1, e2, e3⟩ := fold_near hz h0 hZ hZ1 (d :: r) (by simp) (fun x hx => hf x (by simp [hx])) (by simpa only [List.map_cons] using hok1)
    have hc : Fnt c := hf c (by simp)
    simp only [List.map_cons] at e3
    obtain ⟨a1, a2⟩ := eval_abs h0 hZ (val d :: r.map val)
    have an := absP_nonneg hZ0 (val d :: r.map val)
    generalize hA : absP Z (val d :: r.map val) = A at *
    generalize hEv : evalP (val d :: r.map val) (val zf) = V at *
    generalize hE : errP Z (val d :: r.map val) = E at *
    obtain ⟨e31, e32⟩ := e3
    -- the product
    obtain ⟨m, hm⟩ := bin_some_mul e2 hz
    obtain ⟨P, hPd⟩ : ∃ P : Rat, P = Z * (A + E) := ⟨_, rfl⟩
    rw [← hPd] at hP hS
    have b1 : val p ≤ A + E := by grind
    have b2 : -val p ≤ A + E := by grind
    have ae : 0 ≤ A + E := by grind
    have c1 := Rat.mul_le_mul_of_nonneg_right b1 h0
    have c2 := Rat.mul_le_mul_of_nonneg_right b2 h0
    have c3 := Rat.mul_le_mul_of_nonneg_right hZ ae
    have m1 : val p * val zf ≤ P := by rw [hPd]; grind
    have m2 : -P ≤ val p * val zf := by rw [hPd]; grind
    obtain ⟨f1, f2⟩ := mul_near e2 hz hm m1 m2 (big_ok hP)
    have hη := eta_le
    rw [pw53] at f2
    generalize pw (-1075) = η at *
    obtain ⟨f21, f22⟩ := f2
    -- the sum
    obtain ⟨t, ht⟩ := bin_some_add f1 hc
    have cA := absR_le (val c)
    obtain ⟨cA1, cA2, cA3⟩ := cA
    generalize hab : absR (val c) = a at *
    have hu : u53 = 1 / 9007199254740992 := rfl
    rw [hu] at hS
    generalize hh : h80 = h at *
    have s1 : val m + val c ≤ P + (1 / 9007199254740992 * P + h) + a := by grind
    have s2 : -(P + (1 / 9007199254740992 * P + h) + a) ≤ val m + val c := by grind
    obtain ⟨g1, g2⟩ := add_near f1 hc ht s1 s2 (big_ok hS)
    rw [pw53] at g2
    obtain ⟨g21, g22⟩ := g2
    refine ⟨t, ?_, g1, ?_⟩
    · show bin .add (bin .mul (foldG (d :: r) (some zf)) (some zf)) (some c) = some t
      rw [e1, hm, ht]
    · simp only [List.map_cons]
      rw [show errP Z (val c :: val d :: r.map val) = Z * E + (u53 * P + h) + u53 * (P + (u53 * P + h) + a) by simp only [errP, hE, hA, hab, hh, ← hPd], show evalP (val c :: val d :: r.map val) (val zf) = val c + val zf * V by simp only [evalP, ← hEv]]
      have k1 : (val p - V) * val zf ≤ E * val zf := Rat.mul_le_mul_of_nonneg_right (by grind) h0
      have k2 : (V - val p) * val zf ≤ E * val zf := Rat.mul_le_mul_of_nonneg_right (by grind) h0
      have k3 : val zf * E ≤ Z * E := Rat.mul_le_mul_of_nonneg_right hZ hE0
      rw [hu]
      unfold Near
      constructor <;> grind
end Go.Fl
/- A point of the circle, as rational numbers: its parts' squares make 1, but for a little. -/
namespace Go.Proofs.Ytijfmaepoamkgab
open Go.Fl Ieee Go.RowKit

theorem Fnt.ab {x : Nat} (h : Fnt x) : ab x = some x := ab_some h.num
theorem fin_neg {x : Nat} (h : Fnt x) : Fnt (neg x) := by
  have h1 : neg x % 2 ^ 63 = x % 2 ^ 63 := by
    show (x ^^^ 2 ^ 63) % 2 ^ 63 = _
    rw [Nat.xor_mod_two_pow]; simp
  unfold Fnt at *; rw [h1]; exact h
theorem vneg (x : Nat) : val (neg x) = -val x := by
  have h1 : neg x % 2 ^ 63 = x % 2 ^ 63 := by
    show (x ^^^ 2 ^ 63) % 2 ^ 63 = _
    rw [Nat.xor_mod_two_pow]; simp
  have h2 : neg x / 2 ^ 63 % 2 = 1 - x / 2 ^ 63 % 2 := by
    show (x ^^^ 2 ^ 63) / 2 ^ 63 % 2 = _
    rw [Nat.xor_div_two_pow, show 2 ^ 63 / 2 ^ 63 = 1 by decide]
    have := Nat.xor_mod_two_pow (a := x / 2 ^ 63) (b := 1) (n := 1)
    simp only [Nat.pow_one] at this
    rw [this]
    rcases Nat.mod_two_eq_zero_or_one (x / 2 ^ 63) with h | h <;> rw [h] <;> decide
  unfold val
  rw [h1, h2]
  rcases Nat.mod_two_eq_zero_or_one (x / 2 ^ 63) with h | h <;> rw [h] <;> simp [sgn, Rat.intCast_neg, Rat.neg_mul, Rat.neg_neg]
theorem fin_abs {x : Nat} (h : Fnt x) : Fnt (Go.Fl.abs x) := by
  unfold Fnt Go.Fl.abs at *
  rw [Nat.mod_mod]; exact h
theorem vabs (x : Nat) : val (Go.Fl.abs x) = absR (val x) := by
  have h0 : Go.Fl.abs x < 2 ^ 63 := Nat.mod_lt _ (by decide)
  have e : val (Go.Fl.abs x) = (mag (x % 2 ^ 63) : Rat) * pw (-1074) := by
    unfold val
    rw [Nat.div_eq_of_lt h0]
    unfold Go.Fl.abs
    rw [Nat.mod_mod]
    rfl
  have hp : 0 ≤ (mag (x % 2 ^ 63) : Rat) * pw (-1074) := Rat.mul_nonneg Rat.natCast_nonneg (Rat.le_of_lt (pw_pos _))
  rw [e]
  unfold absR
  rcases val_cases x with h | h
  · rw [h, if_neg (by grind)]
  · rw [h]
    split
    · grind
    · grind
theorem ltF_val {x y : Nat} (hx : Fnt x) (hy : Fnt y) : ltF (ab x) (ab y) = decide (val x < val y) := by
  unfold ltF
  rw [ord_val hx hy]
  by_cases h : val x < val y
  · simp [h]
  · by_cases h2 : val x = val y <;> simp [h, h2]
theorem gtF_val {x y : Nat} (hx : Fnt x) (hy : Fnt y) : gtF (ab x) (ab y) = decide (val y < val x) := by
  unfold gtF
  rw [ord_val hx hy]
  by_cases h : val x < val y
  · have : ¬ val y < val x := by grind
    simp [h, this]
  · by_cases h2 : val x = val y
    · rw [h2]; simp [h2 ▸ h]
    · have : val y < val x := by grind
      simp [h, h2, this]
theorem eqF_val {x y : Nat} (hx : Fnt x) (hy : Fnt y) : eqF (ab x) (ab y) = decide (val x = val y) := by
  unfold eqF
  rw [ord_val hx hy]
  by_cases h : val x < val y
  · have : ¬ val x = val y := by grind
    simp [h, this]
  · by_cases h2 : val x = val y <;> simp [h, h2]
theorem fin_iff {x : Nat} (h : fin (ab x) = true) : Fnt x := by
  obtain ⟨s, m, e, hr⟩ := fin_num h
  exact (read_num hr).2.1
theorem fin_of {x : Nat} (h : Fnt x) : fin (ab x) = true := by
  unfold fin
  have hm : Fnt 9218868437227405311 := by unfold Fnt; decide
  rw [eqF_self, h.num, ← ab_abs, gtF_val (fin_abs h) hm]
  have h1 : val (Go.Fl.abs x) ≤ val 9218868437227405311 := by
    have e1 : ord (ab (Go.Fl.abs x)) (ab 9218868437227405311) = some (compare (lin (Go.Fl.abs x)) (lin 9218868437227405311)) := by
      rw [← order_ab]; exact order_lin (fin_abs h).num hm.num
    rw [ord_val (fin_abs h) hm] at e1
    have l1 : lin 9218868437227405311 = 9218868437227405311 := by decide +kernel
    have l3 : lin (Go.Fl.abs x) = ((x % 2 ^ 63 : Nat) : Int) := by
      have : Go.Fl.abs x < 2 ^ 63 := Nat.mod_lt _ (by decide)
      rw [lin_low this]; rfl
    unfold Fnt at h
    rw [l1, l3, Int.compare_eq_ite_lt] at e1
    by_cases h2 : val (Go.Fl.abs x) < val 9218868437227405311
    · grind
    · by_cases h3 : val (Go.Fl.abs x) = val 9218868437227405311
      · grind
      · rw [if_neg h2, if_neg h3] at e1
        split at e1
        · simp at e1
        · split at e1
          · omega
          · simp at e1
  simp
  grind

/-! The whole part. -/
theorem write_same {s : Bool} {m : Nat} {e : Int} {y : Nat} (hB : (m : Rat) * pw e ≤ pw 1000) (h : dv s m e = val y) : val (double.write (.number s m e)) = val y := by
  have := write_mono s m e hB (y := y)
  have a := this.1 (by grind)
  have b := this.2 (by grind)
  grind
theorem floor_val {x : Nat} (hx : Fnt x) (h0 : 0 ≤ val x) (hB : val x ≤ pw 1000) : Fnt (floor x) ∧ val (floor x) ≤ val x ∧ val x ≤ val (floor x) + 1 ∧ 0 ≤ val (floor x) := by
  obtain ⟨s, m, i, ex⟩ := fin_read hx
  have vx := val_read ex
  have hp := pw_pos i
  have hm0 : 0 ≤ (m : Rat) * pw i := Rat.mul_nonneg Rat.natCast_nonneg (Rat.le_of_lt hp)
  have hx' : val x = (m : Rat) * pw i := by
    cases s
    · rw [vx, dv_false]
    · rw [dv_true] at vx; grind
  have hsm : s = true → m = 0 := by
    intro hs
    subst hs
    rw [dv_true] at vx
    have h0 : (m : Rat) * pw i = 0 := by grind
    rcases Nat.eq_zero_or_pos m with h1 | h1
    · exact h1
    · have := Rat.mul_pos (Rat.natCast_pos.2 h1) hp
      grind
  obtain ⟨K, hK⟩ : ∃ K, K = Toward.down.cut s (m <<< i.toNat) (-i).toNat := ⟨_, rfl⟩
  have hf : floor x = double.write (.number s K 0) := by
    unfold floor
    rw [ex]
    simp only [Datum.integral, ← hK]
  -- K is the whole part
  have hKd : K = m * 2 ^ i.toNat / 2 ^ (-i).toNat := by
    rw [hK]
    unfold Toward.cut
    simp only [shl, Nat.one_mul]
    have hmore : ∀ r : Nat, (m = 0 → r = 0) → (s && r != 0).toNat = 0 := by
      intro r hr
      cases s
      · rfl
      · rw [hr (hsm rfl)]; rfl
    rw [hmore _ (fun h => by rw [h]; simp), Nat.add_zero]
    generalize m * 2 ^ i.toNat = n
    rcases Nat.lt_or_ge (n.log2 + 2) ((-i).toNat) with h | h
    · rw [Nat.min_eq_right (Nat.le_of_lt h)]
      have hn : n < 2 ^ (n.log2 + 1) := Nat.lt_log2_self
      have a1 : 2 ^ (n.log2 + 1) ≤ 2 ^ (n.log2 + 2) := Nat.pow_le_pow_right (by omega) (by omega)
      have a2 : 2 ^ (n.log2 + 2) ≤ 2 ^ ((-i).toNat) := Nat.pow_le_pow_right (by omega) (by omega)
      rw [Nat.div_eq_of_lt (by omega), Nat.div_eq_of_lt (by omega)]
    · rw [Nat.min_eq_left h]
  have hz0 : s = true → K = 0 := fun hs => by rw [hKd, hsm hs]; simp
  have hdvK : dv s K 0 = (K : Rat) := by
    have e0 : pw 0 = 1 := by decide +kernel
    cases hs : s
    · rw [dv_false, e0, Rat.mul_one]
    · rw [dv_true, hz0 hs, e0]
      have z : ((0 : Nat) : Rat) = 0 := rfl
      rw [z]; grind
  rcases Int.le_total 0 i with hi | hi
  · -- whole already
    have e1 : (-i).toNat = 0 := by omega
    have hKx : (K : Rat) = val x := by
      rw [hKd, e1, Nat.pow_zero, Nat.div_one, hx', Rat.natCast_mul, ← pw_nat, show ((i.toNat : Nat) : Int) = i by omega]
    have hb : (K : Rat) * pw 0 ≤ pw 1000 := by
      have e0 : pw 0 = 1 := by decide +kernel
      rw [e0, Rat.mul_one, hKx]; exact hB
    have hv : val (floor x) = val x := by
      rw [hf]; exact write_same hb (by rw [hdvK, hKx])
    have hfin := (write_near s K 0 hb (Rat.le_refl)).1
    rw [← hf] at hfin
    exact ⟨hfin, by grind, by grind, by grind⟩
  · have e1 : i.toNat = 0 := by omega
    rw [e1, Nat.pow_zero, Nat.mul_one] at hKd
    have hm53 := read_lt ex
    have hK53 : K < 2 ^ 53 := by
      rw [hKd]; exact Nat.lt_of_le_of_lt (Nat.div_le_self _ _) hm53
    obtain ⟨d, hd⟩ : ∃ d, d = (-i).toNat := ⟨_, rfl⟩
    rw [← hd] at hKd
    have hxi : val x * ((2 ^ d : Nat) : Rat) = (m : Rat) := by
      rw [hx', ← pw_nat, Rat.mul_assoc, ← pw_add, show i + (d : Int) = 0 by omega]
      have e0 : pw 0 = 1 := by decide +kernel
      rw [e0, Rat.mul_one]
    have hpd := Nat.two_pow_pos d
    have hpdR : (0 : Rat) < ((2 ^ d : Nat) : Rat) := Rat.natCast_pos.2 hpd
    have hdm := Nat.div_add_mod m (2 ^ d)
    have hlt := Nat.mod_lt m hpd
    rw [← hKd] at hdm
    have k1 : K * 2 ^ d ≤ m := by rw [Nat.mul_comm]; omega
    have k2 : m ≤ (K + 1) * 2 ^ d := by rw [Nat.add_mul, Nat.mul_comm]; omega
    have k1' : (K : Rat) * ((2 ^ d : Nat) : Rat) ≤ (m : Rat) := by rw [← Rat.natCast_mul]; exact Rat.natCast_le_natCast.2 k1
    have k2' : (m : Rat) ≤ ((K : Rat) + 1) * ((2 ^ d : Nat) : Rat) := by
      have := Rat.natCast_le_natCast.2 k2
      rw [Rat.natCast_mul, Rat.natCast_add] at this
      exact this
    rw [← hxi] at k1' k2'
    have q1 : (K : Rat) ≤ val x := le_of_mul hpdR k1'
    have q2 : val x ≤ (K : Rat) + 1 := le_of_mul hpdR k2'
    have hb : (K : Rat) * pw 0 ≤ pw 1000 := by
      have e0 : pw 0 = 1 := by decide +kernel
      rw [e0, Rat.mul_one]; exact Rat.le_trans q1 hB
    have hv : val (floor x) = (K : Rat) := by
      rw [hf]
      rcases Nat.eq_zero_or_pos K with h1 | h1
      · rw [write_same (y := 0) hb (by rw [hdvK, h1, val0]; rfl), val0, h1]; rfl
      · have hlog : K.log2 ≤ 52 := by
          rcases Nat.lt_or_ge 52 K.log2 with h2 | h2
          · have a1 := Nat.log2_self_le (show K ≠ 0 by omega)
            have a2 := Nat.pow_le_pow_right (show 0 < 2 by omega) (show 53 ≤ K.log2 by omega)
            omega
          · exact h2
        obtain ⟨last, kept, hr⟩ := rounds s (e := 0) h1 (by omega)
        show val (double.nearest s K 0) = _
        obtain ⟨_, n2⟩ := hr.near
        have hex : last ≤ 0 → (kept : Rat) * pw last = (K : Rat) * pw 0 := hr.exact
        have hl : last ≤ 0 := by
          rcases hr.rel with h2 | h2
          · omega
          · have := log_le (N := 53) (m := K) (e := 0) h1 (by
              have e0 : pw 0 = 1 := by decide +kernel
              have e53 : pw 53 = ((2 ^ 53 : Nat) : Rat) := pw_nat 53
              rw [e0, Rat.mul_one, e53]; exact Rat.natCast_le_natCast.2 (by omega))
            rcases Int.lt_or_le 0 last with h3 | h3
            · exfalso
              have a1 := pw_mono (show (53 : Int) ≤ last + 52 by omega)
              have e0 : pw 0 = 1 := by decide +kernel
              have e53 : pw 53 = ((2 ^ 53 : Nat) : Rat) := pw_nat 53
              have a2 : (K : Rat) < ((2 ^ 53 : Nat) : Rat) := Rat.natCast_lt_natCast.2 hK53
              rw [e0, Rat.mul_one] at h2
              rw [e53] at a1
              grind
            · exact h3
        have e2 := hex hl
        rw [hr.value]
        cases hs : s
        · rw [dv_false, e2]
          have e0 : pw 0 = 1 := by decide +kernel
          rw [e0, Rat.mul_one]
        · exfalso
          have := hz0 hs
          omega
    have hfin := (write_near s K 0 hb (Rat.le_refl)).1
    rw [← hf] at hfin
    have hK0 : (0 : Rat) ≤ (K : Rat) := Rat.natCast_nonneg
    exact ⟨hfin, by grind, by grind, by grind⟩
end Go.Proofs.Ytijfmaepoamkgab
