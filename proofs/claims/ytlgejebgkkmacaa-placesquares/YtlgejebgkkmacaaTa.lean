/- Quotients by powers of two, numbers that are written without rounding, floors. -/
import Derived.Test.YtlgejebgkkmacaaLe
import Derived.Test.YtlgejebgkkmacaaEc
namespace Go.Proofs.Ytlgejebgkkmacaa
open Go.Fl Ieee Go.RowKit

theorem quo_pow {x y f : Nat} {j : Int} (hf : double.read f = .number false 4503599627370496 j) (hx : Fnt x) (hb : -pw 1000 ≤ val y ∧ val y ≤ pw 1000) (hy : val y = val x * pw (-(52 + j))) : ∃ r, bin .quo (some x) (some f) = some r ∧ Fnt r ∧ val r = val y := by
  obtain ⟨s, m, i, ex⟩ := fin_read hx
  have vx := val_read ex
  have hm := read_lt ex
  obtain ⟨L, hL⟩ : ∃ L, L = m.log2 := ⟨_, rfl⟩
  have hL2 : L ≤ 52 := by
    rcases Nat.eq_zero_or_pos m with h0 | h0
    · subst h0; rw [hL]; decide
    · have a1 : 2 ^ m.log2 ≤ m := Nat.log2_self_le (by omega)
      rcases Nat.lt_or_ge 52 L with h1 | h1
      · have := Nat.pow_le_pow_right (show 0 < 2 by omega) (show 53 ≤ m.log2 by omega)
        omega
      · exact h1
  obtain ⟨q, hq⟩ : ∃ q, 54 + 52 - L = 52 + q := ⟨54 - L, by omega⟩
  have hl2 : Nat.log2 4503599627370496 = 52 := by decide +kernel
  have hD : m * 2 ^ (52 + q) = (m * 2 ^ q) * 4503599627370496 := by
    rw [Nat.pow_add, show (2 : Nat) ^ 52 = 4503599627370496 from rfl]
    rw [Nat.mul_comm 4503599627370496, Nat.mul_assoc]
  have h1 : m * 2 ^ (52 + q) / 4503599627370496 = m * 2 ^ q := by rw [hD]; exact Nat.mul_div_cancel _ (by omega)
  have h2 : m * 2 ^ (52 + q) % 4503599627370496 = 0 := by rw [hD]; exact Nat.mul_mod_left _ _
  obtain ⟨e, he⟩ : ∃ e : Int, e = i - j - ((52 + q : Nat) : Int) - 1 := ⟨_, rfl⟩
  have hr : bin .quo (some x) (some f) = some (double.write (.number s (2 * (m * 2 ^ q)) e)) := by
    show double.div x f = _
    unfold Format.div
    rw [ex, hf]
    have e4 : double.fractionBits + 2 = 54 := rfl
    simp only [Datum.quotient, e4, shl, if_neg (show ¬ (4503599627370496 : Nat) = 0 by omega), Option.map_some, Option.some.injEq, Bool.xor_false, hl2, ← hL, hq, h1, h2]
    rw [he]
    simp
  have hdv : dv s (2 * (m * 2 ^ q)) e = val y := by
    have e1 : ((2 * (m * 2 ^ q) : Nat) : Rat) = (m : Rat) * pw ((q + 1 : Nat) : Int) := by
      rw [pw_nat, ← Rat.natCast_mul]
      congr 1
      rw [Nat.pow_succ, Nat.mul_comm 2, Nat.mul_assoc]
    have e2 : pw ((q + 1 : Nat) : Int) * pw e = pw i * pw (-(52 + j)) := by
      rw [← pw_add, ← pw_add]; congr 1; omega
    rw [hy, vx]
    cases s
    · rw [dv_false, dv_false, e1, Rat.mul_assoc, e2, Rat.mul_assoc]
    · rw [dv_true, dv_true, e1, Rat.mul_assoc, e2, Rat.neg_mul, Rat.mul_assoc]
  have hB : ((2 * (m * 2 ^ q) : Nat) : Rat) * pw e ≤ pw 1000 := by
    obtain ⟨b1, b2⟩ := hb
    rw [← hdv] at b1 b2
    cases s
    · rw [dv_false] at b2; exact b2
    · rw [dv_true] at b1; grind
  refine ⟨_, hr, (write_near s _ e hB Rat.le_refl).1, ?_⟩
  rw [write_same (y := y) hB hdv]
/-- What the format has comes out as it is. -/
theorem exact_write (s : Bool) {K : Nat} {e : Int} (hK : K < 2 ^ 53) (he : -1074 ≤ e) (hb : (K : Rat) * pw e ≤ pw 1000) : Fnt (double.write (.number s K e)) ∧ val (double.write (.number s K e)) = dv s K e := by
  refine ⟨(write_near s K e hb Rat.le_refl).1, ?_⟩
  rcases Nat.eq_zero_or_pos K with h1 | h1
  · subst h1
    have e2 : dv s 0 e = 0 := by cases s <;> simp [dv, sgn]
    rw [e2, write_same (y := 0) hb (by rw [e2, val0]), val0]
  · have hl0 : e + (K.log2 : Int) ≤ 1000 := log_le h1 hb
    obtain ⟨last, kept, hr⟩ := rounds s (e := e) h1 (by omega)
    have hl : last ≤ e := by
      rcases hr.rel with h2 | h2
      · omega
      · rcases Int.lt_or_le e last with h3 | h3
        · exfalso
          have a1 := pw_mono (show e + 53 ≤ last + 52 by omega)
          rw [pw_add] at a1
          have e53 : pw 53 = ((2 ^ 53 : Nat) : Rat) := pw_nat 53
          have a2 : (K : Rat) < ((2 ^ 53 : Nat) : Rat) := Rat.natCast_lt_natCast.2 hK
          have a3 := Rat.mul_lt_mul_of_pos_right a2 (pw_pos e)
          rw [e53] at a1
          grind
        · exact h3
    have e2 := hr.exact hl
    show val (double.nearest s K e) = _
    rw [hr.value]
    cases s
    · rw [dv_false, dv_false, e2]
    · rw [dv_true, dv_true, e2]
theorem floor_whole {x : Nat} (hx : Fnt x) (h0 : 0 ≤ val x) (hB : val x < 1125899906842624) : ∃ K : Nat, Fnt (floor x) ∧ val (floor x) = (K : Rat) ∧ (K : Rat) ≤ val x ∧ val x < (K : Rat) + 1 := by
  obtain ⟨s, m, i, ex⟩ := fin_read hx
  have vx := val_read ex
  have hp := pw_pos i
  have hsm := sign_of ex h0
  have hm0 : 0 ≤ (m : Rat) * pw i := Rat.mul_nonneg Rat.natCast_nonneg (Rat.le_of_lt hp)
  have hx' : val x = (m : Rat) * pw i := by
    cases s
    · rw [vx, dv_false]
    · rw [dv_true] at vx; grind
  obtain ⟨K, hK⟩ : ∃ K, K = Toward.down.cut s (m <<< i.toNat) (-i).toNat := ⟨_, rfl⟩
  have hf : floor x = double.write (.number s K 0) := by
    unfold floor
    rw [ex]
    simp only [Datum.integral, ← hK]
  have hKd : K = m * 2 ^ i.toNat / 2 ^ (-i).toNat := by
    rw [hK]
    unfold Toward.cut
    simp only [shl, Nat.one_mul]
    have hmore : ∀ r : Nat, (m = 0 → r = 0) → (s && r != 0).toNat = 0 := by
      intro r hr
      cases s
      · rfl
      · rw [hr (hsm rfl)]; rfl
    rw [hmore _ (fun h => by rw [h]; simp), Nat.add_zero]
    generalize m * 2 ^ i.toNat = n
    rcases Nat.lt_or_ge (n.log2 + 2) ((-i).toNat) with h | h
    · rw [Nat.min_eq_right (Nat.le_of_lt h)]
      have hn : n < 2 ^ (n.log2 + 1) := Nat.lt_log2_self
      have a1 : 2 ^ (n.log2 + 1) ≤ 2 ^ (n.log2 + 2) := Nat.pow_le_pow_right (by omega) (by omega)
      have a2 : 2 ^ (n.log2 + 2) ≤ 2 ^ ((-i).toNat) := Nat.pow_le_pow_right (by omega) (by omega)
      rw [Nat.div_eq_of_lt (by omega), Nat.div_eq_of_lt (by omega)]
    · rw [Nat.min_eq_left h]
  have hz0 : s = true → K = 0 := fun hs => by rw [hKd, hsm hs]; simp
  have hb : (K : Rat) ≤ val x ∧ val x < (K : Rat) + 1 := by
    rcases Int.le_total 0 i with hi | hi
    · have e1 : (-i).toNat = 0 := by omega
      have hKx : (K : Rat) = val x := by
        rw [hKd, e1, Nat.pow_zero, Nat.div_one, hx', Rat.natCast_mul, ← pw_nat, show ((i.toNat : Nat) : Int) = i by omega]
      constructor <;> grind
    · have e1 : i.toNat = 0 := by omega
      rw [e1, Nat.pow_zero, Nat.mul_one] at hKd
      obtain ⟨d, hd⟩ : ∃ d, d = (-i).toNat := ⟨_, rfl⟩
      rw [← hd] at hKd
      have hxi : val x * ((2 ^ d : Nat) : Rat) = (m : Rat) := by
        rw [hx', ← pw_nat, Rat.mul_assoc, ← pw_add, show i + (d : Int) = 0 by omega]
        have e0 : pw 0 = 1 := by decide +kernel
        rw [e0, Rat.mul_one]
      have hpd := Nat.two_pow_pos d
      have hpdR : (0 : Rat) < ((2 ^ d : Nat) : Rat) := Rat.natCast_pos.2 hpd
      have hdm := Nat.div_add_mod m (2 ^ d)
      have hlt := Nat.mod_lt m hpd
      rw [← hKd] at hdm
      have k1 : K * 2 ^ d ≤ m := by rw [Nat.mul_comm]; omega
      have k2 : m < (K + 1) * 2 ^ d := by rw [Nat.add_mul, Nat.mul_comm]; omega
      have k1' : (K : Rat) * ((2 ^ d : Nat) : Rat) ≤ (m : Rat) := by rw [← Rat.natCast_mul]; exact Rat.natCast_le_natCast.2 k1
      have k2' : (m : Rat) < ((K : Rat) + 1) * ((2 ^ d : Nat) : Rat) := by
        have := Rat.natCast_lt_natCast.2 k2
        rw [Rat.natCast_mul, Rat.natCast_add] at this
        exact this
      rw [← hxi] at k1' k2'
      refine ⟨le_of_mul hpdR k1', ?_⟩
      rcases (Rat.le_total : (K : Rat) + 1 ≤ val x ∨ val x ≤ (K : Rat) + 1) with h | h
      · exfalso
        have := Rat.mul_le_mul_of_nonneg_right h (Rat.le_of_lt hpdR)
        grind
      · refine Rat.lt_of_le_of_ne h fun e => ?_
        rw [e] at k2'
        grind
  have hK50 : K < 1125899906842624 := by
    rcases Nat.lt_or_ge K 1125899906842624 with h | h
    · exact h
    · exfalso
      have := Rat.natCast_le_natCast.2 h
      have e : ((1125899906842624 : Nat) : Rat) = 1125899906842624 := rfl
      rw [e] at this
      grind
  obtain ⟨g1, g2⟩ := int_write s (K := K) (by omega)
  refine ⟨K, by rw [hf]; exact g1, ?_, hb.1, hb.2⟩
  rw [hf, g2]
  have e0 : pw 0 = 1 := by decide +kernel
  cases hs : s
  · rw [dv_false, e0, Rat.mul_one]
  · rw [dv_true, hz0 hs, e0]
    have z : ((0 : Nat) : Rat) = 0 := rfl
    rw [z]; grind
end Go.Proofs.Ytlgejebgkkmacaa
