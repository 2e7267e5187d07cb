/- Exact quotients and exact writes of floats. No program is spoken of here. -/
import Derived.Test.YtcocliilapeelaaWh
namespace Go.Proofs.Ytcocliilapeelaa
open Go.Fl Ieee Go.RowKit

theorem read53 : double.read 4845873199050653696 = .number false 4503599627370496 1 := by decide +kernel
theorem quo53 {x y : Nat} (hx : Fnt x) (hb : -pw 1000 ≤ val y ∧ val y ≤ pw 1000) (hy : val y = val x * pw (-53)) : ∃ r, bin .quo (some x) (some 4845873199050653696) = some r ∧ Fnt r ∧ val r = val y := by
  obtain ⟨s, m, i, ex⟩ := fin_read hx
  have vx := val_read ex
  have hm := read_lt ex
  obtain ⟨L, hL⟩ : ∃ L, L = m.log2 := ⟨_, rfl⟩
  have hL2 : L ≤ 52 := by
    rcases Nat.eq_zero_or_pos m with h0 | h0
    · subst h0; rw [hL]; decide
    · have a1 : 2 ^ m.log2 ≤ m := Nat.log2_self_le (by omega)
      rcases Nat.lt_or_ge 52 L with h1 | h1
      · have := Nat.pow_le_pow_right (show 0 < 2 by omega) (show 53 ≤ m.log2 by omega)
        omega
      · exact h1
  obtain ⟨q, hq⟩ : ∃ q, 54 + 52 - L = 52 + q := ⟨54 - L, by omega⟩
  have hl2 : Nat.log2 4503599627370496 = 52 := by decide +kernel
  have hD : m * 2 ^ (52 + q) = (m * 2 ^ q) * 4503599627370496 := by
    rw [Nat.pow_add, show (2 : Nat) ^ 52 = 4503599627370496 from rfl]
    rw [Nat.mul_comm 4503599627370496, Nat.mul_assoc]
  have h1 : m * 2 ^ (52 + q) / 4503599627370496 = m * 2 ^ q := by rw [hD]; exact Nat.mul_div_cancel _ (by omega)
  have h2 : m * 2 ^ (52 + q) % 4503599627370496 = 0 := by rw [hD]; exact Nat.mul_mod_left _ _
  obtain ⟨e, he⟩ : ∃ e : Int, e = i - 1 - ((52 + q : Nat) : Int) - 1 := ⟨_, rfl⟩
  have hr : bin .quo (some x) (some 4845873199050653696) = some (double.write (.number s (2 * (m * 2 ^ q)) e)) := by
    show double.div x 4845873199050653696 = _
    unfold Format.div
    rw [ex, read53]
    have e4 : double.fractionBits + 2 = 54 := rfl
    simp only [Datum.quotient, e4, shl, if_neg (show ¬ (4503599627370496 : Nat) = 0 by omega), Option.map_some, Option.some.injEq, Bool.xor_false, hl2, ← hL, hq, h1, h2]
    rw [he]
    simp
  have hdv : dv s (2 * (m * 2 ^ q)) e = val y := by
    have e1 : ((2 * (m * 2 ^ q) : Nat) : Rat) = (m : Rat) * pw ((q + 1 : Nat) : Int) := by
      rw [pw_nat, ← Rat.natCast_mul]
      congr 1
      rw [Nat.pow_succ, Nat.mul_comm 2, Nat.mul_assoc]
    have e2 : pw ((q + 1 : Nat) : Int) * pw e = pw i * pw (-53) := by
      rw [← pw_add, ← pw_add]; congr 1; omega
    rw [hy, vx]
    cases s
    · rw [dv_false, dv_false, e1, Rat.mul_assoc, e2, Rat.mul_assoc]
    · rw [dv_true, dv_true, e1, Rat.mul_assoc, e2, Rat.neg_mul, Rat.mul_assoc]
  have hB : ((2 * (m * 2 ^ q) : Nat) : Rat) * pw e ≤ pw 1000 := by
    obtain ⟨b1, b2⟩ := hb
    rw [← hdv] at b1 b2
    cases s
    · rw [dv_false] at b2; exact b2
    · rw [dv_true] at b1; grind
  refine ⟨_, hr, (write_near s _ e hB Rat.le_refl).1, ?_⟩
  rw [write_same (y := y) hB hdv]
/-- What the format has comes out as it is. -/
theorem exact_write (s : Bool) {K : Nat} {e : Int} (hK : K < 2 ^ 53) (he : -1074 ≤ e) (hb : (K : Rat) * pw e ≤ pw 1000) : Fnt (double.write (.number s K e)) ∧ val (double.write (.number s K e)) = dv s K e := by
  refine ⟨(write_near s K e hb Rat.le_refl).1, ?_⟩
  rcases Nat.eq_zero_or_pos K with h1 | h1
  · subst h1
    have e2 : dv s 0 e = 0 := by cases s <;> simp [dv, sgn]
    rw [e2, write_same (y := 0) hb (by rw [e2, val0]), val0]
  · have hl0 : e + (K.log2 : Int) ≤ 1000 := log_le h1 hb
    obtain ⟨last, kept, hr⟩ := rounds s (e := e) h1 (by omega)
    have hl : last ≤ e := by
      rcases hr.rel with h2 | h2
      · omega
      · rcases Int.lt_or_le e last with h3 | h3
        · exfalso
          have a1 := pw_mono (show e + 53 ≤ last + 52 by omega)
          rw [pw_add] at a1
          have e53 : pw 53 = ((2 ^ 53 : Nat) : Rat) := pw_nat 53
          have a2 : (K : Rat) < ((2 ^ 53 : Nat) : Rat) := Rat.natCast_lt_natCast.2 hK
          have a3 := Rat.mul_lt_mul_of_pos_right a2 (pw_pos e)
          rw [e53] at a1
          grind
        · exact h3
    have e2 := hr.exact hl
    show val (double.nearest s K e) = _
    rw [hr.value]
    cases s
    · rw [dv_false, dv_false, e2]
    · rw [dv_true, dv_true, e2]
theorem fhalf : Fnt 4602678819172646912 ∧ val 4602678819172646912 = 1 / 2 := ⟨by unfold Fnt; decide, by decide +kernel⟩
theorem fone : Fnt 4607182418800017408 ∧ val 4607182418800017408 = 1 := ⟨by unfold Fnt; decide, by decide +kernel⟩
end Go.Proofs.Ytcocliilapeelaa
