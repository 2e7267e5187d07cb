/- The cell of the middle of a cell; middles in their order; whole numbers of metres. -/
import Derived.Test.YtcekbnjgdgapgaaLi
namespace Go.Proofs.Ytcekbnjgdgapgaa
open Go.Fl Ieee Go.RowKit

theorem read1 : double.read 4607182418800017408 = .number false 4503599627370496 (-52) := by decide +kernel
theorem quo_one {x : Nat} (hx : Fnt x) (hb : -pw 1000 ≤ val x ∧ val x ≤ pw 1000) : ∃ r, bin .quo (some x) (some 4607182418800017408) = some r ∧ Fnt r ∧ val r = val x := by
  obtain ⟨s, m, i, ex⟩ := fin_read hx
  have vx := val_read ex
  have hm := read_lt ex
  obtain ⟨L, hL⟩ : ∃ L, L = m.log2 := ⟨_, rfl⟩
  have hL2 : L ≤ 52 := by
    rcases Nat.eq_zero_or_pos m with h0 | h0
    · subst h0; rw [hL]; decide
    · have a1 : 2 ^ m.log2 ≤ m := Nat.log2_self_le (by omega)
      rcases Nat.lt_or_ge 52 L with h1 | h1
      · have := Nat.pow_le_pow_right (show 0 < 2 by omega) (show 53 ≤ m.log2 by omega)
        omega
      · exact h1
  obtain ⟨q, hq⟩ : ∃ q, 54 + 52 - L = 52 + q := ⟨54 - L, by omega⟩
  have hl2 : Nat.log2 4503599627370496 = 52 := by decide +kernel
  have hD : m * 2 ^ (52 + q) = (m * 2 ^ q) * 4503599627370496 := by
    rw [Nat.pow_add, show (2 : Nat) ^ 52 = 4503599627370496 from rfl]
    rw [Nat.mul_comm 4503599627370496, Nat.mul_assoc]
  have h1 : m * 2 ^ (52 + q) / 4503599627370496 = m * 2 ^ q := by rw [hD]; exact Nat.mul_div_cancel _ (by omega)
  have h2 : m * 2 ^ (52 + q) % 4503599627370496 = 0 := by rw [hD]; exact Nat.mul_mod_left _ _
  obtain ⟨e, he⟩ : ∃ e : Int, e = i - (-52) - ((52 + q : Nat) : Int) - 1 := ⟨_, rfl⟩
  have hr : bin .quo (some x) (some 4607182418800017408) = some (double.write (.number s (2 * (m * 2 ^ q)) e)) := by
    show double.div x 4607182418800017408 = _
    unfold Format.div
    rw [ex, read1]
    have e4 : double.fractionBits + 2 = 54 := rfl
    simp only [Datum.quotient, e4, shl, if_neg (show ¬ (4503599627370496 : Nat) = 0 by omega), Option.map_some, Option.some.injEq, Bool.xor_false, hl2, ← hL, hq, h1, h2]
    rw [he]
    simp
  have hdv : dv s (2 * (m * 2 ^ q)) e = dv s m i := by
    have e1 : ((2 * (m * 2 ^ q) : Nat) : Rat) = (m : Rat) * pw ((q + 1 : Nat) : Int) := by
      rw [pw_nat, ← Rat.natCast_mul]
      congr 1
      rw [Nat.pow_succ, Nat.mul_comm 2, Nat.mul_assoc]
    have e2 : pw ((q + 1 : Nat) : Int) * pw e = pw i := by
      rw [← pw_add]; congr 1; omega
    cases s
    · rw [dv_false, dv_false, e1, Rat.mul_assoc, e2]
    · rw [dv_true, dv_true, e1, Rat.mul_assoc, e2]
  have hB : ((2 * (m * 2 ^ q) : Nat) : Rat) * pw e ≤ pw 1000 := by
    obtain ⟨b1, b2⟩ := hb
    rw [vx, ← hdv] at b1 b2
    cases s
    · rw [dv_false] at b2; exact b2
    · rw [dv_true] at b1; grind
  refine ⟨_, hr, (write_near s _ e hB Rat.le_refl).1, ?_⟩
  rw [write_same (y := x) hB (by rw [hdv, vx])]
/-- What the format has comes out as it is. -/
theorem exact_write (s : Bool) {K : Nat} {e : Int} (hK : K < 2 ^ 53) (he : -1074 ≤ e) (hb : (K : Rat) * pw e ≤ pw 1000) : Fnt (double.write (.number s K e)) ∧ val (double.write (.number s K e)) = dv s K e := by
  refine ⟨(write_near s K e hb Rat.le_refl).1, ?_⟩
  rcases Nat.eq_zero_or_pos K with h1 | h1
  · subst h1
    have e2 : dv s 0 e = 0 := by cases s <;> simp [dv, sgn]
    rw [e2, write_same (y := 0) hb (by rw [e2, val0]), val0]
  · have hl0 : e + (K.log2 : Int) ≤ 1000 := log_le h1 hb
    obtain ⟨last, kept, hr⟩ := rounds s (e := e) h1 (by omega)
    have hl : last ≤ e := by
      rcases hr.rel with h2 | h2
      · omega
      · rcases Int.lt_or_le e last with h3 | h3
        · exfalso
          have a1 := pw_mono (show e + 53 ≤ last + 52 by omega)
          rw [pw_add] at a1
          have e53 : pw 53 = ((2 ^ 53 : Nat) : Rat) := pw_nat 53
          have a2 : (K : Rat) < ((2 ^ 53 : Nat) : Rat) := Rat.natCast_lt_natCast.2 hK
          have a3 := Rat.mul_lt_mul_of_pos_right a2 (pw_pos e)
          rw [e53] at a1
          grind
        · exact h3
    have e2 := hr.exact hl
    show val (double.nearest s K e) = _
    rw [hr.value]
    cases s
    · rw [dv_false, dv_false, e2]
    · rw [dv_true, dv_true, e2]
theorem fhalf : Fnt 4602678819172646912 ∧ val 4602678819172646912 = 1 / 2 := ⟨by unfold Fnt; decide, by decide +kernel⟩
theorem fone : Fnt 4607182418800017408 ∧ val 4607182418800017408 = 1 := ⟨by unfold Fnt; decide, by decide +kernel⟩
theorem p50 : pw 50 = 1125899906842624 := by decide +kernel
theorem half_val {n : Nat} (h : n < 1125899906842624) : ∃ x, bin .add (ab (floatOfInt .f64 (n : Int))) (ab 4602678819172646912) = some x ∧ Fnt x ∧ val x = (n : Rat) + 1 / 2 := by
  obtain ⟨fn, vn⟩ := int_val (K := n) (by omega)
  obtain ⟨x, hx⟩ := bin_some_add fn fhalf.1
  have hn : (n : Rat) ≤ 1125899906842624 := by
    have := Rat.natCast_le_natCast.2 (show n ≤ 1125899906842624 by omega)
    exact this
  have h0 : (0 : Rat) ≤ (n : Rat) := Rat.natCast_nonneg
  have hm1 : pw (-1) = 1 / 2 := by decide +kernel
  have hd : ((2 * n + 1 : Nat) : Rat) * pw (-1) = (n : Rat) + 1 / 2 := by
    rw [hm1, Rat.natCast_add, Rat.natCast_mul]
    have e2 : ((2 : Nat) : Rat) = 2 := rfl
    have e1 : ((1 : Nat) : Rat) = 1 := rfl
    rw [e1, e2]; grind
  have hpw : pw 51 ≤ pw 1000 := pw_mono (by omega)
  have p51 : pw 51 = 2251799813685248 := by decide +kernel
  have hle : (n : Rat) + 1 / 2 ≤ pw 1000 := by rw [p51] at hpw; grind
  obtain ⟨fz, vz⟩ := exact_write false (K := 2 * n + 1) (e := -1) (by omega) (by omega) (by rw [hd]; exact hle)
  rw [dv_false, hd] at vz
  have e := fhalf.2
  have hB' : -pw 1000 ≤ val (floatOfInt .f64 (n : Int)) + val 4602678819172646912 := by
    have := pw_pos 1000
    rw [vn, e]; grind
  have m := add_mono fn fhalf.1 hx (by rw [vn, e]; exact hle) hB' (z := double.write (.number false (2 * n + 1) (-1)))
  rw [vn, e, vz] at m
  refine ⟨x, by rw [Fnt.ab fn, Fnt.ab fhalf.1]; exact hx, (add_near fn fhalf.1 hx (B := pw 1000) (by rw [vn, e]; exact hle) hB' Rat.le_refl).1, ?_⟩
  have a := m.1 Rat.le_refl
  have b := m.2 Rat.le_refl
  grind
theorem mul_bd {a b c d : Rat} (ha : 0 ≤ a) (hb : a ≤ b) (hc : 0 ≤ c) (hd : c ≤ d) : a * c ≤ b * d :=
  Rat.le_trans (Rat.mul_le_mul_of_nonneg_right hb hc) (Rat.mul_le_mul_of_nonneg_left hd (Rat.le_trans ha hb))
/-- A cell's width, from 1e-100 to 1e100 at least. -/
structure Wd (c : Nat) : Prop where
  f : Fnt c
  lo : pw (-333) ≤ val c
  hi : val c ≤ pw 333
theorem Wd.pos {c : Nat} (h : Wd c) : 0 < val c := by have := pw_pos (-333); have := h.lo; grind
/-- Where the middle of a cell comes to lie. -/
def Mid (c m : Nat) (n : Nat) : Prop := Fnt m ∧ val c * ((n : Rat) + 5 / 14) ≤ val m ∧ val m ≤ val c * ((n : Rat) + 9 / 14)
theorem mid_of {c n : Nat} (hc : Wd c) (h : n < 1125899906842624) : ∃ m, midF (ab c) (n : Int) = some m ∧ Mid c m n := by
  obtain ⟨x, x1, x2, x3⟩ := half_val h
  obtain ⟨m, hm⟩ := bin_some_mul x2 hc.f
  refine ⟨m, by unfold midF; rw [x1, Fnt.ab hc.f]; exact hm, ?_⟩
  have hn : (n : Rat) + 1 / 2 ≤ 1125899906842624 := by
    have := Rat.natCast_le_natCast.2 (show n + 1 ≤ 1125899906842624 by omega)
    rw [Rat.natCast_add] at this
    have e1 : ((1 : Nat) : Rat) = 1 := rfl
    have e2 : ((1125899906842624 : Nat) : Rat) = 1125899906842624 := rfl
    rw [e1, e2] at this
    grind
  have h0 : (0 : Rat) ≤ (n : Rat) := Rat.natCast_nonneg
  have hp := hc.pos
  have hB : (val x) * val c ≤ pw 1000 := by
    have a := mul_bd (a := val x) (b := pw 50) (c := val c) (d := pw 333) (by rw [x3]; grind) (by rw [x3, p50]; exact hn) (Rat.le_of_lt hp) hc.hi
    rw [← pw_add] at a
    exact Rat.le_trans a (pw_mono (by omega))
  have hP : 0 ≤ val x * val c := Rat.mul_nonneg (by rw [x3]; grind) (Rat.le_of_lt hp)
  obtain ⟨f, n1, n2⟩ := mul_near x2 hc.f hm (B := val x * val c) Rat.le_refl (by grind) hB
  have ht : pw (-1075) ≤ val c * (1 / 1000) := by
    have e : pw (-1075) = pw (-333) * pw (-742) := by rw [← pw_add]; rfl
    rw [e]
    have e2 : pw (-742) ≤ pw (-10) := pw_mono (by omega)
    have e3 : pw (-10) ≤ 1 / 1000 := by decide +kernel
    exact mul_bd (Rat.le_of_lt (pw_pos _)) hc.lo (Rat.le_of_lt (pw_pos _)) (Rat.le_trans e2 e3)
  rw [pw53] at n1 n2
  have hs : val x * val c ≤ 1125899906842624 * val c := Rat.mul_le_mul_of_nonneg_right (by rw [x3]; exact hn) (Rat.le_of_lt hp)
  have hx : val x * val c = val c * (n : Rat) + val c * (1 / 2) := by rw [x3]; grind
  refine ⟨f, ?_, ?_⟩
  · rw [Rat.mul_add]; grind
  · rw [Rat.mul_add]; grind
end Go.Proofs.Ytcekbnjgdgapgaa
