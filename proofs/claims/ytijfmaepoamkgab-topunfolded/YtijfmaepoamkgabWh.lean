/- Whole numbers as floats: sums and products without rounding. -/
import Derived.Test.YtijfmaepoamkgabFr
import Derived.Test.YtijfmaepoamkgabA
namespace Go.Proofs.Ytijfmaepoamkgab
open Go.Fl Ieee Go.RowKit

/-! Whole numbers as floats; quotients of numbers below 0. -/
theorem int_write (s : Bool) {K : Nat} (hK : K < 2 ^ 53) : Fnt (double.write (.number s K 0)) ∧ val (double.write (.number s K 0)) = dv s K 0 := by
  have e0 : pw 0 = 1 := by decide +kernel
  have hb : (K : Rat) * pw 0 ≤ pw 53 := by
    have e53 : pw 53 = ((2 ^ 53 : Nat) : Rat) := pw_nat 53
    rw [e0, Rat.mul_one, e53]; exact Rat.natCast_le_natCast.2 (by omega)
  have hb2 : pw 53 ≤ pw 1000 := pw_mono (by omega)
  refine ⟨(write_near s K 0 hb hb2).1, ?_⟩
  rcases Nat.eq_zero_or_pos K with h1 | h1
  · subst h1
    have e2 : dv s 0 0 = 0 := by cases s <;> simp [dv, sgn]
    rw [e2, write_same (y := 0) (Rat.le_trans hb hb2) (by rw [e2, val0]), val0]
  · have hl0 : (0 : Int) + (K.log2 : Int) ≤ 53 := log_le h1 hb
    obtain ⟨last, kept, hr⟩ := rounds s (e := 0) h1 (by omega)
    have hl : last ≤ 0 := by
      rcases hr.rel with h2 | h2
      · omega
      · rcases Int.lt_or_le 0 last with h3 | h3
        · exfalso
          have a1 := pw_mono (show (53 : Int) ≤ last + 52 by omega)
          have e53 : pw 53 = ((2 ^ 53 : Nat) : Rat) := pw_nat 53
          have a2 : (K : Rat) < ((2 ^ 53 : Nat) : Rat) := Rat.natCast_lt_natCast.2 hK
          rw [e0, Rat.mul_one] at h2
          rw [e53] at a1
          grind
        · exact h3
    have e2 := hr.exact hl
    show val (double.nearest s K 0) = _
    rw [hr.value]
    cases s
    · rw [dv_false, dv_false, e2]
    · rw [dv_true, dv_true, e2]
theorem int_val {K : Nat} (hK : K < 2 ^ 53) : Fnt (floatOfInt .f64 (K : Int)) ∧ val (floatOfInt .f64 (K : Int)) = (K : Rat) := by
  have e : floatOfInt .f64 (K : Int) = double.write (.number false K 0) := by
    show double.write (.number (decide ((K : Int) < 0)) (K : Int).natAbs 0) = _
    have : decide ((K : Int) < 0) = false := by simp
    rw [this]; rfl
  obtain ⟨h1, h2⟩ := int_write false hK
  have e0 : pw 0 = 1 := by decide +kernel
  rw [e]
  exact ⟨h1, by rw [h2, dv_false, e0, Rat.mul_one]⟩

def P53 : Int := 9007199254740992
theorem whole_val {z : Int} (h1 : -P53 < z) (h2 : z < P53) : Fnt (floatOfInt .f64 z) ∧ val (floatOfInt .f64 z) = (z : Rat) := by
  unfold P53 at h1 h2
  have e : floatOfInt .f64 z = double.write (.number (decide (z < 0)) z.natAbs 0) := rfl
  obtain ⟨a, b⟩ := int_write (decide (z < 0)) (K := z.natAbs) (by omega)
  have e0 : pw 0 = 1 := by decide +kernel
  rw [e]
  refine ⟨a, b.trans ?_⟩
  by_cases hz : z < 0
  · have : decide (z < 0) = true := by simpa using hz
    rw [this, dv_true, e0, Rat.mul_one]
    have : (z : Rat) = -((z.natAbs : Nat) : Rat) := by
      rw [← Rat.intCast_natCast, ← Rat.intCast_neg]; congr 1; omega
    rw [this]
  · have : decide (z < 0) = false := by simpa using hz
    rw [this, dv_false, e0, Rat.mul_one]
    rw [← Rat.intCast_natCast]; congr 1; omega
/-- A float that is a whole number (a nought of either sign is 0). -/
def WH (o : Option Nat) (z : Int) : Prop := ∃ x, o = some x ∧ Fnt x ∧ val x = (z : Rat)
theorem big53 {z : Int} (h1 : -P53 < z) (h2 : z < P53) : (z : Rat) ≤ pw 53 ∧ -pw 53 ≤ (z : Rat) ∧ pw 53 ≤ pw 1000 := by
  unfold P53 at h1 h2
  have e53 : pw 53 = ((9007199254740992 : Int) : Rat) := by decide +kernel
  refine ⟨?_, ?_, pw_mono (by omega)⟩
  · rw [e53]; exact Rat.intCast_le_intCast.2 (by omega)
  · rw [e53, ← Rat.intCast_neg]; exact Rat.intCast_le_intCast.2 (by omega)
theorem WH.int {z : Int} (h1 : -P53 < z) (h2 : z < P53) : WH (ab (floatOfInt .f64 z)) z := ⟨_, Fnt.ab (whole_val h1 h2).1, whole_val h1 h2⟩
theorem WH.mul {a b : Option Nat} {z y : Int} (ha : WH a z) (hb : WH b y) (h1 : -P53 < z * y) (h2 : z * y < P53) : WH (bin .mul a b) (z * y) := by
  obtain ⟨p, rfl, fp, vp⟩ := ha
  obtain ⟨q, rfl, fq, vq⟩ := hb
  obtain ⟨r, hr⟩ := bin_some_mul fp fq
  obtain ⟨b1, b2, b3⟩ := big53 h1 h2
  obtain ⟨f0, v0⟩ := whole_val h1 h2
  have e : val p * val q = ((z * y : Int) : Rat) := by rw [vp, vq, Rat.intCast_mul]
  obtain ⟨fr, _⟩ := mul_near fp fq hr (B := pw 53) (by rw [e]; exact b1) (by rw [e]; exact b2) b3
  have m := mul_mono fp fq hr (by rw [e]; exact Rat.le_trans b1 b3) (by rw [e]; grind) (z := floatOfInt .f64 (z * y))
  rw [v0, e] at m
  exact ⟨r, hr, fr, Rat.le_antisymm (m.1 (Rat.le_refl)) (m.2 (Rat.le_refl))⟩
theorem WH.add {a b : Option Nat} {z y : Int} (ha : WH a z) (hb : WH b y) (h1 : -P53 < z + y) (h2 : z + y < P53) : WH (bin .add a b) (z + y) := by
  obtain ⟨p, rfl, fp, vp⟩ := ha
  obtain ⟨q, rfl, fq, vq⟩ := hb
  obtain ⟨r, hr⟩ := bin_some_add fp fq
  obtain ⟨b1, b2, b3⟩ := big53 h1 h2
  obtain ⟨f0, v0⟩ := whole_val h1 h2
  have e : val p + val q = ((z + y : Int) : Rat) := by rw [vp, vq, Rat.intCast_add]
  obtain ⟨fr, _⟩ := add_near fp fq hr (B := pw 53) (by rw [e]; exact b1) (by rw [e]; exact b2) b3
  have m := add_mono fp fq hr (by rw [e]; exact Rat.le_trans b1 b3) (by rw [e]; grind) (z := floatOfInt .f64 (z + y))
  rw [v0, e] at m
  exact ⟨r, hr, fr, Rat.le_antisymm (m.1 (Rat.le_refl)) (m.2 (Rat.le_refl))⟩
theorem WH.sub {a b : Option Nat} {z y : Int} (ha : WH a z) (hb : WH b y) (h1 : -P53 < z - y) (h2 : z - y < P53) : WH (bin .sub a b) (z - y) := by
  obtain ⟨p, rfl, fp, vp⟩ := ha
  obtain ⟨q, rfl, fq, vq⟩ := hb
  obtain ⟨r, hr⟩ := bin_some_sub fp fq
  obtain ⟨b1, b2, b3⟩ := big53 h1 h2
  obtain ⟨f0, v0⟩ := whole_val h1 h2
  have e : val p - val q = ((z - y : Int) : Rat) := by rw [vp, vq, Rat.intCast_sub]
  obtain ⟨fr, _⟩ := sub_near fp fq hr (B := pw 53) (by rw [e]; exact b1) (by rw [e]; exact b2) b3
  have m := sub_mono fp fq hr (by rw [e]; exact Rat.le_trans b1 b3) (by rw [e]; grind) (z := floatOfInt .f64 (z - y))
  rw [v0, e] at m
  exact ⟨r, hr, fr, Rat.le_antisymm (m.1 (Rat.le_refl)) (m.2 (Rat.le_refl))⟩
theorem WH.neg {a : Option Nat} {z : Int} (ha : WH a z) : WH (a.map Go.Fl.neg) (-z) := by
  obtain ⟨p, rfl, fp, vp⟩ := ha
  exact ⟨_, rfl, fin_neg fp, by rw [vneg, vp, Rat.intCast_neg]⟩
theorem WH.abs {a : Option Nat} {z : Int} (ha : WH a z) : WH (a.map Go.Fl.abs) z.natAbs := by
  obtain ⟨p, rfl, fp, vp⟩ := ha
  refine ⟨_, rfl, fin_abs fp, ?_⟩
  rw [vabs, vp]
  unfold absR
  by_cases hz : z < 0
  · have h0 : (z : Rat) < ((0 : Int) : Rat) := Rat.intCast_lt_intCast.2 hz
    rw [if_pos (by simpa using h0), ← Rat.intCast_neg]; congr 1; omega
  · have h0 : ((0 : Int) : Rat) ≤ (z : Rat) := Rat.intCast_le_intCast.2 (by omega)
    rw [if_neg (by intro h; have : (z : Rat) < ((0 : Int) : Rat) := by simpa using h
                   exact absurd (Rat.intCast_lt_intCast.1 this) hz)]; congr 1; omega
theorem WH.eq {a b : Option Nat} {z y : Int} (ha : WH a z) (hb : WH b y) : eqF a b = decide (z = y) := by
  obtain ⟨p, rfl, fp, vp⟩ := ha
  obtain ⟨q, rfl, fq, vq⟩ := hb
  rw [← Fnt.ab fp, ← Fnt.ab fq, eqF_val fp fq, vp, vq]
  simp [Rat.intCast_inj]
theorem WH.gt {a b : Option Nat} {z y : Int} (ha : WH a z) (hb : WH b y) : gtF a b = decide (y < z) := by
  obtain ⟨p, rfl, fp, vp⟩ := ha
  obtain ⟨q, rfl, fq, vq⟩ := hb
  rw [← Fnt.ab fp, ← Fnt.ab fq, gtF_val fp fq, vp, vq]
  simp [Rat.intCast_lt_intCast]
theorem WH.lt {a b : Option Nat} {z y : Int} (ha : WH a z) (hb : WH b y) : ltF a b = decide (z < y) := by
  obtain ⟨p, rfl, fp, vp⟩ := ha
  obtain ⟨q, rfl, fq, vq⟩ := hb
  rw [← Fnt.ab fp, ← Fnt.ab fq, ltF_val fp fq, vp, vq]
  simp [Rat.intCast_lt_intCast]
theorem WH.cast {a : Option Nat} {z y : Int} (ha : WH a z) (h : z = y) : WH a y := h ▸ ha
theorem WH.zero : WH (ab 0) 0 := ⟨0, rfl, by unfold Fnt; decide, by decide +kernel⟩
theorem WH.one : WH (ab 4607182418800017408) 1 := ⟨_, rfl, by unfold Fnt; decide, by decide +kernel⟩
theorem WH.mone : WH (ab 13830554455654793216) (-1) := ⟨_, rfl, by unfold Fnt; decide, by decide +kernel⟩
theorem fin_parts {x : Nat} (h : Fnt x) : eqF (ab x) (ab x) = !false ∧ gtF ((ab x).map Go.Fl.abs) (ab 9218868437227405311) = false := by
  have := fin_of h
  unfold fin at this
  rw [Bool.and_eq_true, Bool.not_eq_true'] at this
  exact this
theorem read0 : double.read 0 = .number false 0 (-1074) := by decide +kernel
theorem quo_zero {y : Nat} (hy : Fnt y) (h0 : 0 < val y) : bin .quo (some 0) (some y) = some 0 := by
  obtain ⟨t, n, j, ey⟩ := fin_read hy
  have vy := val_read ey
  have hpj := pw_pos j
  have hn0 : 0 ≤ (n : Rat) * pw j := Rat.mul_nonneg Rat.natCast_nonneg (Rat.le_of_lt hpj)
  have ht : t = false := by
    cases t
    · rfl
    · rw [dv_true] at vy; grind
  subst ht
  rw [dv_false] at vy
  have hn : 0 < n := by
    rcases Nat.eq_zero_or_pos n with h0 | h0
    · subst h0; simp at vy; grind
    · exact h0
  show double.div 0 y = _
  unfold Format.div
  rw [read0, ey]
  simp only [Datum.quotient, if_neg (show ¬ n = 0 by omega), Option.map_some, Option.some.injEq]
  simp [shl]
  rfl
theorem abs_zero {x : Nat} (hv : val x = 0) : Go.Fl.abs x = 0 := by
  have hp := pw_pos (-1074)
  refine mag_zero _ ?_
  rcases Nat.eq_zero_or_pos (mag (x % 2 ^ 63)) with h0 | h0
  · exact h0
  · have h1 := Rat.mul_pos (Rat.natCast_pos.2 h0) hp
    rcases val_cases x with e | e <;> rw [e] at hv <;> grind
end Go.Proofs.Ytijfmaepoamkgab
