/- A middle lies between the least and the greatest, but for 2^-22. No program. -/
import Derived.Test.YtephkmahnbhmbaaYa
import Derived.Test.YtephkmahnbhmbaaNa
namespace Go.Proofs.Ytephkmahnbhmbaa
open Go.Fl Go.Sort Ieee

theorem sums_ok {P : Nat → Nat} {ev : Nat → Int} {lo hi : Int} {N : Nat} (h1 : 1 ≤ N) (hN : N ≤ 500) (hP : ∀ i, i < N → Fnt (P i) ∧ 0 ≤ val (P i) ∧ val (P i) ≤ pw 900) (he : ∀ i, i < N → lo ≤ ev i ∧ ev i ≤ hi) (l0 : lo ≤ 0) (h0 : 0 ≤ hi) (lb : -65536 ≤ lo) (hb : hi ≤ 65536) :
    ∃ S E, SB P (fun i => bin .mul (ab (P i)) (flI (ev i))) lo hi N S E := by
  induction N with
  | zero => omega
  | succ k ih =>
    obtain ⟨f, p0, pb⟩ := hP k (by omega)
    obtain ⟨e1, e2⟩ := he k (by omega)
    obtain ⟨q, hq, fq, q1, q2⟩ := part_near f p0 pb e1 e2 l0 h0 lb hb
    rcases Nat.eq_zero_or_pos k with k0 | k0
    · subst k0
      obtain ⟨r1, _⟩ := rk_ge 1 (by omega)
      have c3 : (lo : Rat) ≤ 0 := Rat.intCast_le_intCast.2 l0
      have c4 : (0 : Rat) ≤ (hi : Rat) := Rat.intCast_le_intCast.2 h0
      have m1 : (hi : Rat) * (1 + uu) * val (P 0) ≤ (hi : Rat) * rk 1 * val (P 0) := Rat.mul_le_mul_of_nonneg_right (Rat.mul_le_mul_of_nonneg_left r1 c4) p0
      have m2 : -(lo : Rat) * (1 + uu) * val (P 0) ≤ -(lo : Rat) * rk 1 * val (P 0) := Rat.mul_le_mul_of_nonneg_right (Rat.mul_le_mul_of_nonneg_left r1 (by grind)) p0
      have hpos := pw_pos 900
      refine ⟨P 0, q, ⟨Fnt.ab f, hq, f, fq, p0, ?_, Rat.le_trans q1 m1, by show (lo : Rat) * rk 1 * val (P 0) ≤ val q; grind, fun i hi => by
        have e9 : i = 0 := by omega
        subst e9
        exact Rat.le_refl⟩⟩
      show val (P 0) ≤ 2 * ((1 : Nat) : Rat) * pw 900
      have e1 : ((1 : Nat) : Rat) = 1 := rfl
      rw [e1]
      grind
    · obtain ⟨S, E, hSB⟩ := ih k0 (by omega) (fun i hi => hP i (by omega)) (fun i hi => he i (by omega))
      exact hSB.next k0 (by omega) l0 h0 lb hb f p0 pb hq fq q1 q2
def ep : Rat := pw (-22)
theorem ep_is : ep = 1 / 4194304 := by decide +kernel
theorem rk_far {k : Nat} (h : k ≤ 500) : 65536 * (rk k - 1) ≤ ep := by
  unfold rk
  rw [uu_is, ep_is]
  have h1 : (k : Rat) ≤ 500 := Rat.natCast_le_natCast.2 h
  grind
theorem SB.far {P : Nat → Nat} {F : Nat → Option Nat} {lo hi : Int} {k S E : Nat} (h : SB P F lo hi k S E) (h1 : 1 ≤ k) (hk : k ≤ 500) (l0 : lo ≤ 0) (h0 : 0 ≤ hi) (lb : -65536 ≤ lo) (hb : hi ≤ 65536) : val E ≤ ((hi : Rat) + ep) * val S ∧ ((lo : Rat) - ep) * val S ≤ val E := by
  have c3 : (lo : Rat) ≤ 0 := Rat.intCast_le_intCast.2 l0
  have c4 : (0 : Rat) ≤ (hi : Rat) := Rat.intCast_le_intCast.2 h0
  have c5 : (-65536 : Rat) ≤ (lo : Rat) := Rat.intCast_le_intCast.2 lb
  have c6 : (hi : Rat) ≤ 65536 := Rat.intCast_le_intCast.2 hb
  obtain ⟨r1, _⟩ := rk_ge k h1
  have u0 := uu0
  have rf := rk_far hk
  have rn : 0 ≤ rk k - 1 := by grind
  have a1 : (hi : Rat) * (rk k - 1) ≤ 65536 * (rk k - 1) := Rat.mul_le_mul_of_nonneg_right c6 rn
  have a2 : -(lo : Rat) * (rk k - 1) ≤ 65536 * (rk k - 1) := Rat.mul_le_mul_of_nonneg_right (by grind) rn
  have b1 : (hi : Rat) * rk k ≤ (hi : Rat) + ep := by grind
  have b2 : -(lo : Rat) * rk k ≤ -(lo : Rat) + ep := by grind
  have d1 := Rat.mul_le_mul_of_nonneg_right b1 h.s0
  have d2 := Rat.mul_le_mul_of_nonneg_right b2 h.s0
  have hu := h.up
  have hd := h.dn
  constructor <;> grind
/-- A whole number of 2^-22 as a float. -/
theorem small_float {K : Int} (hK : K.natAbs < 2 ^ 53) : ∃ z, Fnt z ∧ val z = (K : Rat) * ep := by
  have hp := pw_pos (-22)
  have hb : (K.natAbs : Rat) * pw (-22) ≤ pw 1000 := by
    have h1 : (K.natAbs : Rat) ≤ ((2 ^ 53 : Nat) : Rat) := Rat.natCast_le_natCast.2 (by omega)
    have h2 := Rat.mul_le_mul_of_nonneg_right h1 (Rat.le_of_lt hp)
    rw [← pw_nat, ← pw_add] at h2
    exact Rat.le_trans h2 (pw_mono (by omega))
  obtain ⟨h1, h2⟩ := exact_write (decide (K < 0)) hK (show (-1074 : Int) ≤ -22 by omega) hb
  refine ⟨_, h1, ?_⟩
  have e : sgn (decide (K < 0)) K.natAbs = K := by
    unfold sgn
    split
    · rename_i h; simp at h; omega
    · rename_i h; simp at h; omega
  rw [h2]
  unfold dv ep
  rw [e]
end Go.Proofs.Ytephkmahnbhmbaa
/- The quotient of the two sums, and the middle. No program. -/
namespace Go.Proofs.Ytephkmahnbhmbaa
open Go.Fl Go.Sort Ieee

theorem quo_pos {x y : Nat} (hx : Fnt x) (hy : Fnt y) (h0 : 0 < val y) : ∃ r, bin .quo (some x) (some y) = some r := by
  obtain ⟨s1, m1, e1, r1⟩ := fin_read hx
  obtain ⟨s3, m3, e3, r3⟩ := fin_read hy
  obtain ⟨rfl, pm⟩ := pos_of r3 h0
  have h : ∃ d : Nat × Int, (Datum.number s1 m1 e1).quotient (double.fractionBits + 2) (.number false m3 e3) = some (.number (s1 ^^ false) d.1 d.2) := by
    simp only [Datum.quotient, if_neg (show ¬ m3 = 0 by omega)]
    exact ⟨(_, _), rfl⟩
  obtain ⟨d, hd⟩ := h
  refine ⟨double.write (.number (s1 ^^ false) d.1 d.2), ?_⟩
  show double.div x y = _
  unfold Format.div
  rw [r1, r3, hd]
  rfl
theorem quo_up {x y C : Nat} (hx : Fnt x) (hy : Fnt y) (x0 : 0 ≤ val x) (hy0 : 0 < val y) (hb : val x ≤ (C : Rat) * val y) (hC : C ≤ 1000000) :
    ∃ r, bin .quo (some x) (some y) = some r ∧ Fnt r ∧ ∀ z, (val x ≤ val z * val y → val r ≤ val z) ∧ (val z * val y ≤ val x → val z ≤ val r) := by
  obtain ⟨r, hr⟩ := quo_pos hx hy hy0
  have hne : val y ≠ 0 := by grind
  have hκ : val x / val y * val y = val x := Rat.div_mul_cancel hne
  have hκC : val x / val y ≤ (C : Rat) := le_of_mul hy0 (by rw [hκ]; exact hb)
  have hC2 : (C : Rat) ≤ pw 990 := by
    have h1 : (C : Rat) ≤ ((2 ^ 20 : Nat) : Rat) := Rat.natCast_le_natCast.2 (by omega)
    rw [← pw_nat] at h1
    exact Rat.le_trans h1 (pw_mono (by omega))
  refine ⟨r, hr, (quo_near hx hy x0 hy0 hr hκ hκC hC2).1, fun z => ?_⟩
  obtain ⟨m1, m2⟩ := quo_mono hx hy x0 hy0 hr hκ hκC hC2 (z := z)
  exact ⟨fun h => m1 (le_of_mul hy0 (by rw [hκ]; exact h)), fun h => m2 (le_of_mul hy0 (by rw [hκ]; exact h))⟩
theorem quo_side {x y C : Nat} (hx : Fnt x) (hy : Fnt y) (hy0 : 0 < val y) (hb : val x ≤ (C : Rat) * val y) (hb' : -(C : Rat) * val y ≤ val x) (hC : C ≤ 1000000) :
    ∃ r, bin .quo (some x) (some y) = some r ∧ Fnt r ∧ ∀ z, (val x ≤ val z * val y → val r ≤ val z) ∧ (val z * val y ≤ val x → val z ≤ val r) := by
  rcases rat_lt_or_le (val x) 0 with k | k
  · have v2 := vneg x
    obtain ⟨r2, h2, f2, m2⟩ := quo_up (fin_neg hx) hy (by rw [v2]; grind) hy0 (by rw [v2]; grind) hC
    have hr : bin .quo (some x) (some y) = some (Go.Fl.neg r2) := by
      have := quo_neg_l (o := some (Go.Fl.neg x)) (p := some y) (fun u hu => by
        have e : Go.Fl.neg x = u := Option.some.inj hu
        rw [← e]; exact (fin_neg hx).num)
      rw [h2] at this
      simp only [Option.map_some, neg_neg'] at this
      exact this
    refine ⟨Go.Fl.neg r2, hr, fin_neg f2, fun z => ?_⟩
    obtain ⟨a1, a2⟩ := m2 (Go.Fl.neg z)
    rw [vneg z, v2] at a1 a2
    rw [vneg r2]
    refine ⟨fun h => ?_, fun h => ?_⟩
    · have := a2 (by grind)
      grind
    · have := a1 (by grind)
      grind
  · exact quo_up hx hy k hy0 hb hC
theorem ep1 : ep ≤ 1 := by rw [ep_is]; decide +kernel
theorem ep0 : 0 ≤ ep := Rat.le_of_lt (pw_pos _)
theorem ep_unit (K : Int) : ((K * 4194304 + 1 : Int) : Rat) * ep = (K : Rat) + ep := by
  rw [Rat.intCast_add, Rat.intCast_mul, ep_is]
  have e1 : ((4194304 : Int) : Rat) = 4194304 := rfl
  have e2 : ((1 : Int) : Rat) = 1 := rfl
  rw [e1, e2]
  grind
theorem ep_unit' (K : Int) : ((K * 4194304 - 1 : Int) : Rat) * ep = (K : Rat) - ep := by
  rw [Rat.intCast_sub, Rat.intCast_mul, ep_is]
  have e1 : ((4194304 : Int) : Rat) = 4194304 := rfl
  have e2 : ((1 : Int) : Rat) = 1 := rfl
  rw [e1, e2]
  grind
/-- THE MIDDLE: what stands at t, and the quotient of the sums, together. -/
theorem mid_ok {P : Nat → Nat} {ev : Nat → Int} {lo hi t : Int} {N : Nat} (h1 : 1 ≤ N) (hN : N ≤ 500) (hP : ∀ i, i < N → Fnt (P i) ∧ 0 ≤ val (P i) ∧ val (P i) ≤ pw 900) (hs : ∃ i, i < N ∧ 0 < val (P i)) (he : ∀ i, i < N → lo ≤ ev i ∧ ev i ≤ hi) (l0 : lo ≤ 0) (h0 : 0 ≤ hi) (lb : -65536 ≤ lo) (hb : hi ≤ 65536) (t0 : -65536 ≤ t) (t1 : t ≤ 65536) :
    ∃ S E Q X, SB P (fun i => bin .mul (ab (P i)) (flI (ev i))) lo hi N S E ∧ 0 < val S ∧ bin .quo (some E) (some S) = some Q ∧ bin .add (flI t) (some Q) = some X ∧ Fnt X ∧ val X ≤ ((t + hi : Int) : Rat) + ep ∧ ((t + lo : Int) : Rat) - ep ≤ val X := by
  obtain ⟨S, E, hSB⟩ := sums_ok h1 hN hP he l0 h0 lb hb
  obtain ⟨i, hi1, hi2⟩ := hs
  have S0 : 0 < val S := by have := hSB.ge i hi1; grind
  obtain ⟨f1, f2⟩ := hSB.far h1 hN l0 h0 lb hb
  have c3 : (lo : Rat) ≤ 0 := Rat.intCast_le_intCast.2 l0
  have c4 : (0 : Rat) ≤ (hi : Rat) := Rat.intCast_le_intCast.2 h0
  have c5 : (-65536 : Rat) ≤ (lo : Rat) := Rat.intCast_le_intCast.2 lb
  have c6 : (hi : Rat) ≤ 65536 := Rat.intCast_le_intCast.2 hb
  have c7 : (-65536 : Rat) ≤ (t : Rat) := Rat.intCast_le_intCast.2 t0
  have c8 : (t : Rat) ≤ 65536 := Rat.intCast_le_intCast.2 t1
  have e0 := ep0
  have e1 := ep1
  have n65 : ((65537 : Nat) : Rat) = 65537 := rfl
  have g1 : ((hi : Rat) + ep) * val S ≤ ((65537 : Nat) : Rat) * val S := Rat.mul_le_mul_of_nonneg_right (by rw [n65]; grind) (Rat.le_of_lt S0)
  have g2 : -((lo : Rat) - ep) * val S ≤ ((65537 : Nat) : Rat) * val S := Rat.mul_le_mul_of_nonneg_right (by rw [n65]; grind) (Rat.le_of_lt S0)
  obtain ⟨Q, hQ, fQ, mQ⟩ := quo_side hSB.fe hSB.fs S0 (C := 65537) (by grind) (by grind) (by omega)
  obtain ⟨z1, fz1, vz1⟩ := small_float (K := hi * 4194304 + 1) (by omega)
  obtain ⟨z2, fz2, vz2⟩ := small_float (K := lo * 4194304 - 1) (by omega)
  obtain ⟨z3, fz3, vz3⟩ := small_float (K := (t + hi) * 4194304 + 1) (by omega)
  obtain ⟨z4, fz4, vz4⟩ := small_float (K := (t + lo) * 4194304 - 1) (by omega)
  rw [ep_unit] at vz1 vz3
  rw [ep_unit'] at vz2 vz4
  have q1 : val Q ≤ (hi : Rat) + ep := by rw [← vz1]; exact (mQ z1).1 (by rw [vz1]; exact f1)
  have q2 : (lo : Rat) - ep ≤ val Q := by rw [← vz2]; exact (mQ z2).2 (by rw [vz2]; exact f2)
  obtain ⟨ft, vt⟩ := int_valZ (K := t) (by omega)
  obtain ⟨X, hX⟩ := bin_some_add ft fQ
  have hbig : (200000 : Rat) ≤ pw 1000 := by
    have h9 : (200000 : Rat) ≤ ((2 ^ 18 : Nat) : Rat) := by decide +kernel
    rw [← pw_nat] at h9
    exact Rat.le_trans h9 (pw_mono (by omega))
  have b1 : val (floatOfInt .f64 t) + val Q ≤ 200000 := by rw [vt]; grind
  have b2 : -200000 ≤ val (floatOfInt .f64 t) + val Q := by rw [vt]; grind
  obtain ⟨fX, _⟩ := add_near ft fQ hX b1 b2 hbig
  have et : ((t + hi : Int) : Rat) = (t : Rat) + (hi : Rat) := Rat.intCast_add _ _
  have el : ((t + lo : Int) : Rat) = (t : Rat) + (lo : Rat) := Rat.intCast_add _ _
  refine ⟨S, E, Q, X, hSB, S0, hQ, ?_, fX, ?_, ?_⟩
  · show bin .add (ab (floatOfInt .f64 t)) (some Q) = some X
    rw [Fnt.ab ft]; exact hX
  · rw [← vz3]
    exact (add_mono ft fQ hX (Rat.le_trans b1 hbig) (by grind) (z := z3)).1 (by rw [vz3, vt, et]; grind)
  · rw [← vz4]
    exact (add_mono ft fQ hX (Rat.le_trans b1 hbig) (by grind) (z := z4)).2 (by rw [vz4, vt, el]; grind)
end Go.Proofs.Ytephkmahnbhmbaa
