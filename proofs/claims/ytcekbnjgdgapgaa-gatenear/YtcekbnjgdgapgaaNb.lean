/- Bin of Speed of a whole number. -/
import Derived.Test.YtcekbnjgdgapgaaNa
import Derived.Test.YtcekbnjgdgapgaaBb
namespace Go.Proofs.Ytcekbnjgdgapgaa
open Go.Fl Ieee Go.RowKit

theorem scale_bd {S y V : Rat} (h : S * y = V) (y1 : pw (-40) ≤ y) (y2 : y ≤ pw 40) (v1 : pw (-60) ≤ V) (v2 : V ≤ pw 60) : Sc S := by
  have hy : 0 < y := by have := pw_pos (-40); grind
  constructor
  · refine le_of_mul hy ?_
    rw [h]
    have a := Rat.mul_le_mul_of_nonneg_left y2 (Rat.le_of_lt (pw_pos (-100)))
    rw [← pw_add] at a
    exact Rat.le_trans a v1
  · refine le_of_mul hy ?_
    rw [h]
    have a := Rat.mul_le_mul_of_nonneg_left y1 (Rat.le_of_lt (pw_pos 100))
    rw [← pw_add] at a
    exact Rat.le_trans v2 a
/-- A number of turns within half a turn is what Wrap leaves it. -/
theorem wrap_small {x : Nat} (hx : Fnt x) (h1 : val x < 1 / 2) (h2 : -(1 / 2) < val x) : ∃ u, wrapF (some x) = some u ∧ Fnt u ∧ val u = val x := by
  have hf := fin_of hx
  rw [Fnt.ab hx] at hf
  have hw : ∃ t, wholeF (some x) = some t ∧ Fnt t ∧ val t = 0 := by
    unfold wholeF
    have h0 := ltF_val hx zero_fnt
    rw [Fnt.ab hx, val0] at h0
    rw [h0]
    by_cases hn : val x < 0
    · rw [if_pos (by simp [hn])]
      have hv := vneg x
      obtain ⟨K, f1, f2, f3, f4⟩ := floor_whole (fin_neg hx) (by grind) (by grind)
      have hK : K = 0 := by
        rcases Nat.eq_zero_or_pos K with h | h
        · exact h
        · have := Rat.natCast_le_natCast.2 (show 1 ≤ K by omega)
          have e : ((1 : Nat) : Rat) = 1 := rfl
          grind
      subst hK
      refine ⟨Go.Fl.neg (floor (Go.Fl.neg x)), rfl, fin_neg f1, ?_⟩
      rw [vneg, f2]; rfl
    · rw [if_neg (by simp [hn])]
      obtain ⟨K, f1, f2, f3, f4⟩ := floor_whole hx (by grind) (by grind)
      have hK : K = 0 := by
        rcases Nat.eq_zero_or_pos K with h | h
        · exact h
        · have := Rat.natCast_le_natCast.2 (show 1 ≤ K by omega)
          have e : ((1 : Nat) : Rat) = 1 := rfl
          grind
      subst hK
      exact ⟨floor x, rfl, f1, f2⟩
  obtain ⟨t, ht, ft, vt⟩ := hw
  obtain ⟨r, hr⟩ := bin_some_sub hx ft
  have hp : (1 : Rat) ≤ pw 1000 := Rat.le_trans (show (1 : Rat) ≤ pw 1 by decide +kernel) (pw_mono (by omega))
  have mo := sub_mono hx ft hr (by rw [vt]; grind) (by rw [vt]; grind) (z := x)
  have fr := (sub_near hx ft hr (B := 1) (by rw [vt]; grind) (by rw [vt]; grind) hp).1
  rw [vt] at mo
  have a := mo.1 (by grind)
  have b := mo.2 (by grind)
  have vr : val r = val x := by grind
  have fm : Fnt 13826050856027422720 ∧ val 13826050856027422720 = -(1 / 2) := ⟨by unfold Fnt; decide, by decide +kernel⟩
  unfold wrapF
  rw [if_pos hf, ht, hr]
  have g1 := gtF_val fr fhalf.1
  have g2 := eqF_val fr fhalf.1
  have g3 := ltF_val fr fm.1
  rw [Fnt.ab fr, fhalf.2, vr] at g1 g2
  rw [Fnt.ab fr, fm.2, vr] at g3
  simp only [g1, g2, g3]
  have q1 : ¬ (1 / 2 : Rat) < val x := by grind
  have q2 : ¬ val x = 1 / 2 := by grind
  have q3 : ¬ val x < -(1 / 2) := by grind
  rw [if_neg (by simp [q1, q2]), if_neg (by simp [q3])]
  exact ⟨r, rfl, fr, vr⟩
/-- A beat's float, from 1e-3 to 1e9. -/
structure Md (x : Nat) : Prop where
  f : Fnt x
  lo : (1 : Rat) / 1001 ≤ val x
  hi : val x ≤ 1000000000
theorem Md.pos {x : Nat} (h : Md x) : 0 < val x := by have := h.lo; grind
theorem pm40 : pw (-40) ≤ 1 / 1000000000000 := by decide +kernel
theorem p40 : (1000000000000 : Rat) ≤ pw 40 := by decide +kernel
theorem pm60 : pw (-60) ≤ 1 / 1000000000000 := by decide +kernel
theorem p60 : (1000000000000 : Rat) ≤ pw 60 := by decide +kernel
theorem sec_md {E : Int} {r : Nat} (h1 : 1 ≤ E) (h2 : E ≤ 16384) (hr : Md r) : ∃ sc, secF E (ab r) = some sc ∧ Fnt sc ∧ (1 : Rat) / 10000000000 ≤ val sc ∧ val sc ≤ 100000000 := by
  obtain ⟨fE, vE⟩ := whole_val (z := E) (by unfold P53; omega) (by unfold P53; omega)
  have e1 : (1 : Rat) ≤ (E : Rat) := by have := Rat.intCast_le_intCast.2 h1; exact this
  have e2 : (E : Rat) ≤ 16384 := by have := Rat.intCast_le_intCast.2 h2; exact this
  have hp := hr.pos
  obtain ⟨sc, hs⟩ := quo_some_pos fE.num hr.f hp
  obtain ⟨κ, hκ⟩ : ∃ κ : Rat, κ * val r = val (floatOfInt .f64 E) := ⟨_ / val r, Rat.div_mul_cancel (by grind)⟩
  rw [vE] at hκ
  have k1 : (1 : Rat) / 1000000000 ≤ κ := le_of_mul hp (by rw [hκ]; have := hr.hi; grind)
  have k2 : κ ≤ 16400384 := le_of_mul hp (by rw [hκ]; have := hr.lo; grind)
  have hb : κ ≤ pw 990 := by
    have : pw 40 ≤ pw 990 := pw_mono (by omega)
    have := p40
    grind
  obtain ⟨f, ⟨n1, n2⟩, _⟩ := quo_near fE hr.f (by rw [vE]; grind) hp hs (κ := κ) (B := κ) (by rw [vE]; exact hκ) Rat.le_refl hb
  have ht : pw (-1075) ≤ 1 / 1000000000000 := Rat.le_trans (pw_mono (show (-1075 : Int) ≤ -40 by omega)) pm40
  rw [pw52] at n1 n2
  refine ⟨sc, by unfold secF; rw [Fnt.ab fE, Fnt.ab hr.f]; exact hs, f, by grind, by grind⟩
theorem rn_bound {x : Nat} {S T e : Rat} (h : RN x S T e) (hs : Sc S) (hT : T ≤ 1 / 2) (hT' : -(1 / 2) ≤ T) (he : e ≤ 1 / 8) : val x ≤ pw 900 ∧ -pw 900 ≤ val x := by
  obtain ⟨_, φ, v, h1, h2⟩ := h
  obtain ⟨m1, m2⟩ := rn_mag hs.pos hT hT' he h1 h2
  have a : S * (3 / 4) ≤ pw 900 := by
    have hp := hs.pos
    have : pw 100 ≤ pw 900 := pw_mono (by omega)
    have := hs.hi
    grind
  rw [v]
  constructor
  · exact Rat.le_trans m1 a
  · grind
theorem eb {e : Rat} (h : e ≤ 12 * u53) : e ≤ 1 / 8 := Rat.le_trans h (by decide +kernel)
theorem turn_of {K R : Int} (h1 : 1 ≤ R) (h2 : R ≤ 256) (h3 : 2 * K < R) (h4 : -R < 2 * K) : ∃ T : Rat, T * (R : Rat) = (K : Rat) ∧ T ≤ 1 / 2 - 1 / 512 ∧ -(1 / 2 - 1 / 512) ≤ T ∧ (1 : Rat) ≤ (R : Rat) ∧ (R : Rat) ≤ 256 := by
  have r1 : (1 : Rat) ≤ (R : Rat) := by have := Rat.intCast_le_intCast.2 h1; exact this
  have r2 : (R : Rat) ≤ 256 := by have := Rat.intCast_le_intCast.2 h2; exact this
  have k1 : 2 * (K : Rat) + 1 ≤ (R : Rat) := by
    have := Rat.intCast_le_intCast.2 (show 2 * K + 1 ≤ R by omega)
    rw [Rat.intCast_add, Rat.intCast_mul] at this
    exact this
  have k2 : -(R : Rat) + 1 ≤ 2 * (K : Rat) := by
    have := Rat.intCast_le_intCast.2 (show -R + 1 ≤ 2 * K by omega)
    rw [Rat.intCast_add, Rat.intCast_mul, Rat.intCast_neg] at this
    exact this
  have hp : (0 : Rat) < (R : Rat) := by grind
  obtain ⟨T, hT⟩ : ∃ T : Rat, T * (R : Rat) = (K : Rat) := ⟨(K : Rat) / (R : Rat), Rat.div_mul_cancel (by grind)⟩
  refine ⟨T, hT, le_of_mul hp (by rw [hT]; grind), le_of_mul hp (by rw [hT]; grind), r1, r2⟩
/-- Bin of Speed of k. -/
theorem near_chain {c v r : Nat} {E R K : Int} (hk : checkF (ab c) (ab v) (ab r) E R = 0) (hv : Md v) (hr : Md r) (h3 : 2 * K < R) (h4 : -R < 2 * K) :
    ∃ s p d, speedF (ab c) (ab v) (ab r) E R (ab (floatOfInt .f64 K)) = (some s, 0) ∧ ab s = some s ∧ binF (ab c) (ab v) (ab r) E R (ab s) = (some p, 0) ∧ ab p = some p ∧ bin .sub (ab p) (ab (floatOfInt .f64 K)) = some d ∧ (ltF (ab (Go.Fl.abs d)) (ab 4472406533629990549) || eqF (ab (Go.Fl.abs d)) (ab 4472406533629990549)) = true := by
  have hK := check0 hk
  obtain ⟨T, hT, t1, t2, r1, r2⟩ := turn_of hK.r1 hK.r2 h3 h4
  have tb1 : T ≤ 1 / 2 := by grind
  have tb2 : -(1 / 2) ≤ T := by grind
  have uu : (0 : Rat) ≤ u53 := by decide +kernel
  obtain ⟨fK, vK⟩ := whole_val (z := K) (by have := hK.r2; unfold P53; omega) (by have := hK.r2; unfold P53; omega)
  obtain ⟨fR, vR, pR⟩ := rows_val hK.r1 hK.r2
  obtain ⟨sc, s1, s2, s3, s4⟩ := sec_md hK.e1 hK.e2 hr
  have psc : 0 < val sc := by grind
  have pv := hv.pos
  have n40 := pm40
  have g40 := p40
  have n60 := pm60
  have g60 := p60
  have vlo := hv.lo
  have vhi := hv.hi
  -- the scales
  have ZV : Sc (val v) := scale_bd (S := val v) (y := 1) (V := val v) (by grind) (by grind) (by grind) (by grind) (by grind)
  have Z1 : Sc 1 := scale_bd (S := 1) (y := 1) (V := 1) (by grind) (by grind) (by grind) (by grind) (by grind)
  obtain ⟨tw, w1, w2, w3⟩ := twice_exact s2 (by
    have : pw 40 ≤ pw 900 := pw_mono (by omega)
    grind) (by have := pw_pos 900; grind)
  have ptw : 0 < val tw := by rw [w3]; grind
  obtain ⟨Sx, hSx⟩ : ∃ S : Rat, S * val tw = val v := ⟨val v / val tw, Rat.div_mul_cancel (by grind)⟩
  have ZX : Sc Sx := scale_bd hSx (by rw [w3]; grind) (by rw [w3]; grind) (by grind) (by grind)
  obtain ⟨Sd, hSd⟩ : ∃ S : Rat, S * val sc = 1 := ⟨1 / val sc, Rat.div_mul_cancel (by grind)⟩
  have ZD : Sc Sd := scale_bd hSd (by grind) (by grind) (by grind) (by grind)
  have hSd2 : Sd * val v = 2 * Sx := by
    rw [← hSx, w3]
    have : Sd * (Sx * (2 * val sc)) = (Sd * val sc) * (2 * Sx) := by grind
    rw [this, hSd]; grind
  -- the steps
  have R0 : RN (floatOfInt .f64 K) (R : Rat) T 0 := ⟨fK, T, by rw [vK, ← hT, Rat.mul_comm], by grind, by grind⟩
  obtain ⟨f, hf⟩ := quo_some_pos fK.num fR pR
  have R1 := R0.quo fR pR hf (S' := 1) (by rw [vR]; grind) Z1 tb1 tb2 (eb (by grind))
  obtain ⟨wv, hw⟩ := bin_some_mul R1.1 hv.f
  have R2 := R1.mul hv.f hw (S' := val v) (by grind) ZV tb1 tb2 (eb (by grind))
  obtain ⟨x, hx⟩ := quo_some_pos R2.1.num w2 ptw
  have R3 := R2.quo w2 ptw hx hSx ZX tb1 tb2 (eb (by grind))
  have R4 := R3.neg
  have b4 := rn_bound R4 ZX (by grind) (by grind) (eb (by grind))
  obtain ⟨y, y1, y2, y3⟩ := twice_exact R4.1 b4.1 b4.2
  have R5 : RN y (2 * Sx) (-T) (0 + 2 * u53 + 2 * u53 + 2 * u53) := by
    obtain ⟨_, φ, a1, a2, a3⟩ := R4
    exact ⟨y2, φ, by rw [y3, a1]; grind, a2, a3⟩
  obtain ⟨d, hd⟩ := quo_some_pos R5.1.num hv.f pv
  have R6 := R5.quo hv.f pv hd hSd2 ZD (by grind) (by grind) (eb (by grind))
  obtain ⟨t, ht⟩ := bin_some_mul R6.1 s2
  have R7 := R6.mul s2 ht hSd Z1 (by grind) (by grind) (eb (by grind))
  have R8 := R7.neg
  have hu1 : 12 * u53 ≤ 1 / 1000 := by decide +kernel
  have vt : val (Go.Fl.neg t) < 1 / 2 ∧ -(1 / 2) < val (Go.Fl.neg t) := by
    obtain ⟨_, φ, a1, a2, a3⟩ := R8
    rw [a1]
    constructor <;> grind
  obtain ⟨u, u1, u2, u3⟩ := wrap_small R8.1 vt.1 vt.2
  have R9 : RN u 1 (- -T) (0 + 2 * u53 + 2 * u53 + 2 * u53 + 2 * u53 + 2 * u53) := by
    obtain ⟨_, φ, a1, a2, a3⟩ := R8
    exact ⟨u2, φ, by rw [u3, a1], a2, a3⟩
  have ZR : Sc (R : Rat) := scale_bd (S := (R : Rat)) (y := 1) (V := (R : Rat)) (by grind) (by grind) (by grind) (by grind) (by grind)
  obtain ⟨p, hp⟩ := bin_some_mul R9.1 fR
  have R10 := R9.mul fR hp (S' := (R : Rat)) (by rw [vR]; grind) ZR (by grind) (by grind) (eb (by grind))
  have dp : val p ≤ (K : Rat) + 1 / 100000000000 ∧ (K : Rat) ≤ val p + 1 / 100000000000 := by
    obtain ⟨_, φ, a1, a2, a3⟩ := R10
    have hu2 : 256 * (12 * u53) ≤ 1 / 100000000000 := by decide +kernel
    have m1 := Rat.mul_le_mul_of_nonneg_left (show φ ≤ T + 12 * u53 by grind) (show (0 : Rat) ≤ (R : Rat) by grind)
    have m2 := Rat.mul_le_mul_of_nonneg_left (show T ≤ φ + 12 * u53 by grind) (show (0 : Rat) ≤ (R : Rat) by grind)
    have m3 := Rat.mul_le_mul_of_nonneg_right r2 (show (0 : Rat) ≤ 12 * u53 by grind)
    rw [Rat.mul_add, Rat.mul_comm _ T, hT] at m1
    rw [Rat.mul_add, Rat.mul_comm _ T, hT] at m2
    rw [a1]
    constructor <;> grind
  obtain ⟨D, hD⟩ := bin_some_sub R10.1 fK
  have h1k : (1 : Rat) ≤ pw 1000 := Rat.le_trans (show (1 : Rat) ≤ pw 1 by decide +kernel) (pw_mono (by omega))
  obtain ⟨fD, n1, n2⟩ := sub_near R10.1 fK hD (B := 1 / 100000000000) (by rw [vK]; grind) (by rw [vK]; grind) (by grind)
  have hη : pw (-1075) ≤ 1 / 100000000000 := Rat.le_trans (pw_mono (show (-1075 : Int) ≤ -40 by omega)) (Rat.le_trans pm40 (by decide +kernel))
  rw [pw53] at n1 n2
  rw [vK] at n1 n2
  refine ⟨Go.Fl.neg x, p, D, ?_, Fnt.ab R4.1, ?_, Fnt.ab R10.1, by rw [Fnt.ab R10.1, Fnt.ab fK]; exact hD, ?_⟩
  · have hsp : spF (ab v) (ab r) E R (ab (floatOfInt .f64 K)) = some x := by
      unfold spF twoF
      rw [s1, w1, Fnt.ab fK, Fnt.ab fR, hf, Fnt.ab hv.f, hw]; exact hx
    unfold speedF
    rw [if_neg (by simp [hk]), if_neg (by rw [fin_of fK]; simp), hsp]
    unfold negOr
    have := fin_of R3.1
    rw [Fnt.ab R3.1] at this
    rw [if_pos this]; rfl
  · have htn : turnsF (ab v) (ab r) E (ab (Go.Fl.neg x)) = some t := by
      unfold turnsF
      rw [s1, Fnt.ab R4.1, y1, Fnt.ab hv.f, hd]; exact ht
    have ft := fin_of R7.1
    rw [Fnt.ab R7.1] at ft
    unfold binF
    rw [if_neg (by simp [hk]), if_neg (by rw [fin_of R4.1]; simp), htn, if_neg (by simp [ft])]
    simp only [Option.map_some]
    rw [u1, Fnt.ab fR, hp]
  · have fl : Fnt 4472406533629990549 ∧ (1 : Rat) / 1000000001 ≤ val 4472406533629990549 := ⟨by unfold Fnt; decide, by decide +kernel⟩
    have ga := ltF_val (fin_abs fD) fl.1
    have gb := eqF_val (fin_abs fD) fl.1
    rw [ga, gb, vabs]
    have : absR (val D) < val 4472406533629990549 := by
      have := fl.2
      unfold absR
      split <;> grind
    simp [this]
end Go.Proofs.Ytcekbnjgdgapgaa
