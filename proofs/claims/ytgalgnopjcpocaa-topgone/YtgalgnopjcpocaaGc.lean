/- TopMoved, as numbers: where the echo stands, what its turn is, what the samples are. -/
import Derived.Test.YtgalgnopjcpocaaGb
import Derived.Test.YtgalgnopjcpocaaCf
import Derived.Test.YtgalgnopjcpocaaWc
namespace Go.Proofs.Ytgalgnopjcpocaa
open Go.ChangeShapes Go.WideShapes Go.ChangeAt Go.RowKit Go.Fl Ieee

/-- The middle of a cell. -/
def midN (c : Nat) : Nat := (bin .add (ab (floatOfInt .f64 (c : Int))) (ab 4602678819172646912)).getD 0
def midAll (c : Nat) : Bool :=
  bin .add (ab (floatOfInt .f64 (c : Int))) (ab 4602678819172646912) == some (midN c) && ab (midN c) == some (midN c)
  && bin .add (some (midN c)) (some 0) == some (midN c) && bin .add (some (midN c)) (some 9223372036854775808) == some (midN c)
  && dF (some (midN c)) (ab 4607182418800017408) == some (floatOfInt .f64 (c : Int)) && heardF (some (midN c)) (some (floatOfInt .f64 (c : Int))) && intD (some (floatOfInt .f64 (c : Int))) == c
  && bin .quo (bin .mul (ab 4611686018427387904) (some (midN c))) (ab 4602678819172646912) == some (floatOfInt .f64 ((4 * c + 2 : Nat) : Int))
  && wrapF (phaseF (some 4607182418800017408) (some (midN c)) (ab 4602678819172646912)) == some 0 && fin (some (midN c))
theorem mid_all : ∀ c, c < 160 → midAll c = true := by decide +kernel
theorem nat_sub {a b : Nat} (h : b ≤ a) : ((a - b : Nat) : Rat) = (a : Rat) - (b : Rat) := by
  obtain ⟨d, rfl⟩ : ∃ d, a = b + d := ⟨a - b, by omega⟩
  rw [Nat.add_sub_cancel_left, Rat.natCast_add]; grind
structure Mid (c : Nat) : Prop where
  is : bin .add (ab (floatOfInt .f64 (c : Int))) (ab 4602678819172646912) = some (midN c)
  num : ab (midN c) = some (midN c)
  add0 : bin .add (some (midN c)) (some 0) = some (midN c)
  add1 : bin .add (some (midN c)) (some 9223372036854775808) = some (midN c)
  d : dF (some (midN c)) (ab 4607182418800017408) = some (floatOfInt .f64 (c : Int))
  heard : heardF (some (midN c)) (some (floatOfInt .f64 (c : Int))) = true
  int : intD (some (floatOfInt .f64 (c : Int))) = c
  waves : bin .quo (bin .mul (ab 4611686018427387904) (some (midN c))) (ab 4602678819172646912) = some (floatOfInt .f64 ((4 * c + 2 : Nat) : Int))
  whole : wrapF (phaseF (some 4607182418800017408) (some (midN c)) (ab 4602678819172646912)) = some 0
  fin : fin (some (midN c)) = true
theorem mid_of {c : Nat} (h : c < 160) : Mid c := by
  have := mid_all c h
  simp only [midAll, Bool.and_eq_true, beq_iff_eq] at this
  obtain ⟨⟨⟨⟨⟨⟨⟨⟨⟨a, b⟩, c⟩, d⟩, e⟩, f⟩, g⟩, h⟩, i⟩, j⟩ := this
  exact ⟨a, b, c, d, e, f, g, h, i, j⟩
/-- Nought times a finite float: one of the two noughts. -/
theorem zero_times {x : Nat} (hx : Fnt x) : bin .mul (some 0) (some x) = some 0 ∨ bin .mul (some 0) (some x) = some 9223372036854775808 := by
  obtain ⟨s, m, i, ex⟩ := fin_read hx
  have e : bin .mul (some 0) (some x) = some (double.write (.number s 0 (-1074 + i))) := by
    show double.mul 0 x = _
    unfold Format.mul
    rw [read0, ex]
    simp [Datum.product]
  rw [e]
  cases s
  · left; show some (double.nearest _ _ _) = _
    unfold Format.nearest; rw [if_pos rfl]; rfl
  · right; show some (double.nearest _ _ _) = _
    unfold Format.nearest; rw [if_pos rfl]; rfl
/-- How far the thing is, in each row. -/
theorem row_r {c E R T q tm p : Nat} (hc : c < 160) (ht : Fnt tm) (hp : p * E ≤ 1000) : rowR ⟨4607182418800017408, 4602678819172646912, 4652007308841189376, E, R⟩ ⟨midN c, 0, 4607182418800017408, T, q⟩ tm p = some (midN c) := by
  have M := mid_of hc
  unfold rowR rF atF
  simp only []
  obtain ⟨x, hx, fx, x0, x2, _⟩ := unit_quo (r := p * E) (n := 1000) (by omega) hp (by omega)
  have e1 : ab (floatOfInt .f64 ((p : Int) * (E : Int))) = some (floatOfInt .f64 ((p * E : Nat) : Int)) := by
    rw [← Int.natCast_mul]
    exact Fnt.ab (int_val (by omega)).1
  have e2 : ab 4652007308841189376 = some (floatOfInt .f64 ((1000 : Nat) : Int)) := by decide +kernel
  have e3 : ab 0 = some 0 := by decide +kernel
  rw [e1, e2, e3, hx, Fnt.ab ht]
  obtain ⟨y, hy, fy⟩ := add_fin ht fx (by grind) (by grind)
  rw [hy, M.num]
  rcases zero_times fy with h | h <;> rw [h]
  · exact M.add0
  · exact M.add1
theorem row_d {c E R T q tm p : Nat} (hc : c < 160) (ht : Fnt tm) (hp : p * E ≤ 1000) : rowD ⟨4607182418800017408, 4602678819172646912, 4652007308841189376, E, R⟩ ⟨midN c, 0, 4607182418800017408, T, q⟩ tm p = some (floatOfInt .f64 (c : Int)) := by
  unfold rowD
  rw [row_r hc ht hp]
  exact (mid_of hc).d
/-- A turn of so many parts of 2^20. -/
theorem turn_val {k : Nat} (hk : k ≤ 1048576) : ∃ T, bin .quo (ab (floatOfInt .f64 (k : Int))) (ab 4697254411347427328) = some T ∧ Fnt T ∧ val T = (k : Rat) * pw (-20) := by
  obtain ⟨f, v⟩ := int_val (K := k) (by omega)
  have hb : (k : Rat) * pw (-20) ≤ pw 1000 := by
    have a : (k : Rat) ≤ ((1048576 : Nat) : Rat) := Rat.natCast_le_natCast.2 hk
    have b : ((1048576 : Nat) : Rat) * pw (-20) = 1 := by decide +kernel
    have c := Rat.mul_le_mul_of_nonneg_right a (Rat.le_of_lt (pw_pos (-20)))
    have d := pw_mono (show (0 : Int) ≤ 1000 by omega)
    have e0 : pw 0 = 1 := by decide +kernel
    grind
  obtain ⟨fz, vz⟩ := exact_write false (K := k) (e := -20) (by omega) (by omega) hb
  rw [dv_false] at vz
  have hr : double.read 4697254411347427328 = .number false 4503599627370496 (-32) := by decide +kernel
  have p0 : 0 ≤ (k : Rat) * pw (-20) := Rat.mul_nonneg Rat.natCast_nonneg (Rat.le_of_lt (pw_pos _))
  obtain ⟨r, h1, h2, h3⟩ := quo_pow (x := floatOfInt .f64 (k : Int)) (y := double.write (.number false k (-20))) hr f (by rw [vz]; have := pw_pos 1000; constructor <;> grind) (by rw [vz, v]; rfl)
  exact ⟨r, by rw [Fnt.ab f, show ab 4697254411347427328 = some 4697254411347427328 by decide +kernel]; exact h1, h2, by rw [h3, vz]⟩
/-- What is left of the turn. -/
def wrapR (r : Option Nat) : Option Nat :=
  if gtF r (ab 4602678819172646912) || eqF r (ab 4602678819172646912) then bin .sub r (ab 4607182418800017408)
  else if ltF r (ab 13826050856027422720) then bin .add r (ab 4607182418800017408) else r
def WK (k : Nat) : Option Nat := if k = 1048576 then some 0 else wrapR (some (double.write (.number true (1048576 - k) (-20))))
theorem phase_wrap {c k T : Nat} (hc : c < 160) (h1 : 1 ≤ k) (hk : k ≤ 1048576) (hT : bin .quo (ab (floatOfInt .f64 (k : Int))) (ab 4697254411347427328) = some T) :
    ∃ x, phaseF (some T) (some (midN c)) (ab 4602678819172646912) = some x ∧ Fnt x ∧ val x ≤ pw 1000 ∧ -pw 1000 ≤ val x ∧ wrapF (some x) = WK k := by
  have M := mid_of hc
  obtain ⟨T', e, fT, vT⟩ := turn_val hk
  rw [hT] at e
  cases e
  obtain ⟨fq, vq⟩ := int_val (K := 4 * c + 2) (by omega)
  have P20 : pw (-20) = 1 / 1048576 := by decide +kernel
  have big : (1000000 : Rat) ≤ pw 1000 := by
    have a := pw_mono (show (20 : Int) ≤ 1000 by omega)
    have b : pw 20 = 1048576 := by decide +kernel
    grind
  have kR1 : (1 : Rat) ≤ (k : Rat) := by
    have : ((1 : Nat) : Rat) ≤ (k : Rat) := Rat.natCast_le_natCast.2 h1
    exact this
  have kR2 : (k : Rat) ≤ 1048576 := by
    have : (k : Rat) ≤ ((1048576 : Nat) : Rat) := Rat.natCast_le_natCast.2 hk
    exact this
  have cR0 : (0 : Rat) ≤ (c : Rat) := Rat.natCast_nonneg
  have cR : (c : Rat) ≤ 160 := by
    have : (c : Rat) ≤ ((160 : Nat) : Rat) := Rat.natCast_le_natCast.2 (by omega)
    exact this
  have qv : val (floatOfInt .f64 ((4 * c + 2 : Nat) : Int)) = 4 * (c : Rat) + 2 := by
    rw [vq, Rat.natCast_add, Rat.natCast_mul]; rfl
  have K1 : ((1048576 * (4 * c + 2) - k : Nat) : Rat) = 1048576 * (4 * (c : Rat) + 2) - (k : Rat) := by
    rw [nat_sub (by omega), Rat.natCast_mul, Rat.natCast_add, Rat.natCast_mul]; rfl
  obtain ⟨x, hx, fx, vx, lx⟩ := sub_exact (s := true) (K := 1048576 * (4 * c + 2) - k) (e := -20) fT fq (by omega) (by omega) (by rw [K1, P20]; grind) (by rw [dv_true, vT, qv, K1, P20]; grind)
  rw [dv_true, K1, P20] at vx
  have hph : phaseF (some T) (some (midN c)) (ab 4602678819172646912) = some x := by
    unfold phaseF
    rw [M.waves]; exact hx
  refine ⟨x, hph, fx, by grind, by grind, ?_⟩
  by_cases hk1 : k = 1048576
  · subst hk1
    have hT1 : T = 4607182418800017408 := by
      have e : bin .quo (ab (floatOfInt .f64 ((1048576 : Nat) : Int))) (ab 4697254411347427328) = some 4607182418800017408 := by decide +kernel
      rw [e] at hT
      exact (Option.some.inj hT).symm
    subst hT1
    have := M.whole
    rw [hph] at this
    rw [this]; rfl
  · have kR3 : (k : Rat) < 1048576 := by
      have : (k : Rat) < ((1048576 : Nat) : Rat) := Rat.natCast_lt_natCast.2 (by omega)
      exact this
    have f0 : fin (some x) = true := by rw [← Fnt.ab fx]; exact fin_of fx
    have hneg : ltF (some x) (ab 0) = true := by
      rw [← Fnt.ab fx, ltF_val fx fzero.1, fzero.2]
      simp; grind
    have fn := fin_neg fx
    obtain ⟨K, g1, g2, g3, g4⟩ := floor_whole fn (by rw [vneg]; grind) (by rw [vneg]; grind)
    rw [vneg] at g3 g4
    have hK : K = 4 * c + 1 := nat_between g3 g4 (by rw [Rat.natCast_add, Rat.natCast_mul]; show (4 : Rat) * (c : Rat) + 1 ≤ _; grind) (by rw [Rat.natCast_add, Rat.natCast_mul]; show _ < (4 : Rat) * (c : Rat) + 1 + 1; grind)
    subst hK
    have gv : val (Go.Fl.floor (neg x)) = 4 * (c : Rat) + 1 := by rw [g2, Rat.natCast_add, Rat.natCast_mul]; rfl
    have hw : wholeF (some x) = some (neg (Go.Fl.floor (neg x))) := by
      unfold wholeF
      rw [hneg]; rfl
    have K2 : ((1048576 - k : Nat) : Rat) = 1048576 - (k : Rat) := by rw [nat_sub (by omega)]; rfl
    obtain ⟨r, hr, fr, vr, lr⟩ := sub_exact (s := true) (K := 1048576 - k) (e := -20) fx (fin_neg g1) (by omega) (by omega) (by rw [K2, P20]; grind) (by rw [dv_true, vneg, vx, gv, K2, P20]; grind)
    obtain ⟨fz, vz⟩ := exact_write true (K := 1048576 - k) (e := -20) (by omega) (by omega) (by rw [K2, P20]; grind)
    have hrz : r = double.write (.number true (1048576 - k) (-20)) := val_inj fr fz lr (write_lt _ _ _) (by rw [vr, vz]) (by rw [vr, dv_true, K2, P20]; grind)
    unfold wrapF WK
    rw [if_pos f0, if_neg hk1, hw, hr, hrz]
    rfl
/-- What the pulse is multiplied by. -/
def AK (k : Nat) : C2 := (bin .mul (pointC (WK k)) (ab 4607182418800017408), bin .mul (pointS (WK k)) (ab 4607182418800017408))
theorem row_a {c k E R T q tm p : Nat} (hc : c < 160) (ht : Fnt tm) (hp : p * E ≤ 1000) (h1 : 1 ≤ k) (hk : k ≤ 1048576) (hT : bin .quo (ab (floatOfInt .f64 (k : Int))) (ab 4697254411347427328) = some T) :
    rowA ⟨4607182418800017408, 4602678819172646912, 4652007308841189376, E, R⟩ ⟨midN c, 0, 4607182418800017408, T, q⟩ tm p = AK k := by
  obtain ⟨T', e, fT, vT⟩ := turn_val hk
  rw [hT] at e
  cases e
  obtain ⟨x, hx, fx, _, _, hw⟩ := phase_wrap hc h1 hk hT
  unfold rowA ampF
  rw [row_r hc ht hp]
  simp only [Fnt.ab fT, hx]
  unfold turnC turnS AK
  rw [if_pos (by rw [← Fnt.ab fx]; exact fin_of fx), if_pos (by rw [← Fnt.ab fx]; exact fin_of fx), hw]
/-- A point of the circle, times 1. -/
theorem ak_good {k : Nat} (h1 : 1 ≤ k) (hk : k ≤ 1048576) : ∃ a b, AK k = (some a, some b) ∧ Good a b := by
  obtain ⟨T, hT, fT, vT⟩ := turn_val hk
  obtain ⟨x, hx, fx, b1, b2, hw⟩ := phase_wrap (c := 0) (by omega) h1 hk hT
  obtain ⟨a, b, ha, hb, hg⟩ := turn_good fx b1 b2
  unfold turnC at ha
  unfold turnS at hb
  rw [if_pos (by rw [← Fnt.ab fx]; exact fin_of fx), hw] at ha hb
  have one : ∀ {y : Nat}, Fnt y → val y ≤ 2 → -2 ≤ val y → ∃ r, bin .mul (some y) (ab 4607182418800017408) = some r ∧ Fnt r ∧ val r = val y := by
    intro y fy y1 y2
    rw [Fnt.ab fone.1]
    obtain ⟨r, hr⟩ := bin_some_mul fy fone.1
    have e : val y * val 4607182418800017408 = val y := by rw [fone.2]; grind
    obtain ⟨g1, g2⟩ := big2 y1 y2
    obtain ⟨fr, _⟩ := mul_near fy fone.1 hr (B := 2) (by rw [e]; exact y1) (by rw [e]; exact y2) (big2 (v := 2) (by grind) (by grind)).1
    have m := mul_mono fy fone.1 hr (by rw [e]; exact g1) (by rw [e]; exact g2) (z := y)
    rw [e] at m
    exact ⟨r, hr, fr, Rat.le_antisymm (m.1 Rat.le_refl) (m.2 Rat.le_refl)⟩
  have sq : ∀ {u v : Rat}, u * u + v * v ≤ 1 + 11 * u53 → u ≤ 2 ∧ -2 ≤ u := by
    intro u v h
    have hu : u53 ≤ 1 / 1000 := by decide +kernel
    have hv : 0 ≤ v * v := by
      rcases (Rat.le_total : (0 : Rat) ≤ v ∨ v ≤ 0) with h0 | h0
      · exact Rat.mul_nonneg h0 h0
      · have := Rat.mul_nonneg (show (0 : Rat) ≤ -v by grind) (show (0 : Rat) ≤ -v by grind)
        grind
    constructor
    · rcases (Rat.le_total : u ≤ 2 ∨ (2 : Rat) ≤ u) with h0 | h0
      · exact h0
      · exfalso
        have := Rat.mul_le_mul_of_nonneg_right h0 (show (0 : Rat) ≤ u by grind)
        grind
    · rcases (Rat.le_total : -2 ≤ u ∨ u ≤ (-2 : Rat)) with h0 | h0
      · exact h0
      · exfalso
        have := Rat.mul_le_mul_of_nonneg_right (show (2 : Rat) ≤ -u by grind) (show (0 : Rat) ≤ -u by grind)
        grind
  obtain ⟨fa, fb, hn⟩ := hg
  obtain ⟨a1, a2⟩ := sq (u := val a) (v := val b) hn.1
  obtain ⟨b1, b2⟩ := sq (u := val b) (v := val a) (by have := hn.1; grind)
  obtain ⟨r, hr, fr, vr⟩ := one fa a1 a2
  obtain ⟨s, hs, fs, vs⟩ := one fb b1 b2
  refine ⟨r, s, ?_, fr, fs, ?_⟩
  · unfold AK
    rw [ha, hb, hr, hs]
  · rw [vr, vs]; exact hn
end Go.Proofs.Ytgalgnopjcpocaa
