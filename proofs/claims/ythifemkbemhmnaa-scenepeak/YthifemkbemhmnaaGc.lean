/- TopMoved, as numbers: where the echo stands, what its turn is, what the samples are. -/
import Derived.Test.YthifemkbemhmnaaGb
import Derived.Test.YthifemkbemhmnaaCf
import Derived.Test.YthifemkbemhmnaaWc
import Derived.Test.YthifemkbemhmnaaMa
import Derived.Test.YthifemkbemhmnaaZ
namespace Go.Proofs.Ythifemkbemhmnaa
open Go.ChangeShapes Go.WideShapes Go.ChangeAt Go.RowKit Go.Fl Ieee

/-- The middle of a cell. -/
def midN (c : Nat) : Nat := (bin .add (ab (floatOfInt .f64 (c : Int))) (ab 4602678819172646912)).getD 0
def midAll (c : Nat) : Bool :=
  bin .add (ab (floatOfInt .f64 (c : Int))) (ab 4602678819172646912) == some (midN c) && ab (midN c) == some (midN c)
  && bin .add (some (midN c)) (some 0) == some (midN c) && bin .add (some (midN c)) (some 9223372036854775808) == some (midN c)
  && dF (some (midN c)) (ab 4607182418800017408) == some (floatOfInt .f64 (c : Int)) && heardF (some (midN c)) (some (floatOfInt .f64 (c : Int))) && intD (some (floatOfInt .f64 (c : Int))) == c
  && bin .quo (bin .mul (ab 4611686018427387904) (some (midN c))) (ab 4602678819172646912) == some (floatOfInt .f64 ((4 * c + 2 : Nat) : Int))
  && wrapF (phaseF (some 4607182418800017408) (some (midN c)) (ab 4602678819172646912)) == some 0 && fin (some (midN c))
theorem mid_all : ∀ c, c < 160 → midAll c = true := by decide +kernel
theorem nat_sub {a b : Nat} (h : b ≤ a) : ((a - b : Nat) : Rat) = (a : Rat) - (b : Rat) := by
  obtain ⟨d, rfl⟩ : ∃ d, a = b + d := ⟨a - b, by omega⟩
  rw [Nat.add_sub_cancel_left, Rat.natCast_add]; grind
structure Mid (c : Nat) : Prop where
  is : bin .add (ab (floatOfInt .f64 (c : Int))) (ab 4602678819172646912) = some (midN c)
  num : ab (midN c) = some (midN c)
  add0 : bin .add (some (midN c)) (some 0) = some (midN c)
  add1 : bin .add (some (midN c)) (some 9223372036854775808) = some (midN c)
  d : dF (some (midN c)) (ab 4607182418800017408) = some (floatOfInt .f64 (c : Int))
  heard : heardF (some (midN c)) (some (floatOfInt .f64 (c : Int))) = true
  int : intD (some (floatOfInt .f64 (c : Int))) = c
  waves : bin .quo (bin .mul (ab 4611686018427387904) (some (midN c))) (ab 4602678819172646912) = some (floatOfInt .f64 ((4 * c + 2 : Nat) : Int))
  whole : wrapF (phaseF (some 4607182418800017408) (some (midN c)) (ab 4602678819172646912)) = some 0
  fin : fin (some (midN c)) = true
theorem mid_of {c : Nat} (h : c < 160) : Mid c := by
  have := mid_all c h
  simp only [midAll, Bool.and_eq_true, beq_iff_eq] at this
  obtain ⟨⟨⟨⟨⟨⟨⟨⟨⟨a, b⟩, c⟩, d⟩, e⟩, f⟩, g⟩, h⟩, i⟩, j⟩ := this
  exact ⟨a, b, c, d, e, f, g, h, i, j⟩
/-- Nought times a finite float: one of the two noughts. -/
theorem zero_times {x : Nat} (hx : Fnt x) : bin .mul (some 0) (some x) = some 0 ∨ bin .mul (some 0) (some x) = some 9223372036854775808 := by
  obtain ⟨s, m, i, ex⟩ := fin_read hx
  have e : bin .mul (some 0) (some x) = some (double.write (.number s 0 (-1074 + i))) := by
    show double.mul 0 x = _
    unfold Format.mul
    rw [read0, ex]
    simp [Datum.product]
  rw [e]
  cases s
  · left; show some (double.nearest _ _ _) = _
    unfold Format.nearest; rw [if_pos rfl]; rfl
  · right; show some (double.nearest _ _ _) = _
    unfold Format.nearest; rw [if_pos rfl]; rfl
/-- How far the thing is, in each row. -/
theorem row_r {c E R T q tm p : Nat} (hc : c < 160) (ht : Fnt tm) (hp : p * E ≤ 1000) : rowR ⟨4607182418800017408, 4602678819172646912, 4652007308841189376, E, R⟩ ⟨midN c, 0, 4607182418800017408, T, q⟩ tm p = some (midN c) := by
  have M := mid_of hc
  unfold rowR rF atF
  simp only []
  obtain ⟨x, hx, fx, x0, x2, _⟩ := unit_quo (r := p * E) (n := 1000) (by omega) hp (by omega)
  have e1 : ab (floatOfInt .f64 ((p : Int) * (E : Int))) = some (floatOfInt .f64 ((p * E : Nat) : Int)) := by
    rw [← Int.natCast_mul]
    exact Fnt.ab (int_val (by omega)).1
  have e2 : ab 4652007308841189376 = some (floatOfInt .f64 ((1000 : Nat) : Int)) := by decide +kernel
  have e3 : ab 0 = some 0 := by decide +kernel
  rw [e1, e2, e3, hx, Fnt.ab ht]
  obtain ⟨y, hy, fy⟩ := add_fin ht fx (by grind) (by grind)
  rw [hy, M.num]
  rcases zero_times fy with h | h <;> rw [h]
  · exact M.add0
  · exact M.add1
theorem row_d {c E R T q tm p : Nat} (hc : c < 160) (ht : Fnt tm) (hp : p * E ≤ 1000) : rowD ⟨4607182418800017408, 4602678819172646912, 4652007308841189376, E, R⟩ ⟨midN c, 0, 4607182418800017408, T, q⟩ tm p = some (floatOfInt .f64 (c : Int)) := by
  unfold rowD
  rw [row_r hc ht hp]
  exact (mid_of hc).d
/-- A turn of so many parts of 2^20. -/
theorem turn_val {k : Nat} (hk : k ≤ 1048576) : ∃ T, bin .quo (ab (floatOfInt .f64 (k : Int))) (ab 4697254411347427328) = some T ∧ Fnt T ∧ val T = (k : Rat) * pw (-20) := by
  obtain ⟨f, v⟩ := int_val (K := k) (by omega)
  have hb : (k : Rat) * pw (-20) ≤ pw 1000 := by
    have a : (k : Rat) ≤ ((1048576 : Nat) : Rat) := Rat.natCast_le_natCast.2 hk
    have b : ((1048576 : Nat) : Rat) * pw (-20) = 1 := by decide +kernel
    have c := Rat.mul_le_mul_of_nonneg_right a (Rat.le_of_lt (pw_pos (-20)))
    have d := pw_mono (show (0 : Int) ≤ 1000 by omega)
    have e0 : pw 0 = 1 := by decide +kernel
    grind
  obtain ⟨fz, vz⟩ := exact_write false (K := k) (e := -20) (by omega) (by omega) hb
  rw [dv_false] at vz
  have hr : double.read 4697254411347427328 = .number false 4503599627370496 (-32) := by decide +kernel
  have p0 : 0 ≤ (k : Rat) * pw (-20) := Rat.mul_nonneg Rat.natCast_nonneg (Rat.le_of_lt (pw_pos _))
  obtain ⟨r, h1, h2, h3⟩ := quo_pow (x := floatOfInt .f64 (k : Int)) (y := double.write (.number false k (-20))) hr f (by rw [vz]; have := pw_pos 1000; constructor <;> grind) (by rw [vz, v]; rfl)
  exact ⟨r, by rw [Fnt.ab f, show ab 4697254411347427328 = some 4697254411347427328 by decide +kernel]; exact h1, h2, by rw [h3, vz]⟩
/-- What is left of the turn. -/
def wrapR (r : Option Nat) : Option Nat :=
  if gtF r (ab 4602678819172646912) || eqF r (ab 4602678819172646912) then bin .sub r (ab 4607182418800017408)
  else if ltF r (ab 13826050856027422720) then bin .add r (ab 4607182418800017408) else r
def WK (k : Nat) : Option Nat := if k = 1048576 then some 0 else wrapR (some (double.write (.number true (1048576 - k) (-20))))
theorem phase_wrap {c k T : Nat} (hc : c < 160) (h1 : 1 ≤ k) (hk : k ≤ 1048576) (hT : bin .quo (ab (floatOfInt .f64 (k : Int))) (ab 4697254411347427328) = some T) :
    ∃ x, phaseF (some T) (some (midN c)) (ab 4602678819172646912) = some x ∧ Fnt x ∧ val x ≤ pw 1000 ∧ -pw 1000 ≤ val x ∧ wrapF (some x) = WK k := by
  have M := mid_of hc
  obtain ⟨T', e, fT, vT⟩ := turn_val hk
  rw [hT] at e
  cases e
  obtain ⟨fq, vq⟩ := int_val (K := 4 * c + 2) (by omega)
  have P20 : pw (-20) = 1 / 1048576 := by decide +kernel
  have big : (1000000 : Rat) ≤ pw 1000 := by
    have a := pw_mono (show (20 : Int) ≤ 1000 by omega)
    have b : pw 20 = 1048576 := by decide +kernel
    grind
  have kR1 : (1 : Rat) ≤ (k : Rat) := by
    have : ((1 : Nat) : Rat) ≤ (k : Rat) := Rat.natCast_le_natCast.2 h1
    exact this
  have kR2 : (k : Rat) ≤ 1048576 := by
    have : (k : Rat) ≤ ((1048576 : Nat) : Rat) := Rat.natCast_le_natCast.2 hk
    exact this
  have cR0 : (0 : Rat) ≤ (c : Rat) := Rat.natCast_nonneg
  have cR : (c : Rat) ≤ 160 := by
    have : (c : Rat) ≤ ((160 : Nat) : Rat) := Rat.natCast_le_natCast.2 (by omega)
    exact this
  have qv : val (floatOfInt .f64 ((4 * c + 2 : Nat) : Int)) = 4 * (c : Rat) + 2 := by
    rw [vq, Rat.natCast_add, Rat.natCast_mul]; rfl
  have K1 : ((1048576 * (4 * c + 2) - k : Nat) : Rat) = 1048576 * (4 * (c : Rat) + 2) - (k : Rat) := by
    rw [nat_sub (by omega), Rat.natCast_mul, Rat.natCast_add, Rat.natCast_mul]; rfl
  obtain ⟨x, hx, fx, vx, lx⟩ := sub_exact (s := true) (K := 1048576 * (4 * c + 2) - k) (e := -20) fT fq (by omega) (by omega) (by rw [K1, P20]; grind) (by rw [dv_true, vT, qv, K1, P20]; grind)
  rw [dv_true, K1, P20] at vx
  have hph : phaseF (some T) (some (midN c)) (ab 4602678819172646912) = some x := by
    unfold phaseF
    rw [M.waves]; exact hx
  refine ⟨x, hph, fx, by grind, by grind, ?_⟩
  by_cases hk1 : k = 1048576
  · subst hk1
    have hT1 : T = 4607182418800017408 := by
      have e : bin .quo (ab (floatOfInt .f64 ((1048576 : Nat) : Int))) (ab 4697254411347427328) = some 4607182418800017408 := by decide +kernel
      rw [e] at hT
      exact (Option.some.inj hT).symm
    subst hT1
    have := M.whole
    rw [hph] at this
    rw [this]; rfl
  · have kR3 : (k : Rat) < 1048576 := by
      have : (k : Rat) < ((1048576 : Nat) : Rat) := Rat.natCast_lt_natCast.2 (by omega)
      exact this
    have f0 : fin (some x) = true := by rw [← Fnt.ab fx]; exact fin_of fx
    have hneg : ltF (some x) (ab 0) = true := by
      rw [← Fnt.ab fx, ltF_val fx fzero.1, fzero.2]
      simp; grind
    have fn := fin_neg fx
    obtain ⟨K, g1, g2, g3, g4⟩ := floor_whole fn (by rw [vneg]; grind) (by rw [vneg]; grind)
    rw [vneg] at g3 g4
    have hK : K = 4 * c + 1 := nat_between g3 g4 (by rw [Rat.natCast_add, Rat.natCast_mul]; show (4 : Rat) * (c : Rat) + 1 ≤ _; grind) (by rw [Rat.natCast_add, Rat.natCast_mul]; show _ < (4 : Rat) * (c : Rat) + 1 + 1; grind)
    subst hK
    have gv : val (Go.Fl.floor (neg x)) = 4 * (c : Rat) + 1 := by rw [g2, Rat.natCast_add, Rat.natCast_mul]; rfl
    have hw : wholeF (some x) = some (neg (Go.Fl.floor (neg x))) := by
      unfold wholeF
      rw [hneg]; rfl
    have K2 : ((1048576 - k : Nat) : Rat) = 1048576 - (k : Rat) := by rw [nat_sub (by omega)]; rfl
    obtain ⟨r, hr, fr, vr, lr⟩ := sub_exact (s := true) (K := 1048576 - k) (e := -20) fx (fin_neg g1) (by omega) (by omega) (by rw [K2, P20]; grind) (by rw [dv_true, vneg, vx, gv, K2, P20]; grind)
    obtain ⟨fz, vz⟩ := exact_write true (K := 1048576 - k) (e := -20) (by omega) (by omega) (by rw [K2, P20]; grind)
    have hrz : r = double.write (.number true (1048576 - k) (-20)) := val_inj fr fz lr (write_lt _ _ _) (by rw [vr, vz]) (by rw [vr, dv_true, K2, P20]; grind)
    unfold wrapF WK
    rw [if_pos f0, if_neg hk1, hw, hr, hrz]
    rfl
/-- What the pulse is multiplied by. -/
def AK (k : Nat) : C2 := (bin .mul (pointC (WK k)) (ab 4607182418800017408), bin .mul (pointS (WK k)) (ab 4607182418800017408))
theorem row_a {c k E R T q tm p : Nat} (hc : c < 160) (ht : Fnt tm) (hp : p * E ≤ 1000) (h1 : 1 ≤ k) (hk : k ≤ 1048576) (hT : bin .quo (ab (floatOfInt .f64 (k : Int))) (ab 4697254411347427328) = some T) :
    rowA ⟨4607182418800017408, 4602678819172646912, 4652007308841189376, E, R⟩ ⟨midN c, 0, 4607182418800017408, T, q⟩ tm p = AK k := by
  obtain ⟨T', e, fT, vT⟩ := turn_val hk
  rw [hT] at e
  cases e
  obtain ⟨x, hx, fx, _, _, hw⟩ := phase_wrap hc h1 hk hT
  unfold rowA ampF
  rw [row_r hc ht hp]
  simp only [Fnt.ab fT, hx]
  unfold turnC turnS AK
  rw [if_pos (by rw [← Fnt.ab fx]; exact fin_of fx), if_pos (by rw [← Fnt.ab fx]; exact fin_of fx), hw]
/-- A point of the circle, times 1. -/
theorem ak_good {k : Nat} (h1 : 1 ≤ k) (hk : k ≤ 1048576) : ∃ a b, AK k = (some a, some b) ∧ Good a b := by
  obtain ⟨T, hT, fT, vT⟩ := turn_val hk
  obtain ⟨x, hx, fx, b1, b2, hw⟩ := phase_wrap (c := 0) (by omega) h1 hk hT
  obtain ⟨a, b, ha, hb, hg⟩ := turn_good fx b1 b2
  unfold turnC at ha
  unfold turnS at hb
  rw [if_pos (by rw [← Fnt.ab fx]; exact fin_of fx), hw] at ha hb
  have one : ∀ {y : Nat}, Fnt y → val y ≤ 2 → -2 ≤ val y → ∃ r, bin .mul (some y) (ab 4607182418800017408) = some r ∧ Fnt r ∧ val r = val y := by
    intro y fy y1 y2
    rw [Fnt.ab fone.1]
    obtain ⟨r, hr⟩ := bin_some_mul fy fone.1
    have e : val y * val 4607182418800017408 = val y := by rw [fone.2]; grind
    obtain ⟨g1, g2⟩ := big2 y1 y2
    obtain ⟨fr, _⟩ := mul_near fy fone.1 hr (B := 2) (by rw [e]; exact y1) (by rw [e]; exact y2) (big2 (v := 2) (by grind) (by grind)).1
    have m := mul_mono fy fone.1 hr (by rw [e]; exact g1) (by rw [e]; exact g2) (z := y)
    rw [e] at m
    exact ⟨r, hr, fr, Rat.le_antisymm (m.1 Rat.le_refl) (m.2 Rat.le_refl)⟩
  have sq : ∀ {u v : Rat}, u * u + v * v ≤ 1 + 11 * u53 → u ≤ 2 ∧ -2 ≤ u := by
    intro u v h
    have hu : u53 ≤ 1 / 1000 := by decide +kernel
    have hv : 0 ≤ v * v := by
      rcases (Rat.le_total : (0 : Rat) ≤ v ∨ v ≤ 0) with h0 | h0
      · exact Rat.mul_nonneg h0 h0
      · have := Rat.mul_nonneg (show (0 : Rat) ≤ -v by grind) (show (0 : Rat) ≤ -v by grind)
        grind
    constructor
    · rcases (Rat.le_total : u ≤ 2 ∨ (2 : Rat) ≤ u) with h0 | h0
      · exact h0
      · exfalso
        have := Rat.mul_le_mul_of_nonneg_right h0 (show (0 : Rat) ≤ u by grind)
        grind
    · rcases (Rat.le_total : -2 ≤ u ∨ u ≤ (-2 : Rat)) with h0 | h0
      · exact h0
      · exfalso
        have := Rat.mul_le_mul_of_nonneg_right (show (2 : Rat) ≤ -u by grind) (show (0 : Rat) ≤ -u by grind)
        grind
  obtain ⟨fa, fb, hn⟩ := hg
  obtain ⟨a1, a2⟩ := sq (u := val a) (v := val b) hn.1
  obtain ⟨b1, b2⟩ := sq (u := val b) (v := val a) (by have := hn.1; grind)
  obtain ⟨r, hr, fr, vr⟩ := one fa a1 a2
  obtain ⟨s, hs, fs, vs⟩ := one fb b1 b2
  refine ⟨r, s, ?_, fr, fs, ?_⟩
  · unfold AK
    rw [ha, hb, hr, hs]
  · rw [vr, vs]; exact hn
end Go.Proofs.Ythifemkbemhmnaa
/- TopMoved, as numbers: the rows of an echo, and what they are held against the pulse. -/
namespace Go.Proofs.Ythifemkbemhmnaa
open Go.ChangeShapes Go.WideShapes Go.ChangeAt Go.RowKit Go.Fl Ieee

/-- A row's sample. -/
def lineV (A : C2) (P : Nat → C2) (c n g : Nat) : C2 := if c ≤ g ∧ g < c + n then addC (some 0, some 0) (mulC A (P (g - c))) else (some 0, some 0)
theorem echo_line {b : Bt} {t : Tg} {tm n N c : Nat} {P : Nat → C2} {A : C2} (hh : ∀ p, p < b.R → heardF (rowR b t tm p) (rowD b t tm p) = true) (hd : ∀ p, p < b.R → intD (rowD b t tm p) = c) (ha : ∀ p, p < b.R → rowA b t tm p = A) (hN : b.R * b.E = N) (hc : c + n ≤ b.E) :
    ∀ m, m ≤ b.R → ∀ p g, g < b.E → echoS b t tm n N P (fun _ => (some 0, some 0)) m (p * b.E + g) = if p < m then lineV A P c n g else (some 0, some 0)
  | 0, _, p, g, _ => by simp [echoS]
  | m + 1, hm, p, g, hg => by
    have ih := echo_line (P := P) hh hd ha hN hc m (by omega) p g hg
    rw [echoS]
    unfold rowE
    rw [if_pos (hh m (by omega)), hd m (by omega), ha m (by omega)]
    have h1 : (m + 1) * b.E ≤ b.R * b.E := Nat.mul_le_mul_right _ hm
    rw [Nat.succ_mul] at h1
    have e1 : min n (N - (m * b.E + c)) = n := by omega
    rw [e1]
    unfold hitF
    rcases Nat.lt_trichotomy p m with h | h | h
    · have h2 : (p + 1) * b.E ≤ m * b.E := Nat.mul_le_mul_right _ h
      rw [Nat.succ_mul] at h2
      rw [if_neg (by omega), ih, if_pos h, if_pos (by omega)]
    · subst h
      rw [ih, if_neg (show ¬ p < p by omega), if_pos (show p < p + 1 by omega)]
      unfold lineV
      by_cases h3 : c ≤ g ∧ g < c + n
      · rw [if_pos (by omega), if_pos h3, show p * b.E + g - (p * b.E + c) = g - c by omega]
      · rw [if_neg (by omega), if_neg h3]
    · have h2 : (m + 1) * b.E ≤ p * b.E := Nat.mul_le_mul_right _ h
      rw [Nat.succ_mul] at h2
      rw [if_neg (by omega), ih, if_neg (by omega), if_neg (by omega)]
/-- The samples of the echo of the ground. -/
theorem scene_line {c k n E R T q tm : Nat} {P : Nat → C2} (hc : c < 160) (ht : Fnt tm) (hm : ∀ p, p < R → p * E ≤ 1000) (h1 : 1 ≤ k) (hk : k ≤ 1048576) (hT : bin .quo (ab (floatOfInt .f64 (k : Int))) (ab 4697254411347427328) = some T) (hn : c + n ≤ E) {p g : Nat} (hpR : p < R) (hg : g < E) :
    sceneS ⟨4607182418800017408, 4602678819172646912, 4652007308841189376, E, R⟩ (fun _ => ⟨midN c, 0, 4607182418800017408, T, q⟩) tm n (R * E) P 1 (p * E + g) = lineV (AK k) P c n g := by
  have M := mid_of hc
  have := echo_line (b := ⟨4607182418800017408, 4602678819172646912, 4652007308841189376, E, R⟩) (t := ⟨midN c, 0, 4607182418800017408, T, q⟩) (tm := tm) (n := n) (N := R * E) (c := c) (P := P) (A := AK k)
    (fun p h => by rw [row_r hc ht (hm p h), row_d hc ht (hm p h)]; exact M.heard) (fun p h => by rw [row_d hc ht (hm p h)]; exact M.int) (fun p h => row_a hc ht (hm p h) h1 hk hT) rfl hn R (Nat.le_refl _) p g hg
  rw [if_pos hpR] at this
  exact this
theorem line_move (A : C2) (P : Nat → C2) (c n g by_ : Nat) : lineV A P (c + by_) n (g + by_) = lineV A P c n g := by
  unfold lineV
  by_cases h : c ≤ g ∧ g < c + n
  · rw [if_pos (by omega), if_pos h, show g + by_ - (c + by_) = g - c by omega]
  · rw [if_neg (by omega), if_neg h]
theorem line_low (A : C2) (P : Nat → C2) {c n g : Nat} (h : g < c) : lineV A P c n g = (some 0, some 0) := by
  unfold lineV; rw [if_neg (by omega)]
theorem line_high (A : C2) (P : Nat → C2) {c n g : Nat} (h : c + n ≤ g) : lineV A P c n g = (some 0, some 0) := by
  unfold lineV; rw [if_neg (by omega)]
/-- Both parts are at most so great. -/
def BC2 (p : C2) (K : Nat) : Prop := BN p.1 K ∧ BN p.2 K
theorem bn_zero : BN (some 0) 0 := ⟨0, rfl, fzero.1, by rw [fzero.2]; exact Rat.le_refl, by rw [fzero.2]; decide +kernel⟩
theorem good_bc {a b : Nat} (h : Good a b) : BC2 (some a, some b) 2 := by
  have sq : ∀ {u v : Rat}, u * u + v * v ≤ 1 + 11 * u53 → u ≤ 2 ∧ -2 ≤ u := by
    intro u v h
    have hu : u53 ≤ 1 / 1000 := by decide +kernel
    have hv : 0 ≤ v * v := by
      rcases (Rat.le_total : (0 : Rat) ≤ v ∨ v ≤ 0) with h0 | h0
      · exact Rat.mul_nonneg h0 h0
      · have := Rat.mul_nonneg (show (0 : Rat) ≤ -v by grind) (show (0 : Rat) ≤ -v by grind)
        grind
    constructor
    · rcases (Rat.le_total : u ≤ 2 ∨ (2 : Rat) ≤ u) with h0 | h0
      · exact h0
      · exfalso
        have := Rat.mul_le_mul_of_nonneg_right h0 (show (0 : Rat) ≤ u by grind)
        grind
    · rcases (Rat.le_total : -2 ≤ u ∨ u ≤ (-2 : Rat)) with h0 | h0
      · exact h0
      · exfalso
        have := Rat.mul_le_mul_of_nonneg_right (show (2 : Rat) ≤ -u by grind) (show (0 : Rat) ≤ -u by grind)
        grind
  obtain ⟨a1, a2⟩ := sq (u := val a) (v := val b) h.near.1
  obtain ⟨b1, b2⟩ := sq (u := val b) (v := val a) (by have := h.near.1; grind)
  exact ⟨⟨a, rfl, h.fc, a1, a2⟩, ⟨b, rfl, h.fs, b1, b2⟩⟩
theorem BC2.mul {p q : C2} {K L M : Nat} (hp : BC2 p K) (hq : BC2 q L) (hM : 2 * (K * L) ≤ M) (h : M < 2 ^ 53) : BC2 (mulC p q) M :=
  ⟨(hp.1.mul hq.1 (Nat.le_refl _) (by omega)).sub (hp.2.mul hq.2 (Nat.le_refl _) (by omega)) (by omega) h,
   (hp.1.mul hq.2 (Nat.le_refl _) (by omega)).add (hp.2.mul hq.1 (Nat.le_refl _) (by omega)) (by omega) h⟩
theorem BC2.conj {p : C2} {K : Nat} (hp : BC2 p K) : BC2 (p.1, p.2.map neg) K := ⟨hp.1, hp.2.neg⟩
theorem line_bc {A : C2} {P : Nat → C2} {c n g : Nat} (hA : BC2 A 2) (hP : ∀ i, i < n → BC2 (P i) 2) : BC2 (lineV A P c n g) 8 := by
  unfold lineV
  split
  · have := hA.mul (hP (g - c) (by omega)) (M := 8) (by omega) (by omega)
    exact ⟨bn_zero.add this.1 (by omega) (by omega), bn_zero.add this.2 (by omega) (by omega)⟩
  · exact ⟨bn_zero.le (by omega), bn_zero.le (by omega)⟩
/-- A finite sum, with noughts behind it. -/
theorem sum_bn {G : Nat → Option Nat} {K : Nat} : ∀ {m : Nat}, (∀ i, i < m → BN (G i) K) → m * K + K < 2 ^ 53 → BN (sumN G m) (m * K + K)
  | 0, _, h => (bn_zero).le (by omega)
  | 1, h, hK => (h 0 (by omega)).le (by omega)
  | m + 2, h, hK => by
    have e : (m + 2) * K = (m + 1) * K + K := Nat.succ_mul (m + 1) K
    rw [sumN_step]
    exact (sum_bn (m := m + 1) (fun i hi => h i (by omega)) (by omega)).add (h (m + 1) (by omega)) (by omega) hK
theorem bn_val {a : Option Nat} (h : BN a 0) : ∃ x, a = some x ∧ Fnt x ∧ val x = 0 := by
  obtain ⟨x, rfl, f, h1, h2⟩ := h
  have e : ((0 : Nat) : Rat) = 0 := rfl
  rw [e] at h1 h2
  exact ⟨x, rfl, f, by grind⟩
theorem sum_tail {G : Nat → Option Nat} {K m : Nat} : ∀ {d : Nat}, (∀ i, i < m + d → BN (G i) K) → (∀ i, m ≤ i → i < m + d → BN (G i) 0) → (m + d) * K + K < 2 ^ 53 → ∃ x y, sumN G m = some x ∧ sumN G (m + d) = some y ∧ Fnt x ∧ Fnt y ∧ val x = val y
  | 0, h, _, hK => by
    obtain ⟨x, e, f, _⟩ := sum_bn h hK
    exact ⟨x, x, e, e, f, f, rfl⟩
  | d + 1, h, h0, hK => by
    have e : (m + (d + 1)) * K = (m + d) * K + K := by rw [show m + (d + 1) = (m + d) + 1 by omega, Nat.succ_mul]
    obtain ⟨x, y, e1, e2, f1, f2, v⟩ := sum_tail (d := d) (fun i hi => h i (by omega)) (fun i h1 h2 => h0 i h1 (by omega)) (by omega)
    obtain ⟨z, e3, f3, v3⟩ := bn_val (h0 (m + d) (by omega) (by omega))
    obtain ⟨k, hk⟩ : ∃ k, k = m + d := ⟨_, rfl⟩
    rw [show m + (d + 1) = k + 1 by omega]
    rw [← hk] at e2 e3
    cases k with
    | zero =>
      refine ⟨x, z, e1, e3, f1, f3, ?_⟩
      have : y = 0 := by
        have q : sumN G 0 = some 0 := by show ab 0 = some 0; decide +kernel
        rw [q] at e2; exact (Option.some.inj e2).symm
      rw [v, this, v3, val0]
    | succ k =>
      rw [sumN_step, e2, e3]
      obtain ⟨r, hr⟩ := bin_some_add f2 f3
      have hs := sum_bn (G := G) (m := k + 1) (K := K) (fun i hi => h i (by omega)) (by rw [hk]; omega)
      obtain ⟨y', q, _, y1, y2⟩ := hs
      rw [e2] at q
      cases q
      have hb := big_nat (K := (k + 1) * K + K) (by rw [hk]; omega)
      have e4 : val y + val z = val y := by rw [v3]; grind
      obtain ⟨fr, _⟩ := add_near f2 f3 hr (B := (((k + 1) * K + K : Nat) : Rat)) (by rw [e4]; exact y1) (by rw [e4]; exact y2) hb
      have mm := add_mono f2 f3 hr (by rw [e4]; grind) (by rw [e4]; grind) (z := y)
      rw [e4] at mm
      exact ⟨x, r, e1, hr, f1, fr, by rw [v]; exact Rat.le_antisymm (mm.2 Rat.le_refl) (mm.1 Rat.le_refl)⟩
theorem eqF_of {x y : Nat} (hx : Fnt x) (hy : Fnt y) (h : val x = val y) : eqF (some x) (some y) = true := by
  rw [← Fnt.ab hx, ← Fnt.ab hy, eqF_val hx hy]; simp [h]
/-- THE MATCH MOVES WITH THE ECHO. -/
theorem held_moved {f1 f2 fp : Nat → Nat × Nat} {A : C2} {P : Nat → C2} {c by_ n E g : Nat} (hA : BC2 A 2) (hP : ∀ i, i < n → BC2 (P i) 2) (h1 : ∀ i, i < E → ab2 (f1 i) = lineV A P c n i) (h2 : ∀ i, i < E → ab2 (f2 i) = lineV A P (c + by_) n i) (hp : ∀ i, i < n → ab2 (fp i) = P i) (hE : c + by_ + n ≤ E) (hn : n ≤ 4096) (hg : g + by_ < E) :
    eqF (heldF f2 E fp n (g + by_)).1 (heldF f1 E fp n g).1 = true ∧ eqF (heldF f2 E fp n (g + by_)).2 (heldF f1 E fp n g).2 = true := by
  have key : ∀ i, i < n → g + i < E → BC2 (mulC (ab2 (f1 (i + g))) ((ab2 (fp i)).1, (ab2 (fp i)).2.map neg)) 32 ∧ (c + n ≤ g + i → BC2 (mulC (ab2 (f1 (i + g))) ((ab2 (fp i)).1, (ab2 (fp i)).2.map neg)) 0) := by
    intro i hi hgi
    have q : BC2 (P i) 2 := hP i hi
    rw [h1 (i + g) (by omega), hp i hi]
    refine ⟨(line_bc hA hP).mul q.conj (by omega) (by omega), fun hc => ?_⟩
    rw [line_high A P (show c + n ≤ i + g by omega)]
    exact (show BC2 (some 0, some 0) 0 from ⟨bn_zero, bn_zero⟩).mul q.conj (by omega) (by omega)
  have same : ∀ i, i < n → g + by_ + i < E → ab2 (f2 (i + (g + by_))) = ab2 (f1 (i + g)) := by
    intro i hi hgi
    rw [h1 (i + g) (by omega), h2 (i + (g + by_)) (by omega), ← line_move A P c n (i + g) by_, show i + (g + by_) = i + g + by_ by omega]
  obtain ⟨d, hd⟩ : ∃ d, min (E - g) n = min (E - (g + by_)) n + d := ⟨min (E - g) n - min (E - (g + by_)) n, by omega⟩
  have e1 : sumN (dotR (fun i => f2 (i + (g + by_))) fp) (min (E - (g + by_)) n) = sumN (dotR (fun i => f1 (i + g)) fp) (min (E - (g + by_)) n) := by
    refine sumN_congr fun i hi => ?_
    have := same i (by omega) (by omega)
    unfold dotR
    have a := congrArg Prod.fst this
    have b := congrArg Prod.snd this
    simp only [ab2] at a b
    rw [a, b]
  have e2 : sumN (dotI (fun i => f2 (i + (g + by_))) fp) (min (E - (g + by_)) n) = sumN (dotI (fun i => f1 (i + g)) fp) (min (E - (g + by_)) n) := by
    refine sumN_congr fun i hi => ?_
    have := same i (by omega) (by omega)
    unfold dotI
    have a := congrArg Prod.fst this
    have b := congrArg Prod.snd this
    simp only [ab2] at a b
    rw [a, b]
  unfold heldF
  simp only []
  rw [e1, e2, hd]
  have hK : (min (E - (g + by_)) n + d) * 32 + 32 < 2 ^ 53 := by omega
  constructor
  · obtain ⟨x, y, q1, q2, q3, q4, q5⟩ := sum_tail (G := dotR (fun i => f1 (i + g)) fp) (m := min (E - (g + by_)) n) (d := d) (K := 32) (fun i hi => (key i (by omega) (by omega)).1.1) (fun i h3 h4 => ((key i (by omega) (by omega)).2 (by omega)).1) hK
    rw [q1, q2]
    exact eqF_of q3 q4 q5
  · obtain ⟨x, y, q1, q2, q3, q4, q5⟩ := sum_tail (G := dotI (fun i => f1 (i + g)) fp) (m := min (E - (g + by_)) n) (d := d) (K := 32) (fun i hi => (key i (by omega) (by omega)).1.2) (fun i h3 h4 => ((key i (by omega) (by omega)).2 (by omega)).2) hK
    rw [q1, q2]
    exact eqF_of q3 q4 q5
theorem add_v {x y z : Nat} (fx : Fnt x) (fy : Fnt y) (h : val x + val y = val z) (h1 : val z ≤ 2) (h2 : -2 ≤ val z) : ∃ r, bin .add (some x) (some y) = some r ∧ Fnt r ∧ val r = val z := by
  obtain ⟨r, hr⟩ := bin_some_add fx fy
  obtain ⟨g1, g2⟩ := big2 h1 h2
  obtain ⟨fr, _⟩ := add_near fx fy hr (B := 2) (by rw [h]; exact h1) (by rw [h]; exact h2) (big2 (v := 2) (by grind) (by grind)).1
  have m := add_mono fx fy hr (by rw [h]; exact g1) (by rw [h]; exact g2) (z := z)
  rw [h] at m
  exact ⟨r, hr, fr, Rat.le_antisymm (m.1 Rat.le_refl) (m.2 Rat.le_refl)⟩
theorem sub_v {x y z : Nat} (fx : Fnt x) (fy : Fnt y) (h : val x - val y = val z) (h1 : val z ≤ 2) (h2 : -2 ≤ val z) : ∃ r, bin .sub (some x) (some y) = some r ∧ Fnt r ∧ val r = val z := by
  obtain ⟨r, hr⟩ := bin_some_sub fx fy
  obtain ⟨g1, g2⟩ := big2 h1 h2
  obtain ⟨fr, _⟩ := sub_near fx fy hr (B := 2) (by rw [h]; exact h1) (by rw [h]; exact h2) (big2 (v := 2) (by grind) (by grind)).1
  have m := sub_mono fx fy hr (by rw [h]; exact g1) (by rw [h]; exact g2) (z := z)
  rw [h] at m
  exact ⟨r, hr, fr, Rat.le_antisymm (m.1 Rat.le_refl) (m.2 Rat.le_refl)⟩
/-- Where the echo begins it is not nought. -/
theorem line_first {A : C2} {P : Nat → C2} {a b c n : Nat} (hA : A = (some a, some b)) (hg : Good a b) (hP : P 0 = (some 4607182418800017408, some 0)) (hn : 0 < n) :
    (eqF (lineV A P c n c).1 (some 0) && eqF (lineV A P c n c).2 (some 0)) = false := by
  have q : BC2 (P 0) 2 := by rw [hP]; exact good_bc good_plus
  unfold lineV
  rw [if_pos (by omega), Nat.sub_self, hP, hA]
  have bg := good_bc hg
  have one : ∀ {y : Nat}, BN (some y) 2 → ∃ r, bin .mul (some y) (some 4607182418800017408) = some r ∧ Fnt r ∧ val r = val y := by
    intro y hy
    obtain ⟨y', e, fy, y1, y2⟩ := hy
    cases e
    have e2 : ((2 : Nat) : Rat) = 2 := rfl
    rw [e2] at y1 y2
    obtain ⟨r, hr⟩ := bin_some_mul fy fone.1
    have e : val y * val 4607182418800017408 = val y := by rw [fone.2]; grind
    obtain ⟨g1, g2⟩ := big2 y1 y2
    obtain ⟨fr, _⟩ := mul_near fy fone.1 hr (B := 2) (by rw [e]; exact y1) (by rw [e]; exact y2) (big2 (v := 2) (by grind) (by grind)).1
    have m := mul_mono fy fone.1 hr (by rw [e]; exact g1) (by rw [e]; exact g2) (z := y)
    rw [e] at m
    exact ⟨r, hr, fr, Rat.le_antisymm (m.1 Rat.le_refl) (m.2 Rat.le_refl)⟩
  have nul : ∀ {y : Nat}, BN (some y) 2 → ∃ r, bin .mul (some y) (some 0) = some r ∧ Fnt r ∧ val r = 0 := fun hy => bn_val (hy.mul bn_zero (by omega) (by omega))
  obtain ⟨p1, e1, f1, v1⟩ := one bg.1
  obtain ⟨p2, e2, f2, v2⟩ := nul bg.2
  obtain ⟨p3, e3, f3, v3⟩ := nul bg.1
  obtain ⟨p4, e4, f4, v4⟩ := one bg.2
  obtain ⟨a', ea, _, a1, a2⟩ := bg.1
  cases ea
  obtain ⟨b', eb, _, b1, b2⟩ := bg.2
  cases eb
  have e22 : ((2 : Nat) : Rat) = 2 := rfl
  rw [e22] at a1 a2 b1 b2
  obtain ⟨r1, k1, g1, w1⟩ := sub_v f1 f2 (z := a) (by rw [v1, v2]; grind) a1 a2
  obtain ⟨r2, k2, g2, w2⟩ := add_v f3 f4 (z := b) (by rw [v3, v4]; grind) b1 b2
  obtain ⟨s1, l1, m1, u1⟩ := add_v fzero.1 g1 (z := a) (by rw [fzero.2, w1]; grind) a1 a2
  obtain ⟨s2, l2, m2, u2⟩ := add_v fzero.1 g2 (z := b) (by rw [fzero.2, w2]; grind) b1 b2
  have hv : addC (some 0, some 0) (mulC (some a, some b) (some 4607182418800017408, some 0)) = (some s1, some s2) := by
    unfold addC mulC mulR mulI
    simp only [e1, e2, e3, e4, k1, k2, l1, l2]
  rw [hv]
  simp only []
  have z0 : (some 0 : Option Nat) = ab 0 := by decide +kernel
  rw [z0, ← Fnt.ab m1, ← Fnt.ab m2, eqF_val m1 fzero.1, eqF_val m2 fzero.1, u1, u2, fzero.2]
  rcases Decidable.em (val a = 0) with h | h
  · rcases Decidable.em (val b = 0) with h' | h'
    · exfalso
      have := hg.near.2
      rw [h, h'] at this
      have hu : u53 ≤ 1 / 1000 := by decide +kernel
      grind
    · simp [h']
  · simp [h]
/-- The codes: how long, and what comes first. -/
def codeAll (n : Nat) : Bool := codeE n == 0 && decide (1 ≤ (codeL n).length) && decide ((codeL n).length ≤ 160) && (codeL n)[0]? == some (some 4607182418800017408, some 0)
theorem code_all : ∀ n, n < 13 → codeAll n = true := by decide +kernel
theorem code_is {n : Nat} (h : n < 13) : codeE n = 0 ∧ 1 ≤ (codeL n).length ∧ (codeL n).length ≤ 160 ∧ (codeL n)[0]? = some (some 4607182418800017408, some 0) := by
  have := code_all n h
  simp only [codeAll, Bool.and_eq_true, beq_iff_eq, decide_eq_true_eq] at this
  exact ⟨this.1.1.1, this.1.1.2, this.1.2, this.2⟩
end Go.Proofs.Ythifemkbemhmnaa
