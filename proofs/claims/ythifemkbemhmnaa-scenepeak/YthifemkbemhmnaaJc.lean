/- ScenePeak, its echo as numbers. -/
import Derived.Test.YthifemkbemhmnaaJb
import Derived.Test.YthifemkbemhmnaaDa
namespace Go.Proofs.Ythifemkbemhmnaa
open Go.ChangeShapes Go.WideShapes Go.ChangeAt Go.RowKit Go.Fl Ieee

/-- So many quarters. -/
def quF (z : Int) : Option Nat := bin .quo (ab (floatOfInt .f64 z)) (ab 4616189618054758400)
def farAll (d : Nat) : Bool :=
  ab (floatOfInt .f64 (d : Int)) == some (floatOfInt .f64 (d : Int)) && bin .add (some (floatOfInt .f64 (d : Int))) (some 0) == some (floatOfInt .f64 (d : Int)) && bin .add (some (floatOfInt .f64 (d : Int))) (some 9223372036854775808) == some (floatOfInt .f64 (d : Int))
  && dF (some (floatOfInt .f64 (d : Int))) (ab 4607182418800017408) == some (floatOfInt .f64 (d : Int)) && heardF (some (floatOfInt .f64 (d : Int))) (some (floatOfInt .f64 (d : Int))) && intD (some (floatOfInt .f64 (d : Int))) == d
  && bin .quo (bin .mul (ab 4611686018427387904) (some (floatOfInt .f64 (d : Int)))) (ab 4620693217682128896) == quF d && fin (some (floatOfInt .f64 (d : Int))) && bin .sub (quF d) (quF d) == some 0
theorem far_all : ∀ d, d < 300 → farAll d = true := by decide +kernel
structure FarN (d : Nat) : Prop where
  num : ab (floatOfInt .f64 (d : Int)) = some (floatOfInt .f64 (d : Int))
  add0 : bin .add (some (floatOfInt .f64 (d : Int))) (some 0) = some (floatOfInt .f64 (d : Int))
  add1 : bin .add (some (floatOfInt .f64 (d : Int))) (some 9223372036854775808) = some (floatOfInt .f64 (d : Int))
  cells : dF (some (floatOfInt .f64 (d : Int))) (ab 4607182418800017408) = some (floatOfInt .f64 (d : Int))
  heard : heardF (some (floatOfInt .f64 (d : Int))) (some (floatOfInt .f64 (d : Int))) = true
  int : intD (some (floatOfInt .f64 (d : Int))) = d
  waves : bin .quo (bin .mul (ab 4611686018427387904) (some (floatOfInt .f64 (d : Int)))) (ab 4620693217682128896) = quF d
  fin : fin (some (floatOfInt .f64 (d : Int))) = true
  same : bin .sub (quF d) (quF d) = some 0
theorem far_of {d : Nat} (h : d < 300) : FarN d := by
  have := far_all d h
  simp only [farAll, Bool.and_eq_true, beq_iff_eq] at this
  obtain ⟨⟨⟨⟨⟨⟨⟨⟨a, b⟩, b'⟩, c⟩, d⟩, e⟩, f⟩, g⟩, i⟩ := this
  exact ⟨a, b, b', c, d, e, f, g, i⟩
theorem big250 : (250 : Rat) ≤ pw 1000 := by
  have d := pw_mono (show (8 : Int) ≤ 1000 by omega)
  have e0 : pw 8 = 256 := by decide +kernel
  generalize pw 1000 = W at *
  grind
theorem quo_lt {x y r : Nat} (hx : Fnt x) (hy : Fnt y) (h0 : val y ≠ 0) (h : bin .quo (some x) (some y) = some r) : r < 2 ^ 64 := by
  obtain ⟨s, a, i, ex⟩ := fin_read hx
  obtain ⟨t, b, j, ey⟩ := fin_read hy
  have vm := val_read ey
  have hb : b ≠ 0 := by
    intro hz
    subst hz
    have : dv t 0 j = 0 := by cases t <;> simp [dv, sgn]
    exact h0 (vm.trans this)
  have h2 : double.div x y = some r := h
  unfold Format.div at h2
  rw [ex, ey] at h2
  simp only [Datum.quotient, if_neg hb, Option.map_some, Option.some.injEq] at h2
  rw [← h2]
  exact write_lt _ _ _
theorem time_q {z : Nat} (hz : z ≤ 1800) : ∃ q, bin .quo (ab (floatOfInt .f64 (z : Int))) (ab 4652007308841189376) = some q ∧ Fnt q ∧ val q ≤ 4 ∧ -4 ≤ val q := by
  obtain ⟨f1, v1⟩ := int_val (K := z) (by omega)
  have f2 : Fnt 4652007308841189376 ∧ val 4652007308841189376 = 1000 := ⟨by unfold Fnt; decide, by decide +kernel⟩
  have hz0 : (0 : Rat) ≤ (z : Rat) := Rat.natCast_nonneg
  have hz1 : (z : Rat) ≤ 1800 := by
    have : (z : Rat) ≤ ((1800 : Nat) : Rat) := Rat.natCast_le_natCast.2 hz
    exact this
  obtain ⟨q, hq, _, _⟩ := quo_nn f1 f2.1 (by rw [v1]; exact hz0) (by rw [f2.2]; decide +kernel)
  obtain ⟨q1, q2, q3⟩ := quo_near f1 f2.1 (by rw [v1]; exact hz0) (by rw [f2.2]; decide +kernel) hq (κ := (z : Rat) * (1 / 1000)) (B := 2) (by rw [v1, f2.2]; grind) (by grind) (by
    have := pw_mono (show (1 : Int) ≤ 990 by omega)
    have e : pw 1 = 2 := by decide +kernel
    generalize pw 990 = W at *
    grind)
  refine ⟨q, by rw [Fnt.ab f1, Fnt.ab f2.1]; exact hq, q1, ?_⟩
  have hη := eta_le
  have hh : h80 ≤ 1 := by decide +kernel
  have hu2 : pw (-52) ≤ 1 / 1000000000 := by decide +kernel
  have hu3 : 0 ≤ pw (-52) := Rat.le_of_lt (pw_pos _)
  obtain ⟨q21, q22⟩ := q2
  generalize pw (-1075) = η at *
  generalize pw (-52) = U at *
  constructor <;> grind
theorem peak_r {d E R T q p : Nat} (hd : d < 300) (hp : p * E ≤ 1800) : rowR ⟨4607182418800017408, 4620693217682128896, 4652007308841189376, E, R⟩ ⟨floatOfInt .f64 (d : Int), 0, 4607182418800017408, T, q⟩ 4613937818241073152 p = some (floatOfInt .f64 (d : Int)) := by
  have M := far_of hd
  unfold rowR rF atF
  simp only []
  have e3 : ab 0 = some 0 := by decide +kernel
  obtain ⟨q, hq, fq, q1, q2⟩ := time_q hp
  have f3 : Fnt 4613937818241073152 := by unfold Fnt; decide
  obtain ⟨y, hy, fy⟩ := add_fin f3 fq q1 q2
  rw [← Int.natCast_mul, e3, hq, Fnt.ab f3, hy, M.num]
  rcases zero_times fy with h | h <;> rw [h]
  · exact M.add0
  · exact M.add1
theorem peak_d {d E R T q p : Nat} (hd : d < 300) (hp : p * E ≤ 1800) : rowD ⟨4607182418800017408, 4620693217682128896, 4652007308841189376, E, R⟩ ⟨floatOfInt .f64 (d : Int), 0, 4607182418800017408, T, q⟩ 4613937818241073152 p = some (floatOfInt .f64 (d : Int)) := by
  unfold rowD
  rw [peak_r hd hp]
  exact (far_of hd).cells
/-- A quarter's turns, as numbers and as whole ones. -/
def unA (z : Int) : Int := if z % 4 = 0 then 1 else if z % 4 = 2 then -1 else 0
def unB (z : Int) : Int := if z % 4 = 1 then 1 else if z % 4 = 3 then -1 else 0
def unF (a : Int) : Option Nat := if a = 1 then some 4607182418800017408 else if a = -1 then some 13830554455654793216 else some 0
theorem un_is (z : Int) : Un (unA z) (unB z) := by
  have h : z % 4 = 0 ∨ z % 4 = 1 ∨ z % 4 = 2 ∨ z % 4 = 3 := by omega
  unfold unA unB
  rcases h with h | h | h | h <;> rw [h] <;> exact ⟨by decide, by decide, by decide⟩
theorem unF_wh {a : Int} (h : -1 ≤ a ∧ a ≤ 1) : WH (unF a) a := by
  rcases tri h with e | e | e <;> subst e
  · exact WH.mone
  · exact WH.zero
  · exact WH.one
def wrapQ (z : Int) : Option Nat := if z % 4 = 0 then some 0 else if z % 4 = 1 then some 4598175219545276416 else if z % 4 = 2 then some 13826050856027422720 else some 13821547256400052224
def turnAll (j : Nat) : Bool := fin (quF ((j : Int) - 430)) && wrapF (quF ((j : Int) - 430)) == wrapQ ((j : Int) - 430)
set_option maxHeartbeats 1000000 in
theorem turn_all : ∀ j, j < 560 → turnAll j = true := by decide +kernel
def pointAll (j : Nat) : Bool := bin .mul (pointC (wrapQ j)) (ab 4607182418800017408) == unF (unA j) && bin .mul (pointS (wrapQ j)) (ab 4607182418800017408) == unF (unB j)
theorem point_all : ∀ j, j < 4 → pointAll j = true := by decide +kernel
theorem turn_un {z : Int} (h1 : -430 ≤ z) (h2 : z < 130) : bin .mul (turnC (quF z)) (ab 4607182418800017408) = unF (unA z) ∧ bin .mul (turnS (quF z)) (ab 4607182418800017408) = unF (unB z) := by
  have k := turn_all (z + 430).toNat (by omega)
  unfold turnAll at k
  rw [show (((z + 430).toNat : Nat) : Int) - 430 = z by omega] at k
  simp only [Bool.and_eq_true, beq_iff_eq] at k
  have q := point_all (z % 4).toNat (by omega)
  unfold pointAll at q
  rw [show (((z % 4).toNat : Nat) : Int) = z % 4 by omega] at q
  have e1 : wrapQ (z % 4) = wrapQ z := by unfold wrapQ; rw [Int.emod_emod]
  have e2 : unA (z % 4) = unA z := by unfold unA; rw [Int.emod_emod]
  have e3 : unB (z % 4) = unB z := by unfold unB; rw [Int.emod_emod]
  rw [e1, e2, e3] at q
  simp only [Bool.and_eq_true, beq_iff_eq] at q
  unfold turnC turnS
  rw [if_pos k.1, if_pos k.1, k.2]
  exact q
theorem int_abs {z : Int} : (z : Rat) * pw (-2) = dv (decide (z < 0)) z.natAbs (-2) := by
  by_cases hz : z < 0
  · rw [decide_eq_true hz, dv_true]
    have e : z = -((z.natAbs : Nat) : Int) := by omega
    have : (z : Rat) = -((z.natAbs : Nat) : Rat) := by
      rw [← Rat.intCast_natCast, ← Rat.intCast_neg, ← e]
    rw [this]; grind
  · rw [decide_eq_false hz, dv_false]
    have e : z = ((z.natAbs : Nat) : Int) := by omega
    have : (z : Rat) = ((z.natAbs : Nat) : Rat) := by
      rw [← Rat.intCast_natCast, ← e]
    rw [this]
/-- Quarters are exact. -/
theorem qu_val {z : Int} (h1 : -1000 ≤ z) (h2 : z ≤ 1000) : ∃ x, quF z = some x ∧ Fnt x ∧ val x = (z : Rat) * pw (-2) ∧ x < 2 ^ 64 := by
  obtain ⟨f, v⟩ := whole_val0 (z := z) (by unfold P53; omega) (by unfold P53; omega)
  have hr : double.read 4616189618054758400 = .number false 4503599627370496 (-50) := by decide +kernel
  have hb : ((z.natAbs : Nat) : Rat) * pw (-2) ≤ pw 1000 := by
    have a : ((z.natAbs : Nat) : Rat) ≤ ((1000 : Nat) : Rat) := Rat.natCast_le_natCast.2 (by omega)
    have b : ((1000 : Nat) : Rat) * pw (-2) = 250 := by decide +kernel
    have c := Rat.mul_le_mul_of_nonneg_right a (Rat.le_of_lt (pw_pos (-2)))
    rw [b] at c
    exact Rat.le_trans c big250
  obtain ⟨fz, vz⟩ := exact_write (decide (z < 0)) (K := z.natAbs) (e := -2) (by omega) (by omega) hb
  have hv : val (double.write (.number (decide (z < 0)) z.natAbs (-2))) = (z : Rat) * pw (-2) := by
    rw [vz, int_abs]
  have hbd : -pw 1000 ≤ (z : Rat) * pw (-2) ∧ (z : Rat) * pw (-2) ≤ pw 1000 := by
    have p0 : 0 ≤ ((z.natAbs : Nat) : Rat) * pw (-2) := Rat.mul_nonneg Rat.natCast_nonneg (Rat.le_of_lt (pw_pos _))
    have p1 := pw_pos 1000
    rw [int_abs]
    generalize pw 1000 = W at *
    cases decide (z < 0)
    · rw [dv_false]; constructor <;> grind
    · rw [dv_true]; constructor <;> grind
  obtain ⟨r, g1, g2, g3⟩ := quo_pow (x := floatOfInt .f64 z) (y := double.write (.number (decide (z < 0)) z.natAbs (-2))) hr f (by rw [hv]; exact hbd) (by rw [hv, v]; rfl)
  have e : quF z = some r := by
    unfold quF
    rw [Fnt.ab f, show ab 4616189618054758400 = some 4616189618054758400 by decide +kernel]; exact g1
  refine ⟨r, e, g2, by rw [g3, hv], ?_⟩
  have f4 : Fnt 4616189618054758400 ∧ val 4616189618054758400 ≠ 0 := ⟨by unfold Fnt; decide, by decide +kernel⟩
  exact quo_lt f f4.1 f4.2 g1
theorem qu_sub {q : Int} {d : Nat} (hd : d < 300) (h1 : -128 ≤ q) (h2 : q ≤ 127) : bin .sub (quF q) (quF d) = quF (q - d) := by
  by_cases e : q = d
  · subst e
    rw [(far_of hd).same, Int.sub_self]
    decide +kernel
  · obtain ⟨x, ex, fx, vx, _⟩ := qu_val (z := q) (by omega) (by omega)
    obtain ⟨y, ey, fy, vy, _⟩ := qu_val (z := (d : Int)) (by omega) (by omega)
    obtain ⟨u, eu, fu, vu, lu⟩ := qu_val (z := q - d) (by omega) (by omega)
    have hz : val x - val y = ((q - d : Int) : Rat) * pw (-2) := by rw [vx, vy, Rat.intCast_sub]; grind
    have hn : ((q - d : Int) : Rat) * pw (-2) = dv (decide (q - d < 0)) (q - d).natAbs (-2) := int_abs
    obtain ⟨r, hr, fr, vr, lr⟩ := sub_exact (s := decide (q - d < 0)) (K := (q - d).natAbs) (e := -2) fx fy (by omega) (by omega) (by
      have a : (((q - d).natAbs : Nat) : Rat) ≤ ((1000 : Nat) : Rat) := Rat.natCast_le_natCast.2 (by omega)
      have b : ((1000 : Nat) : Rat) * pw (-2) = 250 := by decide +kernel
      have c := Rat.mul_le_mul_of_nonneg_right a (Rat.le_of_lt (pw_pos (-2)))
      rw [b] at c
      exact Rat.le_trans c big250) (by rw [hz, hn])
    rw [ex, ey, eu, hr]
    have hne : ((q - d : Int) : Rat) * pw (-2) ≠ 0 := by
      intro h0
      have hp := pw_pos (-2)
      rcases Rat.mul_eq_zero.1 h0 with h | h
      · have : ((q - d : Int) : Rat) = ((0 : Int) : Rat) := h
        exact e (by have := Rat.intCast_inj.1 this; omega)
      · grind
    rw [val_inj fr fu lr lu (by rw [vr, vu, hn]) (by rw [vr, ← hn]; exact hne)]
/-- What the pulse is multiplied by. -/
theorem peak_a {d E R T q p : Nat} {z : Int} (hd : d < 300) (hp : p * E ≤ 1800) (h1 : -128 ≤ z) (h2 : z ≤ 127) (hT : quF z = some T) :
    rowA ⟨4607182418800017408, 4620693217682128896, 4652007308841189376, E, R⟩ ⟨floatOfInt .f64 (d : Int), 0, 4607182418800017408, T, q⟩ 4613937818241073152 p = (unF (unA (z - d)), unF (unB (z - d))) := by
  have M := far_of hd
  obtain ⟨x, ex, fx, _, _⟩ := qu_val (z := z) (by omega) (by omega)
  rw [hT] at ex
  cases ex
  unfold rowA ampF
  rw [peak_r hd hp]
  simp only []
  have ph : phaseF (ab T) (some (floatOfInt .f64 (d : Int))) (ab 4620693217682128896) = quF (z - d) := by
    unfold phaseF
    rw [M.waves, Fnt.ab fx, ← hT]
    exact qu_sub hd h1 h2
  rw [ph]
  have k := turn_un (z := z - d) (by omega) (by omega)
  rw [k.1, k.2]
/-- Echo of the whole pulse. -/
theorem echo_peak {w : World} {d n E R T pg cap : Nat} {z : Int} {fp : Nat → Nat × Nat} (hd : d < 300) (h1 : -128 ≤ z) (h2 : z ≤ 127) (hT : quF z = some T) (hn1 : 1 ≤ n) (hn : n ≤ 60) (hE : d + n ≤ E) (hE2 : E ≤ 300) (hR1 : 1 ≤ R) (hR : R ≤ 6) (hp : RD w pg 0 n fp) :
    Calls Try.prog 7 #[.agg #[.float .f64 4607182418800017408, .float .f64 4620693217682128896, .float .f64 4652007308841189376, .int .i64 (E : Int), .int .i64 (R : Int)], .slice (some ⟨pg, 0, none⟩) n cap, .agg #[.float .f64 (floatOfInt .f64 (d : Int)), .float .f64 0, .float .f64 4607182418800017408, .float .f64 T, .float .f64 0], .float .f64 4613937818241073152] w (OKT w R E (fun _ g => lineV (unF (unA (z - d)), unF (unB (z - d))) (fun i => ab2 (fp i)) d n g)) := by
  obtain ⟨T', e, fT, _, _⟩ := qu_val (z := z) (by omega) (by omega)
  rw [hT] at e
  cases e
  have M := far_of hd
  have hRE : R * E ≤ 1800 := Nat.le_trans (Nat.mul_le_mul hR hE2) (by omega)
  have hRn : R * n ≤ 640 := Nat.le_trans (Nat.mul_le_mul hR hn) (by omega)
  have g1 : goodF (ab 4607182418800017408) = true ∧ goodF (ab 4620693217682128896) = true ∧ goodF (ab 4652007308841189376) = true := by decide +kernel
  have h0 : checkF (ab 4607182418800017408) (ab 4620693217682128896) (ab 4652007308841189376) (E : Int) (R : Int) = 0 := by
    unfold checkF
    have e : (E : Int) * (R : Int) = ((R * E : Nat) : Int) := by rw [Int.natCast_mul, Int.mul_comm]
    rw [if_pos ⟨g1.1, g1.2.1, g1.2.2, by omega, by omega, by omega, by omega⟩, if_neg (by omega)]
  have key := ech_ok (w := w) (cc := 4607182418800017408) (vv := 4620693217682128896) (rr := 4652007308841189376) (n := n) (pc := cap) (tm := 4613937818241073152) (E := E) (R := R) (N := R * E) (pg := pg) (po := 0) (r := floatOfInt .f64 (d : Int)) (s := 0) (a := 4607182418800017408) (t := T) (q := 0) (fp := fp) h0 rfl hn1 (by
    unfold muchF
    rw [Nat.one_mul, decide_eq_false (show ¬ 256 < 1 by omega), decide_eq_false (show ¬ 16384 < n by omega), decide_eq_false (show ¬ 16777216 < R * n by omega)]
    rfl) (by decide +kernel) (by
    have f1 : fin (ab (floatOfInt .f64 (d : Int))) = true := by rw [M.num]; exact M.fin
    have f2 := fin_of fT
    have f3 : fin (ab 0) = true ∧ fin (ab 4607182418800017408) = true := by decide +kernel
    unfold finT fin4F
    simp only [f1, f2, f3.1, f3.2]; rfl) hp
  refine key.mono fun e w' h => ?_
  obtain ⟨A, B, dd, he, k1, k2⟩ := h
  refine ⟨A, B, dd, he, k1, fun p hp' g hg => ?_⟩
  rw [k2.out p hp' g hg]
  have hm : ∀ p, p < R → p * E ≤ 1800 := fun p hpR => Nat.le_trans (Nat.mul_le_mul_right E (Nat.le_of_lt hpR)) hRE
  have := echo_line (b := ⟨4607182418800017408, 4620693217682128896, 4652007308841189376, E, R⟩) (t := ⟨floatOfInt .f64 (d : Int), 0, 4607182418800017408, T, 0⟩) (tm := 4613937818241073152) (n := n) (N := R * E) (c := d) (P := fun i => ab2 (fp i)) (A := (unF (unA (z - d)), unF (unB (z - d))))
    (fun p h => by rw [peak_r hd (hm p h), peak_d hd (hm p h)]; exact M.heard) (fun p h => by rw [peak_d hd (hm p h)]; exact M.int) (fun p h => peak_a hd (hm p h) h1 h2 hT) rfl hE R (Nat.le_refl _) p g hg
  rw [if_pos hp'] at this
  exact this
end Go.Proofs.Ythifemkbemhmnaa
