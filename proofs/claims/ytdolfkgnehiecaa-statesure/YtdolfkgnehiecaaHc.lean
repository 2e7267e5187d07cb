/- The floats that Ahead makes of a sure state, each finite, with their errors. -/
import Derived.Test.YtdolfkgnehiecaaHb
import Derived.Test.YtdolfkgnehiecaaCa
namespace Go.Proofs.Ytdolfkgnehiecaa
open Go.Fl Ieee Go.RowKit

theorem U_is : U = pw (-52) := by decide +kernel
theorem uu : u52 = U := rfl
theorem h53 : pw (-53) = U / 2 := pw53_is
/-- Finite, and of a magnitude of at most 2^N. -/
structure BN (x : Nat) (N : Int) : Prop where
  f : Fnt x
  hi : val x ≤ pw N
  lo : -pw N ≤ val x
theorem BN.mono {x : Nat} {N M : Int} (h : BN x N) (k : N ≤ M) : BN x M := by
  have := pw_mono k
  exact ⟨h.f, Rat.le_trans h.hi this, by have := h.lo; grind⟩
theorem pw_two (N : Int) : pw (N + 1) = 2 * pw N := by rw [pw_add, show pw 1 = 2 by decide +kernel, Rat.mul_comm]
theorem BN.add {x y r : Nat} {N : Int} (hx : BN x N) (hy : BN y N) (hN : N ≤ 900) (h : bin .add (some x) (some y) = some r) : BN r (N + 2) := by
  have hp := pw_pos N
  have e1 := pw_two N
  have e2 := pw_two (N + 1)
  rw [show N + 1 + 1 = N + 2 by omega] at e2
  have a := hx.hi
  have b := hx.lo
  have c := hy.hi
  have d := hy.lo
  obtain ⟨f, n1, n2⟩ := add_near hx.f hy.f h (B := pw (N + 1)) (by grind) (by grind) (pw_mono (by omega))
  rw [h53] at n1 n2
  exact ⟨f, by grind, by grind⟩
theorem BN.mul {x y r : Nat} {N M : Int} (hx : BN x N) (hy : BN y M) (h0 : -1000 ≤ N + M) (hN : N + M ≤ 900) (h : bin .mul (some x) (some y) = some r) : BN r (N + M + 1) := by
  have hp := pw_pos (N + M)
  have e1 := pw_two (N + M)
  have e := prod_le hx.hi hx.lo hy.hi hy.lo
  rw [← pw_add] at e
  obtain ⟨f, n1, n2⟩ := mul_near hx.f hy.f h (B := pw (N + M)) e.1 e.2 (pw_mono (by omega))
  rw [h53] at n1 n2
  have k : pw (-1075) ≤ pw (N + M) / 2 := by
    have := pw_mono (show (-1075 : Int) ≤ N + M - 1 by omega)
    have e3 := pw_two (N + M - 1)
    rw [show N + M - 1 + 1 = N + M by omega] at e3
    grind
  exact ⟨f, by grind, by grind⟩
theorem three_fnt : Fnt 4613937818241073152 := by unfold Fnt; decide
theorem three_val : val 4613937818241073152 = 3 := by decide +kernel
theorem two_fnt : Fnt 4611686018427387904 := by unfold Fnt; decide
theorem two_val' : val 4611686018427387904 = 2 := by decide +kernel
/-- What is asked of a state and a step. -/
structure Pre (a b c t q : Nat) : Prop where
  fa : Fnt a
  fb : Fnt b
  fc : Fnt c
  ft : Fnt t
  fq : Fnt q
  a1 : pw (-100) ≤ val a
  a2 : val a ≤ pw 100
  c1 : pw (-100) ≤ val c
  c2 : val c ≤ pw 100
  t1 : pw (-20) ≤ val t
  t2 : val t ≤ pw 20
  q1 : val q = 0 ∨ pw (-100) ≤ val q
  q2 : val q ≤ pw 100
  det : val b * val b ≤ val a * val c
theorem Pre.bB {a b c t q : Nat} (h : Pre a b c t q) : BN b 100 := by
  have ha := pw_pos (-100)
  have := l_B (M := pw 100) (by have := h.a1; grind) (by have := h.c1; grind) h.det h.a2 h.c2
  exact ⟨h.fb, this.1, this.2⟩
theorem pos_BN {x : Nat} {N : Int} {l : Int} (f : Fnt x) (h1 : pw l ≤ val x) (h2 : val x ≤ pw N) : BN x N := ⟨f, h2, by have := pw_pos l; have := pw_pos N; grind⟩
theorem Pre.aB {a b c t q : Nat} (h : Pre a b c t q) : BN a 100 := pos_BN h.fa h.a1 h.a2
theorem Pre.cB {a b c t q : Nat} (h : Pre a b c t q) : BN c 100 := pos_BN h.fc h.c1 h.c2
theorem Pre.tB {a b c t q : Nat} (h : Pre a b c t q) : BN t 20 := pos_BN h.ft h.t1 h.t2
theorem Pre.q0 {a b c t q : Nat} (h : Pre a b c t q) : 0 ≤ val q := by
  rcases h.q1 with k | k
  · rw [k]; exact Rat.le_refl
  · have := pw_pos (-100); grind
theorem Pre.qB {a b c t q : Nat} (h : Pre a b c t q) : BN q 100 := ⟨h.fq, h.q2, by have := h.q0; have := pw_pos 100; grind⟩
/-- A product with what is not too small. -/
theorem prod_low {x y : Rat} {l k : Int} (hx : pw l ≤ x) (hy : pw k ≤ y) : pw (l + k) ≤ x * y := by
  rw [pw_add]
  have a := pw_pos l
  have b := pw_pos k
  have := Rat.mul_nonneg (show 0 ≤ x - pw l by grind) (show 0 ≤ y by grind)
  have := Rat.mul_nonneg (show 0 ≤ pw l by grind) (show 0 ≤ y - pw k by grind)
  grind
theorem quoN {x y : Nat} (hx : Fnt x) (hy : Fnt y) (hx0 : 0 ≤ val x) (hy0 : 0 < val y) {κ : Rat} (hκ : κ * val y = val x) (hB : κ ≤ pw 900) : ∃ r, bin .quo (some x) (some y) = some r ∧ Fnt r ∧ Off (val r) κ (U * κ + eta) ∧ 0 ≤ val r := by
  obtain ⟨r, hr⟩ := quo_some_pos hx.num hy hy0
  obtain ⟨f, n, p⟩ := quo_near hx hy hx0 hy0 hr hκ Rat.le_refl (Rat.le_trans hB (pw_mono (by omega)))
  rw [← U_is] at n
  exact ⟨r, hr, f, n, p⟩
/-- What is reckoned on the way. -/
structure Way (a b c t q : Nat) (p1 p2 pt k kt q3 hf th S1 S2 S3 raw R Bp Cp : Nat) : Prop where
  e1 : bin .mul (some b) (some t) = some p1
  e2 : bin .mul (some c) (some t) = some p2
  e3 : bin .mul (some p2) (some t) = some pt
  e4 : bin .mul (some q) (some t) = some k
  e5 : bin .mul (some k) (some t) = some kt
  e6 : bin .mul (some kt) (some t) = some q3
  e7 : bin .quo (some kt) (some 4611686018427387904) = some hf
  e8 : bin .quo (some q3) (some 4613937818241073152) = some th
  e9 : bin .add (some a) (some p1) = some S1
  e10 : bin .add (some S1) (some p1) = some S2
  e11 : bin .add (some S2) (some pt) = some S3
  e12 : bin .add (some S3) (some th) = some raw
  e13 : bin .add (some b) (some p2) = some R
  e14 : bin .add (some R) (some hf) = some Bp
  e15 : bin .add (some c) (some k) = some Cp
  b1 : BN p1 121
  b2 : BN p2 121
  b3 : BN pt 142
  bh : BN hf 170
  bt : BN th 190
  bS1 : BN S1 130
  bS2 : BN S2 140
  bS3 : BN S3 160
  braw : BN raw 200
  bR : BN R 140
  bB : BN Bp 180
  bC : BN Cp 140
  fk : Fnt k
  o2 : Off (val p2) (val c * val t) (U * (val c * val t))
  o3 : Off (val pt) (val c * val t * val t) (3 * U * (val c * val t * val t))
  o4 : Off (val k) (val q * val t) (U * (val q * val t))
  o5 : Off (val kt) (val q * val t * val t) (3 * U * (val q * val t * val t))
  o6 : Off (val q3) (val q * val t * val t * val t) (5 * U * (val q * val t * val t * val t))
  o7 : Off (val hf) (val kt / 2) (U * (val kt / 2) + eta)
  o8 : Off (val th) (val q3 / 3) (U * (val q3 / 3) + eta)
  n8 : 0 ≤ val th
  n4 : 0 ≤ val k
  n15 : 0 ≤ val Cp
end Go.Proofs.Ytdolfkgnehiecaa
