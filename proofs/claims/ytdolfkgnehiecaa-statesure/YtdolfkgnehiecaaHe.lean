/- A sure state stays a sure one, but for roundings: of the floats. -/
import Derived.Test.YtdolfkgnehiecaaHd
namespace Go.Proofs.Ytdolfkgnehiecaa
open Go.Fl Ieee Go.RowKit

theorem sum_off {x y r : Nat} (hx : Fnt x) (hy : Fnt y) (h : bin .add (some x) (some y) = some r) {m : Rat} (hm : m ≤ pw 330) (h1 : val x + val y ≤ 8 * m) (h2 : -(8 * m) ≤ val x + val y) : Off (val r) (val x + val y) (U / 2 * (8 * m)) := by
  have e : 8 * pw 330 ≤ pw 1000 := by
    have e1 : pw 333 = 8 * pw 330 := by rw [show (333 : Int) = 330 + 3 by omega, pw_add, show pw 3 = 8 by decide +kernel, Rat.mul_comm]
    rw [← e1]
    exact pw_mono (by omega)
  have n := (add_near hx hy h h1 h2 (by grind)).2
  rw [h53] at n
  exact n
/-- What m is held against. -/
structure Most (a b c t : Nat) (A' Cp : Rat) (tt g3 g2 g1 : Nat) (m : Rat) : Prop where
  m1 : val a ≤ m
  m2 : A' ≤ m
  m3 : Cp ≤ m
  m4 : val g3 ≤ m
  m5 : val g2 ≤ m
  m6 : val g1 ≤ m
  hm : m ≤ pw 330
  ett : bin .mul (some t) (some t) = some tt
  eg3 : bin .mul (some tt) (some c) = some g3
  eg2 : bin .mul (some t) (some c) = some g2
  eg1 : bin .mul (some t) (some (Go.Fl.abs b)) = some g1
theorem bin_inj {o : Option Nat} {x y : Nat} (h : o = some x) (k : o = some y) : x = y := Option.some.inj (h.symm.trans k)
theorem absR_mul {B t : Rat} (ht : 0 ≤ t) : B * t ≤ t * absR B ∧ -(t * absR B) ≤ B * t := by
  have h := absR_le B
  have a := Rat.mul_le_mul_of_nonneg_left h.1 ht
  have b := Rat.mul_le_mul_of_nonneg_left h.2.1 ht
  constructor <;> grind
theorem l_f1 {P X : Rat} (h1 : 0 ≤ P) (h2 : 0 ≤ X) : 0 ≤ P + X / 3 := by grind
theorem l_f2 {P X : Rat} (h1 : 0 ≤ P) (h2 : 0 ≤ X) : 0 ≤ P + X := by grind
theorem l_f3 {P r A E : Rat} (h : P ≤ r + E) (k : r ≤ A) : P ≤ A + E := by grind
theorem l_f5 {B C Y m : Rat} (h1 : B ≤ 1001 / 1000 * m) (h2 : C ≤ 1001 / 1000 * m) (h3 : Y / 2 ≤ 1003 / 1000 * m) (hm : 0 < m) : B + C + Y / 2 ≤ 4 * m := by grind
theorem l_f6 {B C Y m : Rat} (h1 : -(1001 / 1000 * m) ≤ B) (h2 : 0 ≤ C) (h3 : 0 ≤ Y) (hm : 0 < m) : -(4 * m) ≤ B + C + Y / 2 := by grind
theorem l_f7 {P r A m : Rat} (h : P ≤ r + 33 * U * m) (k : r ≤ A) (l : A ≤ m) (hm : 0 < m) : P ≤ 2 * m := by grind
theorem l_f8 {P r m : Rat} (h : P ≤ r + 2 * U * m) (l : r ≤ m) (hm : 0 < m) : P ≤ 2 * m := by grind
theorem sure2 {a b c t q p1 p2 pt k kt q3 hf th S1 S2 S3 raw R Bp Cp tt g3 g2 g1 : Nat} {A' m : Rat} (P : Pre a b c t q) (W : Way a b c t q p1 p2 pt k kt q3 hf th S1 S2 S3 raw R Bp Cp) (M : Most a b c t A' (val Cp) tt g3 g2 g1 m) (hr : val raw ≤ A') (hA0 : 0 ≤ A') :
    0 < m ∧ (val Bp * val Bp ≤ A' * val Cp + 300 * U * (m * m) ∧ val Bp ≤ 5 * m ∧ -(5 * m) ≤ val Bp) := by
  have ha := P.a1
  have hc := P.c1
  have htl := P.t1
  have pa := pw_pos (-100)
  have pt20 := pw_pos (-20)
  have hm : 0 < m := by have := M.m1; grind
  have hη : eta ≤ U * m := by
    have e1 : eta ≤ U * pw (-100) := by
      rw [U_is, ← pw_add]
      exact pw_mono (by omega)
    have e2 := Rat.mul_le_mul_of_nonneg_left (Rat.le_trans ha M.m1) (show (0 : Rat) ≤ U by decide +kernel)
    exact Rat.le_trans e1 e2
  have hη0 : 0 ≤ eta := Rat.le_of_lt eta_pos
  have A0 : 0 ≤ val a := by grind
  have C0 : 0 < val c := by grind
  have C0' : 0 ≤ val c := by grind
  have t0 : 0 ≤ val t := by grind
  have q0 := P.q0
  refine ⟨hm, ?_⟩
  clear ha hc htl pa pt20
  -- t |B|, t C, t t C
  have tB := P.tB
  have aB : BN (Go.Fl.abs b) 100 := by
    have h1 := P.bB
    refine ⟨fin_abs P.fb, ?_, ?_⟩ <;> rw [vabs] <;> unfold absR <;> split <;> have := h1.hi <;> have := h1.lo <;> grind
  have T1 : val t * absR (val b) ≤ 1001 / 1000 * m := by
    have e := prod_le tB.hi tB.lo aB.hi aB.lo
    rw [vabs, ← pw_add] at e
    have h0 := Rat.mul_nonneg t0 (absR_le (val b)).2.2
    have n := (mul_near P.ft aB.f M.eg1 (B := val t * absR (val b)) (by rw [vabs]; exact Rat.le_refl) (by rw [vabs]; grind) (Rat.le_trans e.1 (pw_mono (by omega)))).2
    rw [vabs, h53] at n
    exact l_T1 n M.m6 hη hm
  have Bt := absR_mul (B := val b) t0
  have hp1 : Off (val p1) (val b * val t) (U / 2 * (val t * absR (val b)) + eta) := by
    have e := prod_le tB.hi tB.lo aB.hi aB.lo
    rw [vabs, ← pw_add] at e
    have n := (mul_near P.fb P.ft W.e1 (B := val t * absR (val b)) Bt.1 Bt.2 (Rat.le_trans e.1 (pw_mono (by omega)))).2
    rw [h53] at n
    exact n
  have hct0 := Rat.mul_nonneg C0' t0
  have hctt0 := Rat.mul_nonneg hct0 t0
  have Ct : val c * val t ≤ 1001 / 1000 * m := by
    obtain ⟨r, e, _, o, _, _⟩ := mulC P.tB P.cB (Or.inr P.t1) P.c1 (by omega) (by omega) (by omega)
    rw [bin_inj e M.eg2] at o
    have := l_R o M.m5 hm
    rw [Rat.mul_comm]; exact this
  have Ctt : val c * val t * val t ≤ 1001 / 1000 * m := by
    obtain ⟨r, e, br, o, z, _⟩ := mulC P.tB P.tB (Or.inr P.t1) P.t1 (by omega) (by omega) (by omega)
    have er := bin_inj e M.ett
    rw [er] at o br z
    obtain ⟨r', e', _, o', _, _⟩ := mulC br P.cB z P.c1 (by omega) (by omega) (by omega)
    rw [bin_inj e' M.eg3] at o'
    exact l_tt C0' o o' M.m4 hm
  -- the sums
  obtain ⟨⟨p1a, p1b⟩, p1o, s1a, s1b⟩ := l_p1 A0 M.m1 hp1 Bt.1 Bt.2 T1 hη hm
  have o9 := sum_off P.fa W.b1.f W.e9 M.hm s1a s1b
  obtain ⟨⟨S1a, S1b⟩, s2a, s2b⟩ := l_S1 A0 M.m1 p1a p1b o9 hm
  have o10 := sum_off W.bS1.f W.b1.f W.e10 M.hm s2a s2b
  have ptb := l_q hctt0 W.o3 Ctt
  have pt0 : 0 ≤ val pt := by obtain ⟨_, g⟩ := W.o3; grind
  obtain ⟨⟨S2a, S2b⟩, s3a, s3b⟩ := l_S2 S1a S1b p1a p1b pt0 ptb o10 hm
  have o11 := sum_off W.bS2.f W.b3.f W.e11 M.hm s3a s3b
  have oS3 := l_S3 p1o W.o3 Ctt o9 o10 o11 hm
  have det := l_det (t := val t) C0 P.det
  have dP := det.1
  have o12 : Off (val raw) (val S3 + val th) (U / 2 * (val th + 8 * m)) := by
    have := W.n8
    have n := (add_near W.bS3.f W.bt.f W.e12 (B := val th + 8 * m) (by obtain ⟨g1, g2⟩ := o11; grind) (by obtain ⟨g1, g2⟩ := o11; grind) (by
      have h1 := W.bt.hi
      have h2 := M.hm
      have h3 := pw_mono (show (190 : Int) ≤ 330 by omega)
      have e1 : pw 334 = 16 * pw 330 := by rw [show (334 : Int) = 330 + 4 by omega, pw_add, show pw 4 = 16 by decide +kernel, Rat.mul_comm]
      have e2 := pw_mono (show (334 : Int) ≤ 1000 by omega)
      have e3 := pw_pos 330
      grind)).2
    rw [h53] at n
    exact n
  have th1 := l_third oS3 dP o12 hr M.m2 hm
  have kq3 := l_quo (κ := val q3 / 3) hη hη0 rfl W.o8 th1 hm
  have X0 : 0 ≤ val q * val t * val t * val t := Rat.mul_nonneg (Rat.mul_nonneg (Rat.mul_nonneg q0 t0) t0) t0
  obtain ⟨th2, X1⟩ := l_thirdE hη X0 W.o6 W.o8 kq3 hm
  have oraw := l_rawE oS3 th2 o12 th1 hm
  -- C
  have cb0 : 0 ≤ val c + val k := by have := W.n4; grind
  have o15 : Off (val Cp) (val c + val k) (U / 2 * (val c + val k)) := by
    have n := (add_near P.fc W.fk W.e15 (B := val c + val k) Rat.le_refl (by grind) (by
      have h1 := P.c2
      have h2 := (show val k ≤ pw 330 by
        obtain ⟨g, _⟩ := W.o4
        have h3 := (prod_le P.qB.hi P.qB.lo P.tB.hi P.tB.lo).1
        rw [← pw_add] at h3
        have h4 := pw_two 120
        have h5 := pw_mono (show (121 : Int) ≤ 330 by omega)
        have h6 := pw_pos 120
        have h7 := Rat.mul_nonneg q0 t0
        have h3' : val q * val t ≤ pw 120 := h3
        grind)
      have h4 := pw_two 330
      have h5 := pw_mono (show (331 : Int) ≤ 1000 by omega)
      have h6 := pw_mono (show (100 : Int) ≤ 330 by omega)
      grind)).2
    rw [h53] at n
    exact n
  have Ck := l_add o15 M.m3 hm
  have st0 := Rat.mul_nonneg q0 t0
  obtain ⟨oC, st1, Cm⟩ := l_CE C0' st0 W.o4 o15 Ck hm
  -- B
  have Y0 := Rat.mul_nonneg st0 t0
  have mid := l_mid q0 t0
  have Y1 : val q * val t * val t / 2 ≤ 1003 / 1000 * m := by grind
  have oh := l_half hη Y0 W.o5 W.o7 Y1 hm
  have Bb := l_B (M := 1001 / 1000 * m) A0 C0' P.det (by have := M.m1; grind) Cm
  obtain ⟨r1, r2⟩ := l_B1 Bb.1 Bb.2 W.o2 hct0 Ct hm
  have o13 := sum_off P.fb W.b2.f W.e13 M.hm r1 r2
  obtain ⟨r3, r4⟩ := l_B2 Bb.1 Bb.2 W.o2 hct0 Ct o13 oh Y0 Y1 hm
  have o14 := sum_off W.bR.f W.bh.f W.e14 M.hm r3 r4
  have oB := l_BE W.o2 Ct o13 oh o14 hm
  have sure := l_sure C0 t0 q0 P.det
  have n15 := W.n15
  have m2 := M.m2
  have fin := fun x1 x2 x3 x4 x5 x6 x7 x8 => l_end (a0 := val a + 2 * (val b * val t) + val c * val t * val t + val q * val t * val t * val t / 3) (b0 := val b + val c * val t + val q * val t * val t / 2) (c0 := val c + val q * val t) (A' := A') (B' := val Bp) (C' := val Cp) hm sure x1 x2 hA0 n15 x3 x4 oB x5 x6 x7 x8
  obtain ⟨w1, w2⟩ := oraw
  obtain ⟨v1, v2⟩ := oC
  have m3 := M.m3
  exact fin (l_f1 dP X0) (l_f2 C0' st0) (l_f3 w2 hr) v2 (l_f5 Bb.1 Ct Y1 hm) (l_f6 Bb.2 hct0 Y0 hm) (l_f7 w2 hr m2 hm) (l_f8 v2 m3 hm)
end Go.Proofs.Ytdolfkgnehiecaa
