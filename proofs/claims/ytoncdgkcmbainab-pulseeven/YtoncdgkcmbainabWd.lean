/- Windows: their floats are from 0 to 1, and alike from both ends. -/
import Derived.Test.YtoncdgkcmbainabWc
namespace Go.Proofs.Ytoncdgkcmbainab
open Go.ChangeShapes Go.WideShapes Go.ChangeAt Go.RowKit Go.Fl Ieee

/-- A product that lies between two floats. -/
theorem mul_between {x y a b : Nat} (hx : Fnt x) (hy : Fnt y) {A C : Rat} (ha : val a = A) (hb : val b = C) (hA : A ≤ val x * val y) (hC : val x * val y ≤ C) (hA2 : -2 ≤ A) (hC2 : C ≤ 2) : ∃ r, bin .mul (some x) (some y) = some r ∧ Fnt r ∧ A ≤ val r ∧ val r ≤ C := by
  obtain ⟨r, hr⟩ := bin_some_mul hx hy
  obtain ⟨k1, k2⟩ := big2 (v := val x * val y) (by grind) (by grind)
  have m1 := mul_mono hx hy hr k1 k2 (z := b)
  have m2 := mul_mono hx hy hr k1 k2 (z := a)
  obtain ⟨f, _⟩ := mul_near hx hy hr (B := 2) (by grind) (by grind) (big_ok (by grind))
  refine ⟨r, hr, f, ?_, ?_⟩
  · have := m2.2 (by grind); grind
  · have := m1.1 (by grind); grind
theorem east_yz {a : Nat} (ha : Fnt a) (h0 : 0 ≤ val a) (h8 : val a ≤ 1 / 8) : ∃ y z, bin .mul (some a) (some 4618760256179416344) = some y ∧ Fnt y ∧ 0 ≤ val y ∧ val y ≤ 7854 / 10000 ∧ bin .mul (some y) (some y) = some z ∧ Fnt z ∧ 0 ≤ val z ∧ val z ≤ Zb := by
  obtain ⟨fc, c0, c1⟩ := circle_ok
  have hη := eta_le
  have hh : h80 ≤ 1 / 1000000 * u53 := by decide +kernel
  have hu0 : 0 ≤ u53 := by decide +kernel
  have hu1 : u53 ≤ 1 / 100000000 := by decide +kernel
  have hu : pw (-53) = u53 := pw53
  obtain ⟨y, hy⟩ := bin_some_mul ha fc
  have p0 : 0 ≤ val a * val 4618760256179416344 := Rat.mul_nonneg h0 c0
  have p1 : val a * val 4618760256179416344 ≤ 785399 / 1000000 := by
    have a1 := Rat.mul_le_mul_of_nonneg_right h8 c0
    grind
  obtain ⟨y1, y2⟩ := mul_near ha fc hy (B := 1) (by grind) (by grind) (big_ok (by grind))
  obtain ⟨k1, k2⟩ := big2 (v := val a * val 4618760256179416344) (by grind) (by grind)
  have y3 := (mul_mono ha fc hy k1 k2 (z := 0)).2 (by rw [val0]; exact p0)
  rw [val0] at y3
  rw [hu] at y2
  generalize hηd : pw (-1075) = η at *
  obtain ⟨y21, y22⟩ := y2
  have y4 : val y ≤ 7854 / 10000 := by grind
  obtain ⟨z, hz⟩ := bin_some_mul y1 y1
  have q0 : 0 ≤ val y * val y := Rat.mul_nonneg y3 y3
  have q1 : val y * val y ≤ 6169 / 10000 := by
    have a1 := Rat.mul_le_mul_of_nonneg_right y4 y3
    grind
  obtain ⟨z1, z2⟩ := mul_near y1 y1 hz (B := 6169 / 10000) q1 (by grind) (big_ok (by grind))
  obtain ⟨l1, l2⟩ := big2 (v := val y * val y) (by grind) (by grind)
  have z3 := (mul_mono y1 y1 hz l1 l2 (z := 0)).2 (by rw [val0]; exact q0)
  rw [val0] at z3
  rw [hu, hηd] at z2
  obtain ⟨z21, z22⟩ := z2
  have hZ : Zb = 617 / 1000 := rfl
  exact ⟨y, z, hy, y1, y3, y4, hz, z1, z3, by rw [hZ]; grind⟩
def cosT : List Nat := cosineL.tail
theorem cosT_ok : okP Zb (cosT.map val) = true ∧ errP Zb (cosT.map val) ≤ 1 / 100 ∧ Zb * absP Zb (cosT.tail.map val) ≤ 3 / 100 ∧ cosT.map val = -1 / 2 :: cosT.tail.map val := by decide +kernel
theorem cosT_fin : ∀ c ∈ cosT, Fnt c := by unfold Fnt; decide +kernel
theorem cos_cons : cosineL = 4607182418800017408 :: cosT := rfl
theorem east_le {a : Nat} (ha : Fnt a) (h0 : 0 ≤ val a) (h8 : val a ≤ 1 / 8) : ∃ c s, eastC (some a) = some c ∧ eastS (some a) = some s ∧ Fnt c ∧ Fnt s ∧ val c ≤ 1 ∧ -1 ≤ val c ∧ val s ≤ 1 ∧ -1 ≤ val s := by
  have g := eqF_val ha feighth.1
  rw [Fnt.ab ha, feighth.2] at g
  unfold eastC eastS
  rw [g]
  by_cases h : val a = 1 / 8
  · rw [if_pos (by simp [h]), if_pos (by simp [h])]
    have hf : Fnt 4604544271217802189 := by unfold Fnt; decide
    have hv : val 4604544271217802189 ≤ 1 ∧ -1 ≤ val 4604544271217802189 := by decide +kernel
    exact ⟨_, _, Fnt.ab hf, Fnt.ab hf, hf, hf, hv.1, hv.2, hv.1, hv.2⟩
  · rw [if_neg (by simp [h]), if_neg (by simp [h])]
    obtain ⟨y, z, hy, y1, y3, y4, hz, z1, z3, z4⟩ := east_yz ha h0 h8
    have hZ : Zb = 617 / 1000 := rfl
    have hu1 : u53 ≤ 1 / 100000000 := by decide +kernel
    -- cosine
    obtain ⟨t1, t2, t3, t4⟩ := cosT_ok
    obtain ⟨p, e1, e2, e3⟩ := fold_near z1 z3 z4 (by decide +kernel) cosT (by decide) cosT_fin t1
    rw [t4] at e3
    have hev : evalP (-1 / 2 :: cosT.tail.map val) (val z) = -1 / 2 + val z * evalP (cosT.tail.map val) (val z) := rfl
    rw [hev, ← t4] at e3
    obtain ⟨b1, b2⟩ := eval_abs z3 z4 (cosT.tail.map val)
    have hn := absP_nonneg (show 0 ≤ Zb by decide +kernel) (cosT.tail.map val)
    have c1 := Rat.mul_le_mul_of_nonneg_left b1 z3
    have c2 := Rat.mul_le_mul_of_nonneg_left b2 z3
    have c3 := Rat.mul_le_mul_of_nonneg_right z4 hn
    generalize errP Zb (cosT.map val) = E at *
    generalize evalP (cosT.tail.map val) (val z) = V at *
    generalize absP Zb (cosT.tail.map val) = A at *
    obtain ⟨e31, e32⟩ := e3
    have pn : val p ≤ 0 := by grind
    have pl : -1 ≤ val p := by grind
    have pz1 : val p * val z ≤ 0 := by
      have := Rat.mul_le_mul_of_nonneg_right pn z3
      grind
    have pz2 : -1 ≤ val p * val z := by
      have a1 := Rat.mul_le_mul_of_nonneg_right pl z3
      rw [hZ] at z4
      grind
    obtain ⟨m, hm, fm, m1, m2⟩ := mul_between e2 z1 fmone.2 fzero.2 pz2 pz1 (by grind) (by grind)
    have v1 := fone.2
    obtain ⟨c, hc, fc, d1, d2⟩ := add_between fm fone.1 fzero.2 fone.2 (by grind) (by grind) (by grind) (by grind)
    have hcos : foldF cosineL (some z) = some c := by
      rw [fold_eq' _ _ cos_fin, cos_cons]
      show bin .add (bin .mul (foldG cosT (some z)) (some z)) (some 4607182418800017408) = some c
      rw [e1, hm, hc]
    -- sine
    obtain ⟨q, f1, f2, f3⟩ := fold_near z1 z3 z4 (by decide +kernel) sineL (by decide) sin_fin sin_ok.1
    have hp : foldF sineL (some z) = some q := by rw [fold_eq' _ _ sin_fin]; exact f1
    change Near (val q) (evalP sinV (val z)) (errP Zb sinV) at f3
    obtain ⟨bS1, bS2⟩ := eval_abs z3 z4 sinV
    obtain ⟨_, os1, os2⟩ := sin_ok
    generalize evalP sinV (val z) = S at *
    generalize absP Zb sinV = AS at *
    generalize errP Zb sinV = ES at *
    obtain ⟨f31, f32⟩ := f3
    obtain ⟨w1, w2⟩ := mul_bd (show val q ≤ 112 / 100 by grind) (show -(112 / 100) ≤ val q by grind) y4 (show -(7854 / 10000) ≤ val y by grind)
    obtain ⟨s, hs, fs, s1, s2⟩ := mul_between f2 y1 fmone.2 fone.2 (by grind) (by grind) (by grind) (by grind)
    refine ⟨c, s, ?_, ?_, fc, fs, d2, by grind, s2, s1⟩
    · rw [Fnt.ab circle_ok.1, hy]
      simp only [hz, hcos]
    · rw [Fnt.ab circle_ok.1, hy]
      simp only [hz, hp, hs]
theorem turn_le {x : Nat} (hx : Fnt x) (hB : val x ≤ pw 1000) (hB' : -pw 1000 ≤ val x) : ∃ c, turnC (some x) = some c ∧ Fnt c ∧ val c ≤ 1 ∧ -1 ≤ val c := by
  obtain ⟨w, w1, w2, w3, w4⟩ := wrap_val hx hB hB'
  obtain ⟨a, a1, a2, a3, a4⟩ := twice_val w2 w3 w4
  obtain ⟨c, s, c1, s1, fc, fs, k1, k2, k3, k4⟩ := east_le a2 a3 a4
  have hf := fin_of hx
  rw [Fnt.ab hx] at hf
  unfold turnC
  rw [if_pos hf, w1]
  unfold pointC
  rw [a1, c1, s1]
  have hsw : ∃ p, (if swapped (some w) = true then some s else some c) = some p ∧ Fnt p ∧ val p ≤ 1 ∧ -1 ≤ val p := by
    cases swapped (some w)
    · exact ⟨c, rfl, fc, k1, k2⟩
    · exact ⟨s, rfl, fs, k3, k4⟩
  obtain ⟨p, hp, fp, p1, p2⟩ := hsw
  simp only [hp]
  have h1 : ∃ p', (if flipped (some w) = true then (some p).map neg else some p) = some p' ∧ Fnt p' ∧ val p' ≤ 1 ∧ -1 ≤ val p' := by
    cases flipped (some w)
    · exact ⟨p, rfl, fp, p1, p2⟩
    · exact ⟨neg p, rfl, fin_neg fp, by rw [vneg]; grind, by rw [vneg]; grind⟩
  obtain ⟨p', e1, f1, q1, q2⟩ := h1
  rw [e1]
  obtain ⟨r, r1, r2, r3⟩ := clean_val f1
  exact ⟨r, r1, r2, by grind, by grind⟩
end Go.Proofs.Ytoncdgkcmbainab
