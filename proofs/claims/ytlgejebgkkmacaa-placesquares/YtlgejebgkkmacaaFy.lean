/- Every finite number of turns has a point whose parts' squares make 1, but for a little. -/
import Derived.Test.YtlgejebgkkmacaaFx
namespace Go.Proofs.Ytlgejebgkkmacaa
open Go.Fl Ieee Go.RowKit

theorem mul_bd {a b A B : Rat} (ha : a ≤ A) (ha' : -A ≤ a) (hb : b ≤ B) (hb' : -B ≤ b) : a * b ≤ A * B ∧ -(A * B) ≤ a * b := by
  have hA : 0 ≤ A := by grind
  have hB : 0 ≤ B := by grind
  rcases Rat.le_total (a := 0) (b := b) with h | h
  · have h1 := Rat.mul_le_mul_of_nonneg_right ha h
    have h2 := Rat.mul_le_mul_of_nonneg_right ha' h
    have h3 := Rat.mul_le_mul_of_nonneg_left hb hA
    constructor <;> grind
  · have h1 := Rat.mul_le_mul_of_nonneg_right ha (show 0 ≤ -b by grind)
    have h2 := Rat.mul_le_mul_of_nonneg_right ha' (show 0 ≤ -b by grind)
    have h3 := Rat.mul_le_mul_of_nonneg_left (show -b ≤ B by grind) hA
    constructor <;> grind
/-- Parts whose squares make 1, but for a little. -/
structure Good (c s : Nat) : Prop where
  fc : Fnt c
  fs : Fnt s
  near : Near (val c * val c + val s * val s) 1 (11 * u53)
def Zb : Rat := 617 / 1000
def cosV : List Rat := cosineL.map val
def sinV : List Rat := sineL.map val
theorem cos_fin : ∀ c ∈ cosineL, Fnt c := by unfold Fnt; decide +kernel
theorem sin_fin : ∀ c ∈ sineL, Fnt c := by unfold Fnt; decide +kernel
theorem cos_ok : okP Zb cosV = true ∧ errP Zb cosV ≤ 21 / 10 * u53 ∧ absP Zb cosV ≤ 133 / 100 := by decide +kernel
theorem sin_ok : okP Zb sinV = true ∧ errP Zb sinV ≤ 14 / 10 * u53 ∧ absP Zb sinV ≤ 111 / 100 := by decide +kernel
def tailV : List Rat := (addP (mulP cosV cosV) (0 :: mulP sinV sinV)).tail
theorem one_tail : addP (mulP cosV cosV) (0 :: mulP sinV sinV) = 1 :: tailV ∧ Zb * absP Zb tailV ≤ 1 / 5 * u53 := by decide +kernel
theorem squares (z : Rat) (h0 : 0 ≤ z) (hz : z ≤ Zb) : evalP cosV z * evalP cosV z + z * (evalP sinV z * evalP sinV z) ≤ 1 + 1 / 5 * u53 ∧ 1 - 1 / 5 * u53 ≤ evalP cosV z * evalP cosV z + z * (evalP sinV z * evalP sinV z) := by
  have e : evalP cosV z * evalP cosV z + z * (evalP sinV z * evalP sinV z) = 1 + z * evalP tailV z := by
    have h1 : evalP (addP (mulP cosV cosV) (0 :: mulP sinV sinV)) z = evalP (1 :: tailV) z := by rw [one_tail.1]
    rw [eval_add, eval_mul] at h1
    simp only [evalP, eval_mul] at h1
    grind
  rw [e]
  obtain ⟨a1, a2⟩ := eval_abs h0 hz tailV
  have hn := absP_nonneg (show 0 ≤ Zb by decide +kernel) tailV
  have b1 := Rat.mul_le_mul_of_nonneg_left a1 h0
  have b2 := Rat.mul_le_mul_of_nonneg_left a2 h0
  have b3 := Rat.mul_le_mul_of_nonneg_right hz hn
  have b4 := one_tail.2
  constructor <;> grind
theorem fold_eq' : ∀ (L : List Nat) (z : Option Nat), (∀ c ∈ L, Fnt c) → foldF L z = foldG L z
  | [], _, _ => rfl
  | [c], _, h => by simp only [foldF, foldG]; exact Fnt.ab (h c (by simp))
  | c :: d :: r, z, h => by
    simp only [foldF, foldG]
    rw [fold_eq' (d :: r) z (fun x hx => h x (by simp [hx])), Fnt.ab (h c (by simp))]
theorem circle_ok : Fnt 4618760256179416344 ∧ 0 ≤ val 4618760256179416344 ∧ val 4618760256179416344 ≤ 62831854 / 10000000 := ⟨by unfold Fnt; decide, by decide +kernel⟩
theorem east_good {a : Nat} (ha : Fnt a) (h0 : 0 ≤ val a) (h8 : val a ≤ 1 / 8) : ∃ c s, eastC (some a) = some c ∧ eastS (some a) = some s ∧ Good c s := by
  have g := eqF_val ha feighth.1
  rw [Fnt.ab ha, feighth.2] at g
  unfold eastC eastS
  rw [g]
  by_cases h : val a = 1 / 8
  · rw [if_pos (by simp [h]), if_pos (by simp [h])]
    have hf : Fnt 4604544271217802189 := by unfold Fnt; decide
    refine ⟨_, _, Fnt.ab hf, Fnt.ab hf, hf, hf, ?_⟩
    unfold Near
    decide +kernel
  · rw [if_neg (by simp [h]), if_neg (by simp [h])]
    obtain ⟨fc, c0, c1⟩ := circle_ok
    have hη := eta_le
    have hη2 : (0 : Rat) ≤ pw (-1075) := Rat.le_of_lt (pw_pos _)
    have hh : h80 ≤ 1 / 1000000 * u53 := by decide +kernel
    have hu0 : 0 ≤ u53 := by decide +kernel
    have hu1 : u53 ≤ 1 / 100000000 := by decide +kernel
    have hu : pw (-53) = u53 := pw53
    -- y
    obtain ⟨y, hy⟩ := bin_some_mul ha fc
    have p0 : 0 ≤ val a * val 4618760256179416344 := Rat.mul_nonneg h0 c0
    have p1 : val a * val 4618760256179416344 ≤ 785399 / 1000000 := by
      have a1 := Rat.mul_le_mul_of_nonneg_right h8 c0
      grind
    obtain ⟨y1, y2⟩ := mul_near ha fc hy (B := 1) (by grind) (by grind) (big_ok (by grind))
    obtain ⟨k1, k2⟩ := big2 (v := val a * val 4618760256179416344) (by grind) (by grind)
    have y3 := (mul_mono ha fc hy k1 k2 (z := 0)).2 (by rw [val0]; exact p0)
    rw [val0] at y3
    rw [hu] at y2
    generalize hηd : pw (-1075) = η at *
    obtain ⟨y21, y22⟩ := y2
    have y4 : val y ≤ 7854 / 10000 := by grind
    -- z
    obtain ⟨z, hz⟩ := bin_some_mul y1 y1
    have q0 : 0 ≤ val y * val y := Rat.mul_nonneg y3 y3
    have q1 : val y * val y ≤ 6169 / 10000 := by
      have a1 := Rat.mul_le_mul_of_nonneg_right y4 y3
      grind
    obtain ⟨z1, z2⟩ := mul_near y1 y1 hz (B := 6169 / 10000) q1 (by grind) (big_ok (by grind))
    obtain ⟨l1, l2⟩ := big2 (v := val y * val y) (by grind) (by grind)
    have z3 := (mul_mono y1 y1 hz l1 l2 (z := 0)).2 (by rw [val0]; exact q0)
    rw [val0] at z3
    rw [hu, hηd] at z2
    obtain ⟨z21, z22⟩ := z2
    have hZ : Zb = 617 / 1000 := rfl
    have z4 : val z ≤ Zb := by rw [hZ]; grind
    -- the two folds
    obtain ⟨c, e1, e2, e3⟩ := fold_near z1 z3 z4 (by decide +kernel) cosineL (by decide) cos_fin cos_ok.1
    obtain ⟨p, f1, f2, f3⟩ := fold_near z1 z3 z4 (by decide +kernel) sineL (by decide) sin_fin sin_ok.1
    have hc : foldF cosineL (some z) = some c := by rw [fold_eq' _ _ cos_fin]; exact e1
    have hp : foldF sineL (some z) = some p := by rw [fold_eq' _ _ sin_fin]; exact f1
    change Near (val c) (evalP cosV (val z)) (errP Zb cosV) at e3
    change Near (val p) (evalP sinV (val z)) (errP Zb sinV) at f3
    have sq := squares (val z) z3 z4
    obtain ⟨bC1, bC2⟩ := eval_abs z3 z4 cosV
    obtain ⟨bS1, bS2⟩ := eval_abs z3 z4 sinV
    obtain ⟨_, oc1, oc2⟩ := cos_ok
    obtain ⟨_, os1, os2⟩ := sin_ok
    generalize evalP cosV (val z) = C at *
    generalize evalP sinV (val z) = S at *
    generalize absP Zb cosV = AC at *
    generalize absP Zb sinV = AS at *
    generalize errP Zb cosV = EC at *
    generalize errP Zb sinV = ES at *
    obtain ⟨e31, e32⟩ := e3
    obtain ⟨f31, f32⟩ := f3
    -- s
    obtain ⟨s, hs⟩ := bin_some_mul f2 y1
    have pb : val p ≤ 112 / 100 := by grind
    have pb' : -(112 / 100) ≤ val p := by grind
    obtain ⟨m1, m2⟩ := mul_bd pb pb' y4 (show -(7854 / 10000) ≤ val y by grind)
    obtain ⟨s1, s2⟩ := mul_near f2 y1 hs (B := 9 / 10) (by grind) (by grind) (big_ok (by grind))
    rw [hu, hηd] at s2
    obtain ⟨s21, s22⟩ := s2
    refine ⟨c, s, ?_, ?_, e2, s1, ?_⟩
    · rw [Fnt.ab fc, hy]
      simp only [hz, hc]
    · rw [Fnt.ab fc, hy]
      simp only [hz, hp, hs]
    · -- the squares
      obtain ⟨ec, hec⟩ : ∃ ec : Rat, ec = val c - C := ⟨_, rfl⟩
      obtain ⟨f, hf⟩ : ∃ f : Rat, f = val s - S * val y := ⟨_, rfl⟩
      obtain ⟨g, hg⟩ : ∃ g : Rat, g = val y * val y - val z := ⟨_, rfl⟩
      have id1 : val c * val c + val s * val s - (C * C + val z * (S * S)) = S * S * g + 2 * (S * val y * f) + f * f + 2 * (C * ec) + ec * ec := by
        rw [hec, hf, hg]; grind
      have ec1 : ec ≤ 21 / 10 * u53 := by grind
      have ec2 : -(21 / 10 * u53) ≤ ec := by grind
      -- f
      have d1 : val p - S ≤ 14 / 10 * u53 := by grind
      have d2 : -(14 / 10 * u53) ≤ val p - S := by grind
      obtain ⟨d3, d4⟩ := mul_bd d1 d2 y4 (show -(7854 / 10000) ≤ val y by grind)
      have fs1 : f ≤ 201 / 100 * u53 := by grind
      have fs2 : -(201 / 100 * u53) ≤ f := by grind
      have g1 : g ≤ 62 / 100 * u53 := by grind
      have g2 : -(62 / 100 * u53) ≤ g := by grind
      have S1 : S ≤ 111 / 100 := by grind
      have S2 : -(111 / 100) ≤ S := by grind
      have C1 : C ≤ 133 / 100 := by grind
      have C2 : -(133 / 100) ≤ C := by grind
      obtain ⟨t1, t2⟩ := mul_bd S1 S2 S1 S2
      obtain ⟨t99399, t99499⟩ := mul_bd t1 t2 g1 g2
      obtain ⟨t99599, t99699⟩ := mul_bd S1 S2 y4 (show -(7854 / 10000) ≤ val y by grind)
      obtain ⟨t99799, t99899⟩ := mul_bd t99599 t99699 fs1 fs2
      obtain ⟨t99999, t991099⟩ := mul_bd fs1 fs2 fs1 fs2
      obtain ⟨t991199, t991299⟩ := mul_bd C1 C2 ec1 ec2
      obtain ⟨t991399, t25⟩ := mul_bd ec1 ec2 ec1 ec2
      have uu : u53 * u53 ≤ 1 / 100000000 * u53 := Rat.mul_le_mul_of_nonneg_right hu1 hu0
      have uu0 : 0 ≤ u53 * u53 := Rat.mul_nonneg hu0 hu0
      obtain ⟨sq1, sq2⟩ := sq
      unfold Near
      generalize hq : val c * val c + val s * val s = Q at *
      generalize hw : C * C + val z * (S * S) = W at *
      constructor <;> grind
end Go.Proofs.Ytlgejebgkkmacaa
