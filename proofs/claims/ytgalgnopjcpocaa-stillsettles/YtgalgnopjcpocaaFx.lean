/- Every finite number of turns has a point whose parts' squares make 1, but for a little. -/
import Derived.Test.YtgalgnopjcpocaaFw
namespace Go.Proofs.Ytgalgnopjcpocaa
open Go.Fl Ieee Go.RowKit

theorem fone : Fnt 4607182418800017408 ∧ val 4607182418800017408 = 1 := ⟨by unfold Fnt; decide, by decide +kernel⟩
theorem fmone : Fnt 13830554455654793216 ∧ val 13830554455654793216 = -1 := ⟨by unfold Fnt; decide, by decide +kernel⟩
theorem fhalf : Fnt 4602678819172646912 ∧ val 4602678819172646912 = 1 / 2 := ⟨by unfold Fnt; decide, by decide +kernel⟩
theorem fmhalf : Fnt 13826050856027422720 ∧ val 13826050856027422720 = -1 / 2 := ⟨by unfold Fnt; decide, by decide +kernel⟩
theorem fquarter : Fnt 4598175219545276416 ∧ val 4598175219545276416 = 1 / 4 := ⟨by unfold Fnt; decide, by decide +kernel⟩
theorem feighth : Fnt 4593671619917905920 ∧ val 4593671619917905920 = 1 / 8 := ⟨by unfold Fnt; decide, by decide +kernel⟩
theorem fzero : Fnt 0 ∧ val 0 = 0 := ⟨by unfold Fnt; decide, by decide +kernel⟩
theorem big2 {v : Rat} (h : v ≤ 2) (h' : -2 ≤ v) : v ≤ pw 1000 ∧ -pw 1000 ≤ v := by
  have := big_ok (B := 2) (by grind)
  generalize pw 1000 = W at *
  constructor <;> grind
/-- A difference that lies between two floats. -/
theorem sub_between {x y a b : Nat} (hx : Fnt x) (hy : Fnt y) {A C : Rat} (ha : val a = A) (hb : val b = C) (hA : A ≤ val x - val y) (hC : val x - val y ≤ C) (hA2 : -2 ≤ A) (hC2 : C ≤ 2) : ∃ r, bin .sub (some x) (some y) = some r ∧ Fnt r ∧ A ≤ val r ∧ val r ≤ C := by
  obtain ⟨r, hr⟩ := bin_some_sub hx hy
  obtain ⟨k1, k2⟩ := big2 (v := val x - val y) (by grind) (by grind)
  have m1 := sub_mono hx hy hr k1 k2 (z := b)
  have m2 := sub_mono hx hy hr k1 k2 (z := a)
  obtain ⟨f, _⟩ := sub_near hx hy hr (B := 2) (by grind) (by grind) (big_ok (by grind))
  refine ⟨r, hr, f, ?_, ?_⟩
  · have := m2.2 (by grind); grind
  · have := m1.1 (by grind); grind
theorem add_between {x y a b : Nat} (hx : Fnt x) (hy : Fnt y) {A C : Rat} (ha : val a = A) (hb : val b = C) (hA : A ≤ val x + val y) (hC : val x + val y ≤ C) (hA2 : -2 ≤ A) (hC2 : C ≤ 2) : ∃ r, bin .add (some x) (some y) = some r ∧ Fnt r ∧ A ≤ val r ∧ val r ≤ C := by
  obtain ⟨r, hr⟩ := bin_some_add hx hy
  obtain ⟨k1, k2⟩ := big2 (v := val x + val y) (by grind) (by grind)
  have m1 := add_mono hx hy hr k1 k2 (z := b)
  have m2 := add_mono hx hy hr k1 k2 (z := a)
  obtain ⟨f, _⟩ := add_near hx hy hr (B := 2) (by grind) (by grind) (big_ok (by grind))
  refine ⟨r, hr, f, ?_, ?_⟩
  · have := m2.2 (by grind); grind
  · have := m1.1 (by grind); grind
theorem whole_val {x : Nat} (hx : Fnt x) (hB : val x ≤ pw 1000) (hB' : -pw 1000 ≤ val x) : ∃ t, wholeF (some x) = some t ∧ Fnt t ∧ (0 ≤ val x → 0 ≤ val x - val t ∧ val x - val t ≤ 1) ∧ (val x < 0 → -1 ≤ val x - val t ∧ val x - val t ≤ 0) := by
  unfold wholeF
  have h0 := ltF_val hx fzero.1
  rw [Fnt.ab hx, fzero.2] at h0
  rw [h0]
  by_cases hn : val x < 0
  · rw [if_pos (by simp [hn])]
    have hv := vneg x
    obtain ⟨f1, f2, f3, f4⟩ := floor_val (fin_neg hx) (by grind) (by grind)
    refine ⟨neg (floor (neg x)), rfl, fin_neg f1, fun h => by grind, fun _ => ?_⟩
    rw [vneg]
    constructor <;> grind
  · rw [if_neg (by simp [hn])]
    obtain ⟨f1, f2, f3, f4⟩ := floor_val hx (by grind) hB
    exact ⟨floor x, rfl, f1, fun _ => ⟨by grind, by grind⟩, fun h => absurd h hn⟩
theorem wrap_val {x : Nat} (hx : Fnt x) (hB : val x ≤ pw 1000) (hB' : -pw 1000 ≤ val x) : ∃ w, wrapF (some x) = some w ∧ Fnt w ∧ -1 / 2 ≤ val w ∧ val w ≤ 1 / 2 := by
  obtain ⟨t, ht, ft, t1, t2⟩ := whole_val hx hB hB'
  have hr : ∃ r, bin .sub (some x) (some t) = some r ∧ Fnt r ∧ ((0 ≤ val r ∧ val r ≤ 1) ∨ (-1 ≤ val r ∧ val r ≤ 0)) := by
    by_cases hn : val x < 0
    · obtain ⟨a1, a2⟩ := t2 hn
      obtain ⟨r, r1, r2, r3, r4⟩ := sub_between hx ft fmone.2 fzero.2 a1 a2 (by grind) (by grind)
      exact ⟨r, r1, r2, Or.inr ⟨r3, r4⟩⟩
    · obtain ⟨a1, a2⟩ := t1 (by grind)
      obtain ⟨r, r1, r2, r3, r4⟩ := sub_between hx ft fzero.2 fone.2 a1 a2 (by grind) (by grind)
      exact ⟨r, r1, r2, Or.inl ⟨r3, r4⟩⟩
  obtain ⟨r, r1, r2, r3⟩ := hr
  have hf := fin_of hx
  rw [Fnt.ab hx] at hf
  unfold wrapF
  rw [if_pos hf, ht, r1]
  have g1 := gtF_val r2 fhalf.1
  have g2 := eqF_val r2 fhalf.1
  have g3 := ltF_val r2 fmhalf.1
  rw [Fnt.ab r2] at g1 g2 g3
  simp only [g1, g2, g3, fhalf.2, fmhalf.2]
  by_cases h1 : 1 / 2 ≤ val r
  · have hc : (decide (1 / 2 < val r) || decide (val r = 1 / 2)) = true := by
      by_cases h2 : val r = 1 / 2
      · simp [h2]
      · have : 1 / 2 < val r := by grind
        simp [this]
    rw [if_pos hc, Fnt.ab fone.1]
    have e1 := fone.2
    obtain ⟨w, w1, w2, w3, w4⟩ := sub_between r2 fone.1 fmhalf.2 fzero.2 (by grind) (by grind) (by grind) (by grind)
    exact ⟨w, w1, w2, w3, by grind⟩
  · have hc : (decide (1 / 2 < val r) || decide (val r = 1 / 2)) = false := by
      have a : ¬ 1 / 2 < val r := by grind
      have b : ¬ val r = 1 / 2 := by grind
      simp [a, b]
    rw [if_neg (by rw [hc]; exact Bool.false_ne_true)]
    by_cases h2 : val r < -1 / 2
    · rw [if_pos (by simp [h2]), Fnt.ab fone.1]
      have e1 := fone.2
      obtain ⟨w, w1, w2, w3, w4⟩ := add_between r2 fone.1 fzero.2 fhalf.2 (by grind) (by grind) (by grind) (by grind)
      exact ⟨w, w1, w2, by grind, w4⟩
    · rw [if_neg (by simp [h2])]
      exact ⟨r, rfl, r2, by grind, by grind⟩
theorem twice_val {w : Nat} (hw : Fnt w) (h1 : -1 / 2 ≤ val w) (h2 : val w ≤ 1 / 2) : ∃ a, twice (some w) = some a ∧ Fnt a ∧ 0 ≤ val a ∧ val a ≤ 1 / 8 := by
  have n24 : (1 / 2 : Rat) = 2 * (1 / 4) := by decide +kernel
  have n48 : (1 / 4 : Rat) = 2 * (1 / 8) := by decide +kernel
  have n80 : (0 : Rat) ≤ 1 / 8 := by decide +kernel
  have fa := fin_abs hw
  have va := vabs w
  have b1 : 0 ≤ val (Go.Fl.abs w) ∧ val (Go.Fl.abs w) ≤ 1 / 2 := by
    rw [va]; unfold absR; split <;> constructor <;> grind
  have ho : ∃ a, once (some w) = some a ∧ Fnt a ∧ 0 ≤ val a ∧ val a ≤ 1 / 4 := by
    unfold once flipped
    simp only [Option.map_some]
    have g := gtF_val fa fquarter.1
    rw [Fnt.ab fa, fquarter.2] at g
    rw [g]
    by_cases h : 1 / 4 < val (Go.Fl.abs w)
    · rw [if_pos (by simp [h]), Fnt.ab fhalf.1]
      have e1 := fhalf.2
      obtain ⟨r, r1, r2, r3, r4⟩ := sub_between fhalf.1 fa fzero.2 fquarter.2 (by grind) (by grind) (by grind) (by grind)
      exact ⟨r, r1, r2, r3, r4⟩
    · rw [if_neg (by simp [h])]
      exact ⟨_, rfl, fa, b1.1, by grind⟩
  obtain ⟨a, a1, a2, a3, a4⟩ := ho
  unfold twice swapped
  rw [a1]
  have g := gtF_val a2 feighth.1
  rw [Fnt.ab a2, feighth.2] at g
  rw [g]
  by_cases h : 1 / 8 < val a
  · rw [if_pos (by simp [h]), Fnt.ab fquarter.1]
    have e1 := fquarter.2
    obtain ⟨r, r1, r2, r3, r4⟩ := sub_between fquarter.1 a2 fzero.2 feighth.2 (by grind) (by grind) (by grind) (by grind)
    exact ⟨r, r1, r2, r3, r4⟩
  · rw [if_neg (by simp [h])]
    exact ⟨a, rfl, a2, a3, by grind⟩
end Go.Proofs.Ytgalgnopjcpocaa
/- Every finite number of turns has a point whose parts' squares make 1, but for a little. -/
namespace Go.Proofs.Ytgalgnopjcpocaa
open Go.Fl Ieee Go.RowKit

theorem mul_bd {a b A B : Rat} (ha : a ≤ A) (ha' : -A ≤ a) (hb : b ≤ B) (hb' : -B ≤ b) : a * b ≤ A * B ∧ -(A * B) ≤ a * b := by
  have hA : 0 ≤ A := by grind
  have hB : 0 ≤ B := by grind
  rcases Rat.le_total (a := 0) (b := b) with h | h
  · have h1 := Rat.mul_le_mul_of_nonneg_right ha h
    have h2 := Rat.mul_le_mul_of_nonneg_right ha' h
    have h3 := Rat.mul_le_mul_of_nonneg_left hb hA
    constructor <;> grind
  · have h1 := Rat.mul_le_mul_of_nonneg_right ha (show 0 ≤ -b by grind)
    have h2 := Rat.mul_le_mul_of_nonneg_right ha' (show 0 ≤ -b by grind)
    have h3 := Rat.mul_le_mul_of_nonneg_left (show -b ≤ B by grind) hA
    constructor <;> grind
/-- Parts whose squares make 1, but for a little. -/
structure Good (c s : Nat) : Prop where
  fc : Fnt c
  fs : Fnt s
  near : Near (val c * val c + val s * val s) 1 (11 * u53)
def Zb : Rat := 617 / 1000
def cosV : List Rat := cosineL.map val
def sinV : List Rat := sineL.map val
theorem cos_fin : ∀ c ∈ cosineL, Fnt c := by unfold Fnt; decide +kernel
theorem sin_fin : ∀ c ∈ sineL, Fnt c := by unfold Fnt; decide +kernel
theorem cos_ok : okP Zb cosV = true ∧ errP Zb cosV ≤ 21 / 10 * u53 ∧ absP Zb cosV ≤ 133 / 100 := by decide +kernel
theorem sin_ok : okP Zb sinV = true ∧ errP Zb sinV ≤ 14 / 10 * u53 ∧ absP Zb sinV ≤ 111 / 100 := by decide +kernel
def tailV : List Rat := (addP (mulP cosV cosV) (0 :: mulP sinV sinV)).tail
theorem one_tail : addP (mulP cosV cosV) (0 :: mulP sinV sinV) = 1 :: tailV ∧ Zb * absP Zb tailV ≤ 1 / 5 * u53 := by decide +kernel
theorem squares (z : Rat) (h0 : 0 ≤ z) (hz : z ≤ Zb) : evalP cosV z * evalP cosV z + z * (evalP sinV z * evalP sinV z) ≤ 1 + 1 / 5 * u53 ∧ 1 - 1 / 5 * u53 ≤ evalP cosV z * evalP cosV z + z * (evalP sinV z * evalP sinV z) := by
  have e : evalP cosV z * evalP cosV z + z * (evalP sinV z * evalP sinV z) = 1 + z * evalP tailV z := by
    have h1 : evalP (addP (mulP cosV cosV) (0 :: mulP sinV sinV)) z = evalP (1 :: tailV) z := by rw [one_tail.1]
    rw [eval_add, eval_mul] at h1
    simp only [evalP, eval_mul] at h1
    grind
  rw [e]
  obtain ⟨a1, a2⟩ := eval_abs h0 hz tailV
  have hn := absP_nonneg (show 0 ≤ Zb by decide +kernel) tailV
  have b1 := Rat.mul_le_mul_of_nonneg_left a1 h0
  have b2 := Rat.mul_le_mul_of_nonneg_left a2 h0
  have b3 := Rat.mul_le_mul_of_nonneg_right hz hn
  have b4 := one_tail.2
  constructor <;> grind
theorem fold_eq' : ∀ (L : List Nat) (z : Option Nat), (∀ c ∈ L, Fnt c) → foldF L z = foldG L z
  | [], _, _ => rfl
  | [c], _, h => by simp only [foldF, foldG]; exact Fnt.ab (h c (by simp))
  | c :: d :: r, z, h => by
    simp only [foldF, foldG]
    rw [fold_eq' (d :: r) z (fun x hx => h x (by simp [hx])), Fnt.ab (h c (by simp))]
theorem circle_ok : Fnt 4618760256179416344 ∧ 0 ≤ val 4618760256179416344 ∧ val 4618760256179416344 ≤ 62831854 / 10000000 := ⟨by unfold Fnt; decide, by decide +kernel⟩
theorem east_good {a : Nat} (ha : Fnt a) (h0 : 0 ≤ val a) (h8 : val a ≤ 1 / 8) : ∃ c s, eastC (some a) = some c ∧ eastS (some a) = some s ∧ Good c s := by
  have g := eqF_val ha feighth.1
  rw [Fnt.ab ha, feighth.2] at g
  unfold eastC eastS
  rw [g]
  by_cases h : val a = 1 / 8
  · rw [if_pos (by simp [h]), if_pos (by simp [h])]
    have hf : Fnt 4604544271217802189 := by unfold Fnt; decide
    refine ⟨_, _, Fnt.ab hf, Fnt.ab hf, hf, hf, ?_⟩
    unfold Near
    decide +kernel
  · rw [if_neg (by simp [h]), if_neg (by simp [h])]
    obtain ⟨fc, c0, c1⟩ := circle_ok
    have hη := eta_le
    have hη2 : (0 : Rat) ≤ pw (-1075) := Rat.le_of_lt (pw_pos _)
    have hh : h80 ≤ 1 / 1000000 * u53 := by decide +kernel
    have hu0 : 0 ≤ u53 := by decide +kernel
    have hu1 : u53 ≤ 1 / 100000000 := by decide +kernel
    have hu : pw (-53) = u53 := pw53
    -- y
    obtain ⟨y, hy⟩ := bin_some_mul ha fc
    have p0 : 0 ≤ val a * val 4618760256179416344 := Rat.mul_nonneg h0 c0
    have p1 : val a * val 4618760256179416344 ≤ 785399 / 1000000 := by
      have a1 := Rat.mul_le_mul_of_nonneg_right h8 c0
      grind
    obtain ⟨y1, y2⟩ := mul_near ha fc hy (B := 1) (by grind) (by grind) (big_ok (by grind))
    obtain ⟨k1, k2⟩ := big2 (v := val a * val 4618760256179416344) (by grind) (by grind)
    have y3 := (mul_mono ha fc hy k1 k2 (z := 0)).2 (by rw [val0]; exact p0)
    rw [val0] at y3
    rw [hu] at y2
    generalize hηd : pw (-1075) = η at *
    obtain ⟨y21, y22⟩ := y2
    have y4 : val y ≤ 7854 / 10000 := by grind
    -- z
    obtain ⟨z, hz⟩ := bin_some_mul y1 y1
    have q0 : 0 ≤ val y * val y := Rat.mul_nonneg y3 y3
    have q1 : val y * val y ≤ 6169 / 10000 := by
      have a1 := Rat.mul_le_mul_of_nonneg_right y4 y3
      grind
    obtain ⟨z1, z2⟩ := mul_near y1 y1 hz (B := 6169 / 10000) q1 (by grind) (big_ok (by grind))
    obtain ⟨l1, l2⟩ := big2 (v := val y * val y) (by grind) (by grind)
    have z3 := (mul_mono y1 y1 hz l1 l2 (z := 0)).2 (by rw [val0]; exact q0)
    rw [val0] at z3
    rw [hu, hηd] at z2
    obtain ⟨z21, z22⟩ := z2
    have hZ : Zb = 617 / 1000 := rfl
    have z4 : val z ≤ Zb := by rw [hZ]; grind
    -- the two folds
    obtain ⟨c, e1, e2, e3⟩ := fold_near z1 z3 z4 (by decide +kernel) cosineL (by decide) cos_fin cos_ok.1
    obtain ⟨p, f1, f2, f3⟩ := fold_near z1 z3 z4 (by decide +kernel) sineL (by decide) sin_fin sin_ok.1
    have hc : foldF cosineL (some z) = some c := by rw [fold_eq' _ _ cos_fin]; exact e1
    have hp : foldF sineL (some z) = some p := by rw [fold_eq' _ _ sin_fin]; exact f1
    change Near (val c) (evalP cosV (val z)) (errP Zb cosV) at e3
    change Near (val p) (evalP sinV (val z)) (errP Zb sinV) at f3
    have sq := squares (val z) z3 z4
    obtain ⟨bC1, bC2⟩ := eval_abs z3 z4 cosV
    obtain ⟨bS1, bS2⟩ := eval_abs z3 z4 sinV
    obtain ⟨_, oc1, oc2⟩ := cos_ok
    obtain ⟨_, os1, os2⟩ := sin_ok
    generalize evalP cosV (val z) = C at *
    generalize evalP sinV (val z) = S at *
    generalize absP Zb cosV = AC at *
    generalize absP Zb sinV = AS at *
    generalize errP Zb cosV = EC at *
    generalize errP Zb sinV = ES at *
    obtain ⟨e31, e32⟩ := e3
    obtain ⟨f31, f32⟩ := f3
    -- s
    obtain ⟨s, hs⟩ := bin_some_mul f2 y1
    have pb : val p ≤ 112 / 100 := by grind
    have pb' : -(112 / 100) ≤ val p := by grind
    obtain ⟨m1, m2⟩ := mul_bd pb pb' y4 (show -(7854 / 10000) ≤ val y by grind)
    obtain ⟨s1, s2⟩ := mul_near f2 y1 hs (B := 9 / 10) (by grind) (by grind) (big_ok (by grind))
    rw [hu, hηd] at s2
    obtain ⟨s21, s22⟩ := s2
    refine ⟨c, s, ?_, ?_, e2, s1, ?_⟩
    · rw [Fnt.ab fc, hy]
      simp only [hz, hc]
    · rw [Fnt.ab fc, hy]
      simp only [hz, hp, hs]
    · -- the squares
      obtain ⟨ec, hec⟩ : ∃ ec : Rat, ec = val c - C := ⟨_, rfl⟩
      obtain ⟨f, hf⟩ : ∃ f : Rat, f = val s - S * val y := ⟨_, rfl⟩
      obtain ⟨g, hg⟩ : ∃ g : Rat, g = val y * val y - val z := ⟨_, rfl⟩
      have id1 : val c * val c + val s * val s - (C * C + val z * (S * S)) = S * S * g + 2 * (S * val y * f) + f * f + 2 * (C * ec) + ec * ec := by
        rw [hec, hf, hg]; grind
      have ec1 : ec ≤ 21 / 10 * u53 := by grind
      have ec2 : -(21 / 10 * u53) ≤ ec := by grind
      -- f
      have d1 : val p - S ≤ 14 / 10 * u53 := by grind
      have d2 : -(14 / 10 * u53) ≤ val p - S := by grind
      obtain ⟨d3, d4⟩ := mul_bd d1 d2 y4 (show -(7854 / 10000) ≤ val y by grind)
      have fs1 : f ≤ 201 / 100 * u53 := by grind
      have fs2 : -(201 / 100 * u53) ≤ f := by grind
      have g1 : g ≤ 62 / 100 * u53 := by grind
      have g2 : -(62 / 100 * u53) ≤ g := by grind
      have S1 : S ≤ 111 / 100 := by grind
      have S2 : -(111 / 100) ≤ S := by grind
      have C1 : C ≤ 133 / 100 := by grind
      have C2 : -(133 / 100) ≤ C := by grind
      obtain ⟨t1, t2⟩ := mul_bd S1 S2 S1 S2
      obtain ⟨t99399, t99499⟩ := mul_bd t1 t2 g1 g2
      obtain ⟨t99599, t99699⟩ := mul_bd S1 S2 y4 (show -(7854 / 10000) ≤ val y by grind)
      obtain ⟨t99799, t99899⟩ := mul_bd t99599 t99699 fs1 fs2
      obtain ⟨t99999, t991099⟩ := mul_bd fs1 fs2 fs1 fs2
      obtain ⟨t991199, t991299⟩ := mul_bd C1 C2 ec1 ec2
      obtain ⟨t991399, t63⟩ := mul_bd ec1 ec2 ec1 ec2
      have uu : u53 * u53 ≤ 1 / 100000000 * u53 := Rat.mul_le_mul_of_nonneg_right hu1 hu0
      have uu0 : 0 ≤ u53 * u53 := Rat.mul_nonneg hu0 hu0
      obtain ⟨sq1, sq2⟩ := sq
      unfold Near
      generalize hq : val c * val c + val s * val s = Q at *
      generalize hw : C * C + val z * (S * S) = W at *
      constructor <;> grind
end Go.Proofs.Ytgalgnopjcpocaa
/- The point of any finite number of turns; the magnitude of such a point. -/
namespace Go.Proofs.Ytgalgnopjcpocaa
open Go.Fl Ieee Go.RowKit

theorem clean_val {v : Nat} (h : Fnt v) : ∃ r, cleanF (some v) = some r ∧ Fnt r ∧ val r = val v := by
  unfold cleanF
  have g := eqF_val h fzero.1
  rw [Fnt.ab h, fzero.2] at g
  rw [g]
  by_cases h0 : val v = 0
  · rw [if_pos (by simp [h0])]
    exact ⟨0, Fnt.ab fzero.1, fzero.1, by rw [fzero.2, h0]⟩
  · rw [if_neg (by simp [h0])]
    exact ⟨v, rfl, h, rfl⟩
theorem Good.swap {c s : Nat} (h : Good c s) : Good s c := by
  refine ⟨h.fs, h.fc, ?_⟩
  have := h.near
  rw [Rat.add_comm]; exact this
/-- Parts that have the same numbers, but for a sign. -/
theorem Good.like {c s c' s' : Nat} (h : Good c s) (f1 : Fnt c') (f2 : Fnt s') (h1 : val c' = val c ∨ val c' = -val c) (h2 : val s' = val s ∨ val s' = -val s) : Good c' s' := by
  refine ⟨f1, f2, ?_⟩
  have e1 : val c' * val c' = val c * val c := by rcases h1 with h | h <;> rw [h] <;> grind
  have e2 : val s' * val s' = val s * val s := by rcases h2 with h | h <;> rw [h] <;> grind
  rw [e1, e2]; exact h.near
theorem turn_good {x : Nat} (hx : Fnt x) (hB : val x ≤ pw 1000) (hB' : -pw 1000 ≤ val x) : ∃ c s, turnC (some x) = some c ∧ turnS (some x) = some s ∧ Good c s := by
  obtain ⟨w, w1, w2, w3, w4⟩ := wrap_val hx hB hB'
  obtain ⟨a, a1, a2, a3, a4⟩ := twice_val w2 w3 w4
  obtain ⟨c, s, c1, s1, hg⟩ := east_good a2 a3 a4
  have hf := fin_of hx
  rw [Fnt.ab hx] at hf
  unfold turnC turnS
  rw [if_pos hf, if_pos hf, w1]
  unfold pointC pointS
  rw [a1, c1, s1]
  -- swapped or not
  have hsw : ∃ p q, (if swapped (some w) = true then some s else some c) = some p ∧ (if swapped (some w) = true then some c else some s) = some q ∧ Good p q := by
    cases swapped (some w)
    · exact ⟨c, s, rfl, rfl, hg⟩
    · exact ⟨s, c, rfl, rfl, hg.swap⟩
  obtain ⟨p, q, hp, hq, hg2⟩ := hsw
  simp only [hp, hq]
  have h1 : ∃ p', (if flipped (some w) = true then (some p).map neg else some p) = some p' ∧ Fnt p' ∧ (val p' = val p ∨ val p' = -val p) := by
    cases flipped (some w)
    · exact ⟨p, rfl, hg2.fc, Or.inl rfl⟩
    · exact ⟨neg p, rfl, fin_neg hg2.fc, Or.inr (vneg p)⟩
  have h2 : ∃ q', (if ltF (some w) (ab 0) = true then (some q).map neg else some q) = some q' ∧ Fnt q' ∧ (val q' = val q ∨ val q' = -val q) := by
    cases ltF (some w) (ab 0)
    · exact ⟨q, rfl, hg2.fs, Or.inl rfl⟩
    · exact ⟨neg q, rfl, fin_neg hg2.fs, Or.inr (vneg q)⟩
  obtain ⟨p', e1, f1, v1⟩ := h1
  obtain ⟨q', e2, f2, v2⟩ := h2
  rw [e1, e2]
  obtain ⟨p2, k1, k2, k3⟩ := clean_val f1
  obtain ⟨q2, l1, l2, l3⟩ := clean_val f2
  exact ⟨p2, q2, k1, l1, hg2.like k2 l2 (by grind) (by grind)⟩

/-! The magnitude. -/
theorem sq_le {a b : Rat} (ha : 0 ≤ a) (hb : 0 ≤ b) (h : a * a ≤ b * b) : a ≤ b := by
  rcases Rat.le_total (a := a) (b := b) with h1 | h1
  · exact h1
  · by_cases he : a = b
    · rw [he]; exact Rat.le_refl
    · have hlt : b < a := by grind
      have h2 := Rat.mul_le_mul_of_nonneg_left h1 ha
      have h3 := Rat.mul_lt_mul_of_pos_right hlt (show 0 < a by grind)
      have h4 := Rat.mul_le_mul_of_nonneg_left h1 hb
      grind
theorem abs_one {m n : Nat} (fm : Fnt m) (fn : Fnt n) (hn0 : 0 ≤ val n) (hmn : val n ≤ val m) (hQ : Near (val m * val m + val n * val n) 1 (11 * u53)) :
    ∃ q t v r A D, bin .quo (some n) (some m) = some q ∧ bin .mul (some q) (some q) = some t ∧ bin .add (some 4607182418800017408) (some t) = some v ∧ Fnt v ∧ double.sqrt v = some r ∧ bin .mul (some m) (some r) = some A ∧ bin .sub (some A) (some 4607182418800017408) = some D ∧ Fnt D ∧ val D ≤ 16 * u53 ∧ -(16 * u53) ≤ val D ∧ 0 < val m := by
  have hη := eta_le
  have hη2 : (0 : Rat) ≤ pw (-1075) := Rat.le_of_lt (pw_pos _)
  have hh : h80 ≤ 1 / 1000000 * u53 := by decide +kernel
  have hu0 : 0 ≤ u53 := by decide +kernel
  have hu1 : u53 ≤ 1 / 100000000 := by decide +kernel
  have hu : pw (-53) = u53 := pw53
  have hu2 : pw (-52) = 2 * u53 := by decide +kernel
  obtain ⟨f1, v1⟩ := fone
  obtain ⟨Q1, Q2⟩ := hQ
  have hm0 : 0 ≤ val m := Rat.le_trans hn0 hmn
  have hnn : val n * val n ≤ val m * val m := by
    have a1 := Rat.mul_le_mul_of_nonneg_right hmn hn0
    have a2 := Rat.mul_le_mul_of_nonneg_left hmn hm0
    grind
  have hnn0 : 0 ≤ val n * val n := Rat.mul_nonneg hn0 hn0
  have hm7 : 7 / 10 ≤ val m := sq_le (by decide +kernel) hm0 (by grind)
  have hm1 : val m ≤ 10001 / 10000 := sq_le hm0 (by decide +kernel) (by grind)
  have hmpos : 0 < val m := by grind
  -- q
  obtain ⟨κ, hκ⟩ : ∃ κ : Rat, κ * val m = val n := ⟨val n / val m, by rw [Rat.div_mul_cancel (by grind)]⟩
  have κ0 : 0 ≤ κ := le_of_mul hmpos (by grind)
  have κ1 : κ ≤ 1 := le_of_mul hmpos (by grind)
  have hq' : ∃ q, bin .quo (some n) (some m) = some q := by
    obtain ⟨s, a, i, ex⟩ := fin_read fn
    obtain ⟨t, b, j, ey⟩ := fin_read fm
    have vm := val_read ey
    have hb : b ≠ 0 := by
      intro h0
      subst h0
      have : dv t 0 j = 0 := by cases t <;> simp [dv, sgn]
      grind
    show ∃ q, double.div n m = some q
    unfold Format.div
    rw [ex, ey]
    simp only [Datum.quotient, if_neg hb, Option.map_some]
    exact ⟨_, rfl⟩
  obtain ⟨q, hq⟩ := hq'
  obtain ⟨q1, q2, q3⟩ := quo_near fn fm hn0 hmpos hq hκ (B := 1) κ1 (by
    have := pw_mono (show (0 : Int) ≤ 990 by omega)
    have e0 : pw 0 = 1 := by decide +kernel
    rw [e0] at this; exact this)
  rw [hu2] at q2
  generalize hηd : pw (-1075) = η at *
  obtain ⟨q21, q22⟩ := q2
  have q4 : val q ≤ 10001 / 10000 := by grind
  -- t
  obtain ⟨t, ht⟩ := bin_some_mul q1 q1
  have qq0 : 0 ≤ val q * val q := Rat.mul_nonneg q3 q3
  have qq1 : val q * val q ≤ 1001 / 1000 := by
    have a1 := Rat.mul_le_mul_of_nonneg_right q4 q3
    grind
  obtain ⟨t1, t2⟩ := mul_near q1 q1 ht (B := 1001 / 1000) qq1 (by grind) (big_ok (by decide +kernel))
  rw [hu, hηd] at t2
  obtain ⟨t992199, t57⟩ := t2
  obtain ⟨k1, k2⟩ := big2 (v := val q * val q) (by grind) (by grind)
  have t99399 := (mul_mono q1 q1 ht k1 k2 (z := 0)).2 (by rw [val0]; exact qq0)
  rw [val0] at t99399
  -- v
  obtain ⟨v, hv⟩ := bin_some_add f1 t1
  obtain ⟨v1', v2⟩ := add_near f1 t1 hv (B := 2002 / 1000) (by grind) (by grind) (by
    have := pw_mono (show (2 : Int) ≤ 1000 by omega)
    have e2 : pw 2 = 4 := by decide +kernel
    generalize pw 1000 = W at *
    grind)
  rw [hu] at v2
  obtain ⟨v21, v22⟩ := v2
  have v3 := (add_mono f1 t1 hv (by
    have := pw_mono (show (2 : Int) ≤ 1000 by omega)
    have e2 : pw 2 = 4 := by decide +kernel
    generalize pw 1000 = W at *
    grind) (by
    have := pw_mono (show (2 : Int) ≤ 1000 by omega)
    have e2 : pw 2 = 4 := by decide +kernel
    generalize pw 1000 = W at *
    grind) (z := 4607182418800017408)).2 (by grind)
  have v4 : 1 ≤ val v := by grind
  have v5 : val v ≤ 201 / 100 := by grind
  -- r
  have hr' : ∃ r, double.sqrt v = some r := by
    obtain ⟨s, a, i, ex⟩ := fin_read v1'
    have vv := val_read ex
    have hs : s = false := by
      cases s
      · rfl
      · rw [dv_true] at vv
        have : 0 ≤ (a : Rat) * pw i := Rat.mul_nonneg Rat.natCast_nonneg (Rat.le_of_lt (pw_pos i))
        grind
    subst hs
    unfold Format.sqrt
    rw [ex]
    simp only [Datum.root]
    split
    · exact ⟨_, rfl⟩
    · exact ⟨_, rfl⟩
  obtain ⟨r, hr⟩ := hr'
  obtain ⟨r1, r2, r3, r4⟩ := sqrt_near v1' v4 v5 hr
  rw [hu] at r4
  obtain ⟨r41, r42⟩ := r4
  -- r r against 1 + κ κ
  obtain ⟨dq, hdq⟩ : ∃ dq : Rat, dq = val q - κ := ⟨_, rfl⟩
  have dq1 : dq ≤ 201 / 100 * u53 := by grind
  have dq2 : -(201 / 100 * u53) ≤ dq := by grind
  have sk : val q + κ ≤ 20002 / 10000 := by grind
  have sk' : -(20002 / 10000) ≤ val q + κ := by grind
  obtain ⟨w1, w2⟩ := mul_bd dq1 dq2 sk sk'
  have idq : val q * val q - κ * κ = dq * (val q + κ) := by rw [hdq]; grind
  obtain ⟨R, hR⟩ : ∃ R : Rat, R = val r * val r - (1 + κ * κ) := ⟨_, rfl⟩
  have R1 : R ≤ 1414 / 100 * u53 := by rw [hR]; grind
  have R2 : -(1414 / 100 * u53) ≤ R := by rw [hR]; grind
  have mm1 : val m * val m ≤ 1001 / 1000 := by
    have a1 := Rat.mul_le_mul_of_nonneg_right hm1 hm0
    grind
  have mm0 : 0 ≤ val m * val m := Rat.mul_nonneg hm0 hm0
  obtain ⟨x1, x2⟩ := mul_bd mm1 (show -(1001 / 1000) ≤ val m * val m by grind) R1 R2
  have idm : (val m * val r) * (val m * val r) = val m * val m + val n * val n + val m * val m * R := by
    rw [hR, ← hκ]; grind
  -- A
  obtain ⟨M, hM⟩ : ∃ M : Rat, M = val m * val r := ⟨_, rfl⟩
  have M0 : 0 ≤ M := by rw [hM]; exact Rat.mul_nonneg hm0 r2
  rw [← hM] at idm
  have MM : M * M ≤ 1 + 26 * u53 := by grind
  have MM' : 1 - 26 * u53 ≤ M * M := by grind
  have M1 : M ≤ 101 / 100 := sq_le M0 (by decide +kernel) (by grind)
  obtain ⟨A, hA⟩ := bin_some_mul fm r1
  obtain ⟨A1, A2⟩ := mul_near fm r1 hA (B := 101 / 100) (by rw [← hM]; exact M1) (by rw [← hM]; grind) (big_ok (by decide +kernel))
  rw [hu, hηd, ← hM] at A2
  obtain ⟨A21, A22⟩ := A2
  have A0 := (mul_mono fm r1 hA (by rw [← hM]; exact (big2 (v := M) (by grind) (by grind)).1) (by rw [← hM]; exact (big2 (v := M) (by grind) (by grind)).2) (z := 0)).2 (by rw [val0, ← hM]; exact M0)
  rw [val0] at A0
  obtain ⟨dA, hdA⟩ : ∃ dA : Rat, dA = val A - M := ⟨_, rfl⟩
  have dA1 : dA ≤ 102 / 100 * u53 := by grind
  have dA2 : -(102 / 100 * u53) ≤ dA := by grind
  have sA : val A + M ≤ 203 / 100 := by grind
  have sA' : -(203 / 100) ≤ val A + M := by grind
  obtain ⟨y1, y2⟩ := mul_bd dA1 dA2 sA sA'
  have idA : val A * val A - M * M = dA * (val A + M) := by rw [hdA]; grind
  have AA1 : val A * val A ≤ 1 + 29 * u53 := by grind
  have AA2 : 1 - 29 * u53 ≤ val A * val A := by grind
  -- A against 1
  have uu0 : 0 ≤ u53 * u53 := Rat.mul_nonneg hu0 hu0
  have uu1 : u53 * u53 ≤ 1 / 100000000 * u53 := Rat.mul_le_mul_of_nonneg_right hu1 hu0
  have up : val A ≤ 1 + 155 / 10 * u53 := sq_le A0 (by grind) (by grind)
  have dn : 1 - 155 / 10 * u53 ≤ val A := sq_le (by grind) A0 (by grind)
  -- D
  obtain ⟨D, hD⟩ := bin_some_sub A1 f1
  obtain ⟨D1, D2⟩ := sub_near A1 f1 hD (B := 1 / 100) (by grind) (by grind) (big_ok (by decide +kernel))
  rw [hu] at D2
  obtain ⟨D21, D22⟩ := D2
  exact ⟨q, t, v, r, A, D, hq, ht, hv, v1', hr, hA, hD, D1, by grind, by grind, hmpos⟩
end Go.Proofs.Ytgalgnopjcpocaa
