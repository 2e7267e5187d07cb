/- Every finite number of turns has a point whose parts' squares make 1, but for a little. -/
import Derived.Test.YtlgejebgkkmacaaFw
namespace Go.Proofs.Ytlgejebgkkmacaa
open Go.Fl Ieee Go.RowKit

theorem fone : Fnt 4607182418800017408 ∧ val 4607182418800017408 = 1 := ⟨by unfold Fnt; decide, by decide +kernel⟩
theorem fmone : Fnt 13830554455654793216 ∧ val 13830554455654793216 = -1 := ⟨by unfold Fnt; decide, by decide +kernel⟩
theorem fhalf : Fnt 4602678819172646912 ∧ val 4602678819172646912 = 1 / 2 := ⟨by unfold Fnt; decide, by decide +kernel⟩
theorem fmhalf : Fnt 13826050856027422720 ∧ val 13826050856027422720 = -1 / 2 := ⟨by unfold Fnt; decide, by decide +kernel⟩
theorem fquarter : Fnt 4598175219545276416 ∧ val 4598175219545276416 = 1 / 4 := ⟨by unfold Fnt; decide, by decide +kernel⟩
theorem feighth : Fnt 4593671619917905920 ∧ val 4593671619917905920 = 1 / 8 := ⟨by unfold Fnt; decide, by decide +kernel⟩
theorem fzero : Fnt 0 ∧ val 0 = 0 := ⟨by unfold Fnt; decide, by decide +kernel⟩
theorem big2 {v : Rat} (h : v ≤ 2) (h' : -2 ≤ v) : v ≤ pw 1000 ∧ -pw 1000 ≤ v := by
  have := big_ok (B := 2) (by grind)
  generalize pw 1000 = W at *
  constructor <;> grind
/-- A difference that lies between two floats. -/
theorem sub_between {x y a b : Nat} (hx : Fnt x) (hy : Fnt y) {A C : Rat} (ha : val a = A) (hb : val b = C) (hA : A ≤ val x - val y) (hC : val x - val y ≤ C) (hA2 : -2 ≤ A) (hC2 : C ≤ 2) : ∃ r, bin .sub (some x) (some y) = some r ∧ Fnt r ∧ A ≤ val r ∧ val r ≤ C := by
  obtain ⟨r, hr⟩ := bin_some_sub hx hy
  obtain ⟨k1, k2⟩ := big2 (v := val x - val y) (by grind) (by grind)
  have m1 := sub_mono hx hy hr k1 k2 (z := b)
  have m2 := sub_mono hx hy hr k1 k2 (z := a)
  obtain ⟨f, _⟩ := sub_near hx hy hr (B := 2) (by grind) (by grind) (big_ok (by grind))
  refine ⟨r, hr, f, ?_, ?_⟩
  · have := m2.2 (by grind); grind
  · have := m1.1 (by grind); grind
theorem add_between {x y a b : Nat} (hx : Fnt x) (hy : Fnt y) {A C : Rat} (ha : val a = A) (hb : val b = C) (hA : A ≤ val x + val y) (hC : val x + val y ≤ C) (hA2 : -2 ≤ A) (hC2 : C ≤ 2) : ∃ r, bin .add (some x) (some y) = some r ∧ Fnt r ∧ A ≤ val r ∧ val r ≤ C := by
  obtain ⟨r, hr⟩ := bin_some_add hx hy
  obtain ⟨k1, k2⟩ := big2 (v := val x + val y) (by grind) (by grind)
  have m1 := add_mono hx hy hr k1 k2 (z := b)
  have m2 := add_mono hx hy hr k1 k2 (z := a)
  obtain ⟨f, _⟩ := add_near hx hy hr (B := 2) (by grind) (by grind) (big_ok (by grind))
  refine ⟨r, hr, f, ?_, ?_⟩
  · have := m2.2 (by grind); grind
  · have := m1.1 (by grind); grind
theorem whole_val {x : Nat} (hx : Fnt x) (hB : val x ≤ pw 1000) (hB' : -pw 1000 ≤ val x) : ∃ t, wholeF (some x) = some t ∧ Fnt t ∧ (0 ≤ val x → 0 ≤ val x - val t ∧ val x - val t ≤ 1) ∧ (val x < 0 → -1 ≤ val x - val t ∧ val x - val t ≤ 0) := by
  unfold wholeF
  have h0 := ltF_val hx fzero.1
  rw [Fnt.ab hx, fzero.2] at h0
  rw [h0]
  by_cases hn : val x < 0
  · rw [if_pos (by simp [hn])]
    have hv := vneg x
    obtain ⟨f1, f2, f3, f4⟩ := floor_val (fin_neg hx) (by grind) (by grind)
    refine ⟨neg (floor (neg x)), rfl, fin_neg f1, fun h => by grind, fun _ => ?_⟩
    rw [vneg]
    constructor <;> grind
  · rw [if_neg (by simp [hn])]
    obtain ⟨f1, f2, f3, f4⟩ := floor_val hx (by grind) hB
    exact ⟨floor x, rfl, f1, fun _ => ⟨by grind, by grind⟩, fun h => absurd h hn⟩
theorem wrap_val {x : Nat} (hx : Fnt x) (hB : val x ≤ pw 1000) (hB' : -pw 1000 ≤ val x) : ∃ w, wrapF (some x) = some w ∧ Fnt w ∧ -1 / 2 ≤ val w ∧ val w ≤ 1 / 2 := by
  obtain ⟨t, ht, ft, t1, t2⟩ := whole_val hx hB hB'
  have hr : ∃ r, bin .sub (some x) (some t) = some r ∧ Fnt r ∧ ((0 ≤ val r ∧ val r ≤ 1) ∨ (-1 ≤ val r ∧ val r ≤ 0)) := by
    by_cases hn : val x < 0
    · obtain ⟨a1, a2⟩ := t2 hn
      obtain ⟨r, r1, r2, r3, r4⟩ := sub_between hx ft fmone.2 fzero.2 a1 a2 (by grind) (by grind)
      exact ⟨r, r1, r2, Or.inr ⟨r3, r4⟩⟩
    · obtain ⟨a1, a2⟩ := t1 (by grind)
      obtain ⟨r, r1, r2, r3, r4⟩ := sub_between hx ft fzero.2 fone.2 a1 a2 (by grind) (by grind)
      exact ⟨r, r1, r2, Or.inl ⟨r3, r4⟩⟩
  obtain ⟨r, r1, r2, r3⟩ := hr
  have hf := fin_of hx
  rw [Fnt.ab hx] at hf
  unfold wrapF
  rw [if_pos hf, ht, r1]
  have g1 := gtF_val r2 fhalf.1
  have g2 := eqF_val r2 fhalf.1
  have g3 := ltF_val r2 fmhalf.1
  rw [Fnt.ab r2] at g1 g2 g3
  simp only [g1, g2, g3, fhalf.2, fmhalf.2]
  by_cases h1 : 1 / 2 ≤ val r
  · have hc : (decide (1 / 2 < val r) || decide (val r = 1 / 2)) = true := by
      by_cases h2 : val r = 1 / 2
      · simp [h2]
      · have : 1 / 2 < val r := by grind
        simp [this]
    rw [if_pos hc, Fnt.ab fone.1]
    have e1 := fone.2
    obtain ⟨w, w1, w2, w3, w4⟩ := sub_between r2 fone.1 fmhalf.2 fzero.2 (by grind) (by grind) (by grind) (by grind)
    exact ⟨w, w1, w2, w3, by grind⟩
  · have hc : (decide (1 / 2 < val r) || decide (val r = 1 / 2)) = false := by
      have a : ¬ 1 / 2 < val r := by grind
      have b : ¬ val r = 1 / 2 := by grind
      simp [a, b]
    rw [if_neg (by rw [hc]; exact Bool.false_ne_true)]
    by_cases h2 : val r < -1 / 2
    · rw [if_pos (by simp [h2]), Fnt.ab fone.1]
      have e1 := fone.2
      obtain ⟨w, w1, w2, w3, w4⟩ := add_between r2 fone.1 fzero.2 fhalf.2 (by grind) (by grind) (by grind) (by grind)
      exact ⟨w, w1, w2, by grind, w4⟩
    · rw [if_neg (by simp [h2])]
      exact ⟨r, rfl, r2, by grind, by grind⟩
theorem twice_val {w : Nat} (hw : Fnt w) (h1 : -1 / 2 ≤ val w) (h2 : val w ≤ 1 / 2) : ∃ a, twice (some w) = some a ∧ Fnt a ∧ 0 ≤ val a ∧ val a ≤ 1 / 8 := by
  have n24 : (1 / 2 : Rat) = 2 * (1 / 4) := by decide +kernel
  have n48 : (1 / 4 : Rat) = 2 * (1 / 8) := by decide +kernel
  have n80 : (0 : Rat) ≤ 1 / 8 := by decide +kernel
  have fa := fin_abs hw
  have va := vabs w
  have b1 : 0 ≤ val (Go.Fl.abs w) ∧ val (Go.Fl.abs w) ≤ 1 / 2 := by
    rw [va]; unfold absR; split <;> constructor <;> grind
  have ho : ∃ a, once (some w) = some a ∧ Fnt a ∧ 0 ≤ val a ∧ val a ≤ 1 / 4 := by
    unfold once flipped
    simp only [Option.map_some]
    have g := gtF_val fa fquarter.1
    rw [Fnt.ab fa, fquarter.2] at g
    rw [g]
    by_cases h : 1 / 4 < val (Go.Fl.abs w)
    · rw [if_pos (by simp [h]), Fnt.ab fhalf.1]
      have e1 := fhalf.2
      obtain ⟨r, r1, r2, r3, r4⟩ := sub_between fhalf.1 fa fzero.2 fquarter.2 (by grind) (by grind) (by grind) (by grind)
      exact ⟨r, r1, r2, r3, r4⟩
    · rw [if_neg (by simp [h])]
      exact ⟨_, rfl, fa, b1.1, by grind⟩
  obtain ⟨a, a1, a2, a3, a4⟩ := ho
  unfold twice swapped
  rw [a1]
  have g := gtF_val a2 feighth.1
  rw [Fnt.ab a2, feighth.2] at g
  rw [g]
  by_cases h : 1 / 8 < val a
  · rw [if_pos (by simp [h]), Fnt.ab fquarter.1]
    have e1 := fquarter.2
    obtain ⟨r, r1, r2, r3, r4⟩ := sub_between fquarter.1 a2 fzero.2 feighth.2 (by grind) (by grind) (by grind) (by grind)
    exact ⟨r, r1, r2, r3, r4⟩
  · rw [if_neg (by simp [h])]
    exact ⟨a, rfl, a2, a3, by grind⟩
end Go.Proofs.Ytlgejebgkkmacaa
