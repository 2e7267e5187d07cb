/- Wrap of a number and of that number turned; Speed and Bin of what is turned. -/
import Derived.Test.YtlgejebgkkmacaaSa
namespace Go.Proofs.Ytlgejebgkkmacaa
open Go.Fl Ieee Go.RowKit

theorem lin0 : lin 0 = 0 := by decide +kernel
theorem ab0 : ab 0 = some 0 := rfl
theorem isN0 : isN 0 = false := by decide +kernel
theorem neg_lt0 {x : Nat} (h : isN x = false) : ltF (some x) (ab 0) = decide (lin x < 0) := by
  rw [ab0, ltF_lin h isN0, lin0]
theorem isN_n {x : Nat} (h : isN x = false) : isN (Go.Fl.neg x) = false := by rw [isN_neg]; exact h
/-- What is whole of a number and of that number turned. -/
theorem whole_neg {x : Nat} (hx : isN x = false) : ∃ y y', wholeF (some x) = some y ∧ wholeF (some (Go.Fl.neg x)) = some y' ∧ isN y = false ∧ isN y' = false ∧ (y' = Go.Fl.neg y ∨ Zr x ∧ Zr y ∧ Zr y') := by
  have hn := isN_n hx
  unfold wholeF
  rw [neg_lt0 hx, neg_lt0 hn, lin_neg]
  rcases Int.lt_trichotomy (lin x) 0 with h | h | h
  · have h2 : ¬ -lin x < 0 := by omega
    simp only [h, h2, decide_true, decide_false, if_true, Bool.false_eq_true, if_false, Option.map_some]
    refine ⟨_, _, rfl, rfl, isN_n (floor_ok hn), floor_ok hn, Or.inl ?_⟩
    rw [neg_neg']
  · have h1 : ¬ lin x < 0 := by omega
    have h2 : ¬ -lin x < 0 := by omega
    have hz : Zr x := h
    simp only [h1, h2, decide_false, Bool.false_eq_true, if_false, Option.map_some]
    exact ⟨_, _, rfl, rfl, floor_ok hx, floor_ok hn, Or.inr ⟨hz, hz.floor, hz.neg.floor⟩⟩
  · have h1 : ¬ lin x < 0 := by omega
    have h2 : -lin x < 0 := by omega
    simp only [h1, h2, decide_true, decide_false, if_true, Bool.false_eq_true, if_false, Option.map_some]
    refine ⟨_, _, rfl, rfl, floor_ok hx, isN_n (floor_ok (by rw [neg_neg']; exact hx)), Or.inl ?_⟩
    rw [neg_neg']
/-- What is left, brought into the stretch. -/
def leftF (r : Option Nat) : Option Nat :=
  if gtF r (ab 4602678819172646912) || eqF r (ab 4602678819172646912) then bin .sub r (ab 4607182418800017408)
  else if ltF r (ab 13826050856027422720) then bin .add r (ab 4607182418800017408) else r
/-- Turned, or both nought, or both a half below 0. -/
def Op2 (u u' : Nat) : Prop := u' = Go.Fl.neg u ∨ (Zr u ∧ Zr u') ∨ (u = 13826050856027422720 ∧ u' = 13826050856027422720)
theorem linH : lin 4602678819172646912 = 4602678819172646912 := by decide +kernel
theorem linM : lin 13826050856027422720 = -4602678819172646912 := by decide +kernel
theorem isNH : isN 4602678819172646912 = false := by decide +kernel
theorem isNM : isN 13826050856027422720 = false := by decide +kernel
theorem isN1 : isN 4607182418800017408 = false := by decide +kernel
theorem abH : ab 4602678819172646912 = some 4602678819172646912 := rfl
theorem abM : ab 13826050856027422720 = some 13826050856027422720 := rfl
theorem ab1 : ab 4607182418800017408 = some 4607182418800017408 := rfl
theorem one_num : ∃ s m e, double.read 4607182418800017408 = .number s m e := ⟨_, _, _, rfl⟩
theorem left_lin {r : Nat} (hr : isN r = false) : leftF (some r) = if 4602678819172646912 ≤ lin r then bin .sub (some r) (some 4607182418800017408) else if lin r < -4602678819172646912 then bin .add (some r) (some 4607182418800017408) else some r := by
  unfold leftF
  rw [abH, abM, ab1, gtF_lin hr isNH, eqF_lin hr isNH, ltF_lin hr isNM, linH, linM]
  by_cases h : (4602678819172646912 : Int) ≤ lin r
  · rw [if_pos h, if_pos]
    simp only [Bool.or_eq_true, decide_eq_true_eq]; omega
  · rw [if_neg h, if_neg]
    · by_cases h2 : lin r < -4602678819172646912
      · rw [if_pos h2, if_pos (by simpa using h2)]
      · rw [if_neg h2, if_neg (by simpa using h2)]
    · simp only [Bool.or_eq_true, decide_eq_true_eq]; omega
theorem word_of_lin {r : Nat} (hlt : r < 2 ^ 64) : (lin r = 4602678819172646912 → r = 4602678819172646912) ∧ (lin r = -4602678819172646912 → r = 13826050856027422720) := by
  rcases Nat.lt_or_ge r (2 ^ 63) with h | h
  · rw [lin_low h]; constructor <;> intro e <;> omega
  · rw [lin_high h hlt]; constructor <;> intro e <;> omega
theorem half_one : bin .sub (some 4602678819172646912) (some 4607182418800017408) = some 13826050856027422720 := by decide +kernel
theorem neg_half : Go.Fl.neg 4602678819172646912 = 13826050856027422720 := by decide +kernel
theorem neg_mhalf : Go.Fl.neg 13826050856027422720 = 4602678819172646912 := by decide +kernel
theorem zr_op {r r' : Nat} (h : r' = Go.Fl.neg r ∨ Zr r ∧ Zr r') : Op2 r r' := h.elim Or.inl fun h => Or.inr (Or.inl h)
theorem left_neg {r r' : Nat} (hr : isN r = false) (hlt : r < 2 ^ 64) (h : r' = Go.Fl.neg r ∨ Zr r ∧ Zr r') : ∃ u u', leftF (some r) = some u ∧ leftF (some r') = some u' ∧ Op2 u u' := by
  rcases h with rfl | ⟨h1, h2⟩
  · have hn := isN_n hr
    rw [left_lin hr, left_lin hn, lin_neg]
    obtain ⟨k1, k2⟩ := word_of_lin hlt
    rcases Int.lt_trichotomy (lin r) 4602678819172646912 with h | h | h
    · rw [if_neg (by omega)]
      rcases Int.lt_trichotomy (lin r) (-4602678819172646912) with g | g | g
      · -- below
        rw [if_pos g, if_pos (by omega)]
        obtain ⟨u, hu⟩ := add_some' hr one_num
        have hu' : bin .add (some r) (some 4607182418800017408) = some u := hu
        have hs := hu'
        rw [add_sub isN1] at hs
        obtain ⟨u', a1, a2⟩ := sub_neg hr (isN_n isN1) hs
        rw [neg_neg'] at a1
        exact ⟨u, u', hu', a1, zr_op a2⟩
      · rw [if_neg (by omega), if_pos (by omega)]
        obtain rfl := k2 g
        rw [neg_mhalf]
        exact ⟨_, _, rfl, half_one, Or.inr (Or.inr ⟨rfl, rfl⟩)⟩
      · rw [if_neg (by omega), if_neg (by omega), if_neg (by omega)]
        exact ⟨_, _, rfl, rfl, Or.inl rfl⟩
    · rw [if_pos (by omega), if_neg (by omega), if_neg (by omega)]
      obtain rfl := k1 h
      rw [neg_half]
      exact ⟨_, _, half_one, rfl, Or.inr (Or.inr ⟨rfl, rfl⟩)⟩
    · rw [if_pos (by omega), if_neg (by omega), if_pos (by omega)]
      obtain ⟨u, hu⟩ := sub_some' hr one_num
      have hu' : bin .sub (some r) (some 4607182418800017408) = some u := hu
      obtain ⟨u', a1, a2⟩ := sub_neg hr isN1 hu'
      rw [← add_sub isN1] at a1
      exact ⟨u, u', hu', a1, zr_op a2⟩
  · have e1 : lin r = 0 := h1
    have e2 : lin r' = 0 := h2
    rw [left_lin hr, left_lin h2.num, e1, e2]
    exact ⟨r, r', rfl, rfl, Or.inr (Or.inl ⟨h1, h2⟩)⟩
theorem wrapF_left {x : Nat} (h : fin (some x) = true) : wrapF (some x) = leftF (bin .sub (some x) (wholeF (some x))) := by
  unfold wrapF leftF; rw [if_pos h]
theorem wrap_neg {x : Nat} (hx : Fnt x) : ∃ u u', wrapF (some x) = some u ∧ wrapF (some (Go.Fl.neg x)) = some u' ∧ Op2 u u' := by
  have f1 := fin_of hx
  have f2 := fin_of (fin_neg hx)
  rw [Fnt.ab hx] at f1
  rw [Fnt.ab (fin_neg hx)] at f2
  rw [wrapF_left f1, wrapF_left f2]
  obtain ⟨y, y', e1, e2, n1, n2, h⟩ := whole_neg hx.num
  rw [e1, e2]
  rcases h with rfl | ⟨z1, z2, z3⟩
  · obtain ⟨r, hr⟩ := sub_some (fin_read hx) n1
    have hr' : bin .sub (some x) (some y) = some r := hr
    obtain ⟨r', a1, a2⟩ := sub_neg hx.num n1 hr'
    rw [hr', a1]
    exact left_neg (bin_num hr') (sub_lt hr') a2
  · obtain ⟨r, r1, r2⟩ := z1.sub z2
    obtain ⟨r', s1, s2⟩ := z1.neg.sub z3
    rw [r1, s1]
    exact left_neg r2.num (sub_lt r1) (Or.inr ⟨r2, s2⟩)
theorem ab_of {o : Option Nat} (ho : Cl o) {x : Nat} (h : o = some x) : ab x = some x := ab_some (ho x h)
end Go.Proofs.Ytlgejebgkkmacaa
