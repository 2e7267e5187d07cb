/- Wrap of a number and of that number turned; Speed and Bin of what is turned. -/
import Derived.Test.YtcekbnjgdgapgaaSa
namespace Go.Proofs.Ytcekbnjgdgapgaa
open Go.Fl Ieee Go.RowKit

theorem lin0 : lin 0 = 0 := by decide +kernel
theorem ab0 : ab 0 = some 0 := rfl
theorem isN0 : isN 0 = false := by decide +kernel
theorem neg_lt0 {x : Nat} (h : isN x = false) : ltF (some x) (ab 0) = decide (lin x < 0) := by
  rw [ab0, ltF_lin h isN0, lin0]
theorem isN_n {x : Nat} (h : isN x = false) : isN (Go.Fl.neg x) = false := by rw [isN_neg]; exact h
/-- What is whole of a number and of that number turned. -/
theorem whole_neg {x : Nat} (hx : isN x = false) : ∃ y y', wholeF (some x) = some y ∧ wholeF (some (Go.Fl.neg x)) = some y' ∧ isN y = false ∧ isN y' = false ∧ (y' = Go.Fl.neg y ∨ Zr x ∧ Zr y ∧ Zr y') := by
  have hn := isN_n hx
  unfold wholeF
  rw [neg_lt0 hx, neg_lt0 hn, lin_neg]
  rcases Int.lt_trichotomy (lin x) 0 with h | h | h
  · have h2 : ¬ -lin x < 0 := by omega
    simp only [h, h2, decide_true, decide_false, if_true, Bool.false_eq_true, if_false, Option.map_some]
    refine ⟨_, _, rfl, rfl, isN_n (floor_ok hn), floor_ok hn, Or.inl ?_⟩
    rw [neg_neg']
  · have h1 : ¬ lin x < 0 := by omega
    have h2 : ¬ -lin x < 0 := by omega
    have hz : Zr x := h
    simp only [h1, h2, decide_false, Bool.false_eq_true, if_false, Option.map_some]
    exact ⟨_, _, rfl, rfl, floor_ok hx, floor_ok hn, Or.inr ⟨hz, hz.floor, hz.neg.floor⟩⟩
  · have h1 : ¬ lin x < 0 := by omega
    have h2 : -lin x < 0 := by omega
    simp only [h1, h2, decide_true, decide_false, if_true, Bool.false_eq_true, if_false, Option.map_some]
    refine ⟨_, _, rfl, rfl, floor_ok hx, isN_n (floor_ok (by rw [neg_neg']; exact hx)), Or.inl ?_⟩
    rw [neg_neg']
/-- What is left, brought into the stretch. -/
def leftF (r : Option Nat) : Option Nat :=
  if gtF r (ab 4602678819172646912) || eqF r (ab 4602678819172646912) then bin .sub r (ab 4607182418800017408)
  else if ltF r (ab 13826050856027422720) then bin .add r (ab 4607182418800017408) else r
/-- Turned, or both nought, or both a half below 0. -/
def Op2 (u u' : Nat) : Prop := u' = Go.Fl.neg u ∨ (Zr u ∧ Zr u') ∨ (u = 13826050856027422720 ∧ u' = 13826050856027422720)
theorem linH : lin 4602678819172646912 = 4602678819172646912 := by decide +kernel
theorem linM : lin 13826050856027422720 = -4602678819172646912 := by decide +kernel
theorem isNH : isN 4602678819172646912 = false := by decide +kernel
theorem isNM : isN 13826050856027422720 = false := by decide +kernel
theorem isN1 : isN 4607182418800017408 = false := by decide +kernel
theorem abH : ab 4602678819172646912 = some 4602678819172646912 := rfl
theorem abM : ab 13826050856027422720 = some 13826050856027422720 := rfl
theorem ab1 : ab 4607182418800017408 = some 4607182418800017408 := rfl
theorem one_num : ∃ s m e, double.read 4607182418800017408 = .number s m e := ⟨_, _, _, rfl⟩
theorem left_lin {r : Nat} (hr : isN r = false) : leftF (some r) = if 4602678819172646912 ≤ lin r then bin .sub (some r) (some 4607182418800017408) else if lin r < -4602678819172646912 then bin .add (some r) (some 4607182418800017408) else some r := by
  unfold leftF
  rw [abH, abM, ab1, gtF_lin hr isNH, eqF_lin hr isNH, ltF_lin hr isNM, linH, linM]
  by_cases h : (4602678819172646912 : Int) ≤ lin r
  · rw [if_pos h, if_pos]
    simp only [Bool.or_eq_true, decide_eq_true_eq]; omega
  · rw [if_neg h, if_neg]
    · by_cases h2 : lin r < -4602678819172646912
      · rw [if_pos h2, if_pos (by simpa using h2)]
      · rw [if_neg h2, if_neg (by simpa using h2)]
    · simp only [Bool.or_eq_true, decide_eq_true_eq]; omega
theorem word_of_lin {r : Nat} (hlt : r < 2 ^ 64) : (lin r = 4602678819172646912 → r = 4602678819172646912) ∧ (lin r = -4602678819172646912 → r = 13826050856027422720) := by
  rcases Nat.lt_or_ge r (2 ^ 63) with h | h
  · rw [lin_low h]; constructor <;> intro e <;> omega
  · rw [lin_high h hlt]; constructor <;> intro e <;> omega
theorem half_one : bin .sub (some 4602678819172646912) (some 4607182418800017408) = some 13826050856027422720 := by decide +kernel
theorem neg_half : Go.Fl.neg 4602678819172646912 = 13826050856027422720 := by decide +kernel
theorem neg_mhalf : Go.Fl.neg 13826050856027422720 = 4602678819172646912 := by decide +kernel
theorem zr_op {r r' : Nat} (h : r' = Go.Fl.neg r ∨ Zr r ∧ Zr r') : Op2 r r' := h.elim Or.inl fun h => Or.inr (Or.inl h)
theorem left_neg {r r' : Nat} (hr : isN r = false) (hlt : r < 2 ^ 64) (h : r' = Go.Fl.neg r ∨ Zr r ∧ Zr r') : ∃ u u', leftF (some r) = some u ∧ leftF (some r') = some u' ∧ Op2 u u' := by
  rcases h with rfl | ⟨h1, h2⟩
  · have hn := isN_n hr
    rw [left_lin hr, left_lin hn, lin_neg]
    obtain ⟨k1, k2⟩ := word_of_lin hlt
    rcases Int.lt_trichotomy (lin r) 4602678819172646912 with h | h | h
    · rw [if_neg (by omega)]
      rcases Int.lt_trichotomy (lin r) (-4602678819172646912) with g | g | g
      · -- below
        rw [if_pos g, if_pos (by omega)]
        obtain ⟨u, hu⟩ := add_some' hr one_num
        have hu' : bin .add (some r) (some 4607182418800017408) = some u := hu
        have hs := hu'
        rw [add_sub isN1] at hs
        obtain ⟨u', a1, a2⟩ := sub_neg hr (isN_n isN1) hs
        rw [neg_neg'] at a1
        exact ⟨u, u', hu', a1, zr_op a2⟩
      · rw [if_neg (by omega), if_pos (by omega)]
        obtain rfl := k2 g
        rw [neg_mhalf]
        exact ⟨_, _, rfl, half_one, Or.inr (Or.inr ⟨rfl, rfl⟩)⟩
      · rw [if_neg (by omega), if_neg (by omega), if_neg (by omega)]
        exact ⟨_, _, rfl, rfl, Or.inl rfl⟩
    · rw [if_pos (by omega), if_neg (by omega), if_neg (by omega)]
      obtain rfl := k1 h
      rw [neg_half]
      exact ⟨_, _, half_one, rfl, Or.inr (Or.inr ⟨rfl, rfl⟩)⟩
    · rw [if_pos (by omega), if_neg (by omega), if_pos (by omega)]
      obtain ⟨u, hu⟩ := sub_some' hr one_num
      have hu' : bin .sub (some r) (some 4607182418800017408) = some u := hu
      obtain ⟨u', a1, a2⟩ := sub_neg hr isN1 hu'
      rw [← add_sub isN1] at a1
      exact ⟨u, u', hu', a1, zr_op a2⟩
  · have e1 : lin r = 0 := h1
    have e2 : lin r' = 0 := h2
    rw [left_lin hr, left_lin h2.num, e1, e2]
    exact ⟨r, r', rfl, rfl, Or.inr (Or.inl ⟨h1, h2⟩)⟩
theorem wrapF_left {x : Nat} (h : fin (some x) = true) : wrapF (some x) = leftF (bin .sub (some x) (wholeF (some x))) := by
  unfold wrapF leftF; rw [if_pos h]
theorem wrap_neg {x : Nat} (hx : Fnt x) : ∃ u u', wrapF (some x) = some u ∧ wrapF (some (Go.Fl.neg x)) = some u' ∧ Op2 u u' := by
  have f1 := fin_of hx
  have f2 := fin_of (fin_neg hx)
  rw [Fnt.ab hx] at f1
  rw [Fnt.ab (fin_neg hx)] at f2
  rw [wrapF_left f1, wrapF_left f2]
  obtain ⟨y, y', e1, e2, n1, n2, h⟩ := whole_neg hx.num
  rw [e1, e2]
  rcases h with rfl | ⟨z1, z2, z3⟩
  · obtain ⟨r, hr⟩ := sub_some (fin_read hx) n1
    have hr' : bin .sub (some x) (some y) = some r := hr
    obtain ⟨r', a1, a2⟩ := sub_neg hx.num n1 hr'
    rw [hr', a1]
    exact left_neg (bin_num hr') (sub_lt hr') a2
  · obtain ⟨r, r1, r2⟩ := z1.sub z2
    obtain ⟨r', s1, s2⟩ := z1.neg.sub z3
    rw [r1, s1]
    exact left_neg r2.num (sub_lt r1) (Or.inr ⟨r2, s2⟩)
theorem ab_of {o : Option Nat} (ho : Cl o) {x : Nat} (h : o = some x) : ab x = some x := ab_some (ho x h)
/-- Speed of what is turned. -/
theorem sp_neg (v r : Nat) (E R : Int) (b : Nat) : spF (ab v) (ab r) E R (ab (Go.Fl.neg b)) = (spF (ab v) (ab r) E R (ab b)).map Go.Fl.neg := by
  unfold spF
  rw [ab_neg, quo_neg_l (Cl.ab _), mul_neg_l (Cl.bin _ _ _), quo_neg_l (Cl.bin _ _ _)]
theorem fin_map {o : Option Nat} (ho : Cl o) : fin (o.map Go.Fl.neg) = fin o := by
  cases o with
  | none => rfl
  | some x =>
    have := fin_neg_eq x
    rw [ab_neg, ab_some (ho x rfl)] at this
    exact this
theorem speed_signs (c v r : Nat) (E R : Int) (b : Nat) : (speedF (ab c) (ab v) (ab r) E R (ab (Go.Fl.neg b))).2 = (speedF (ab c) (ab v) (ab r) E R (ab b)).2 ∧ ((speedF (ab c) (ab v) (ab r) E R (ab b)).2 = 0 → ∀ x y, ab x = (speedF (ab c) (ab v) (ab r) E R (ab b)).1 → ab y = (speedF (ab c) (ab v) (ab r) E R (ab (Go.Fl.neg b))).1 → eqF (ab y) (ab (Go.Fl.neg x)) = true) := by
  unfold speedF
  by_cases hk : checkF (ab c) (ab v) (ab r) E R ≠ 0
  · rw [if_pos hk, if_pos hk]
    exact ⟨rfl, fun h => absurd h hk⟩
  · rw [if_neg hk, if_neg hk, fin_neg_eq]
    by_cases hf : fin (ab b) = false
    · rw [if_pos hf, if_pos hf]
      exact ⟨rfl, fun h => by cases h⟩
    · rw [if_neg hf, if_neg hf, sp_neg]
      have hc : Cl (spF (ab v) (ab r) E R (ab b)) := Cl.bin _ _ _
      generalize spF (ab v) (ab r) E R (ab b) = o at *
      unfold negOr
      rw [fin_map hc]
      by_cases hg : fin o = true
      · rw [if_pos hg, if_pos hg]
        refine ⟨rfl, fun _ x y hx hy => ?_⟩
        cases o with
        | none => cases hg
        | some z =>
          simp only [Option.map_some] at hx hy
          rw [← of_ab hx.symm.symm] at hy
          have ey := of_ab hy
          have : y = Go.Fl.neg x := ey
          rw [this, eqF_self]
          have : isN (Go.Fl.neg x) = false := by
            rw [of_ab hx, neg_neg']; exact hc z rfl
          rw [this]; rfl
      · rw [if_neg hg, if_neg hg]
        exact ⟨rfl, fun h => by cases h⟩
theorem turns_neg (v r : Nat) (E : Int) (s : Nat) : turnsF (ab v) (ab r) E (ab (Go.Fl.neg s)) = (turnsF (ab v) (ab r) E (ab s)).map Go.Fl.neg := by
  unfold turnsF
  rw [ab_neg, mul_neg_r (Cl.ab _), quo_neg_l (Cl.bin _ _ _), mul_neg_l (Cl.bin _ _ _)]
theorem half_rows : ∀ R : Nat, R < 257 → 1 ≤ R → ∃ p h, bin .mul (some 13826050856027422720) (ab (floatOfInt .f64 (R : Int))) = some p ∧ bin .quo (ab (Go.Fl.neg (floatOfInt .f64 (R : Int)))) (ab 4611686018427387904) = some h ∧ eqF (some p) (some h) = true := by
  have H : ∀ R : Nat, R < 257 → 1 ≤ R → (match bin .mul (some 13826050856027422720) (ab (floatOfInt .f64 (R : Int))), bin .quo (ab (Go.Fl.neg (floatOfInt .f64 (R : Int)))) (ab 4611686018427387904) with | some p, some h => eqF (some p) (some h) | _, _ => false) = true := by decide +kernel
  intro R h1 h2
  have := H R h1 h2
  split at this
  · rename_i p h e1 e2
    exact ⟨p, h, e1, e2, this⟩
  · cases this
theorem eq_zr {x y : Nat} (hx : Zr x) (hy : Zr y) : eqF (some x) (some y) = true := by
  rw [eqF_lin hx.num hy.num]
  have e1 : lin x = 0 := hx
  have e2 : lin y = 0 := hy
  rw [e1, e2]; rfl
theorem bin_signs (c v r : Nat) (E R : Int) (s : Nat) : (binF (ab c) (ab v) (ab r) E R (ab (Go.Fl.neg s))).2 = (binF (ab c) (ab v) (ab r) E R (ab s)).2 ∧ ((binF (ab c) (ab v) (ab r) E R (ab s)).2 = 0 → ∀ z w h, ab z = (binF (ab c) (ab v) (ab r) E R (ab s)).1 → ab w = (binF (ab c) (ab v) (ab r) E R (ab (Go.Fl.neg s))).1 → ab h = bin .quo (ab (Go.Fl.neg (floatOfInt .f64 R))) (ab 4611686018427387904) →
    (eqF (ab w) (ab (Go.Fl.neg z)) || (eqF (ab z) (ab h) && eqF (ab w) (ab h))) = true) := by
  unfold binF
  by_cases hk : checkF (ab c) (ab v) (ab r) E R ≠ 0
  · rw [if_pos hk, if_pos hk]
    exact ⟨rfl, fun h => absurd h hk⟩
  · rw [if_neg hk, if_neg hk, fin_neg_eq]
    by_cases hf : fin (ab s) = false
    · rw [if_pos hf, if_pos hf]
      exact ⟨rfl, fun h => by cases h⟩
    · rw [if_neg hf, if_neg hf, turns_neg]
      have hc : Cl (turnsF (ab v) (ab r) E (ab s)) := Cl.bin _ _ _
      generalize turnsF (ab v) (ab r) E (ab s) = o at *
      rw [fin_map hc]
      by_cases hg : fin o = false
      · rw [if_pos hg, if_pos hg]
        exact ⟨rfl, fun h => by cases h⟩
      · rw [if_neg hg, if_neg hg]
        refine ⟨rfl, fun _ z w h hz hw hh => ?_⟩
        cases o with
        | none => exact absurd rfl hg
        | some t =>
          have ft : Fnt t := fin_iff (by rw [ab_some (hc t rfl)]; simpa using hg)
          have hK := check0 (c := c) (v := v) (r := r) (E := E) (R := R) (by simpa using hk)
          obtain ⟨fR, vR, pR⟩ := rows_val hK.r1 hK.r2
          simp only [Option.map_some] at hz hw
          rw [neg_neg'] at hw
          obtain ⟨u, u', e1, e2, ho⟩ := wrap_neg (fin_neg ft)
          rw [neg_neg'] at e2
          rw [e1] at hz
          rw [e2] at hw
          rcases ho with rfl | ⟨z1, z2⟩ | ⟨rfl, rfl⟩
          · have hm := mul_neg_l (o := some u) (p := ab (floatOfInt .f64 R)) (fun x hx => by
              obtain ⟨q, q1, q2⟩ := wrap_some (x := Go.Fl.neg t) (fin_of (fin_neg ft))
              rw [Fnt.ab (fin_neg ft), e1] at q1
              cases q1; cases hx; exact q2)
            rw [Option.map_some] at hm
            rw [hm, ← hz, ← ab_neg] at hw
            rw [hw]
            have : eqF (ab (Go.Fl.neg z)) (ab (Go.Fl.neg z)) = true := by
              rw [eqF_self, isN_neg]
              have hzN : ∃ p, ab z = some p := by
                obtain ⟨q, q1, q2⟩ := wrap_some (x := Go.Fl.neg t) (fin_of (fin_neg ft))
                rw [Fnt.ab (fin_neg ft), e1] at q1
                cases q1
                obtain ⟨p, hp⟩ := mul_some_pos q2 fR pR
                exact ⟨p, by rw [hz, Fnt.ab fR]; exact hp⟩
              obtain ⟨p, hp⟩ := hzN
              have := Cl.ab z p hp
              rw [of_ab hp, this]; rfl
            rw [this]; rfl
          · obtain ⟨p, p1, p2⟩ := z1.mul fR
            obtain ⟨p', q1, q2⟩ := z2.mul fR
            rw [Fnt.ab fR] at hz hw
            rw [p1] at hz
            rw [q1] at hw
            have a1 := of_ab hz
            have a2 := of_ab hw
            subst a1 a2
            rw [hw, ab_neg, hz, Option.map_some, eq_zr q2 p2.neg]; rfl
          · obtain ⟨N, rfl⟩ := Int.eq_ofNat_of_zero_le (show 0 ≤ R by have := hK.r1; omega)
            obtain ⟨p, h2, p1, p2, p3⟩ := half_rows N (by have := hK.r2; omega) (by have := hK.r1; omega)
            rw [p1] at hz hw
            rw [p2] at hh
            rw [hz, hw, hh, p3]; simp
end Go.Proofs.Ytcekbnjgdgapgaa
