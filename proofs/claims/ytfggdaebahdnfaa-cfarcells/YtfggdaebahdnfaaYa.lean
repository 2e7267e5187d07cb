/- Two numbers that are rounded keep their order. No program. -/
import Derived.Test.YtfggdaebahdnfaaQm
import Derived.Test.YtfggdaebahdnfaaWn
namespace Go.Proofs.Ytfggdaebahdnfaa
open Go.ChangeShapes Go.WideShapes Go.ChangeAt Go.RowKit Go.Fl Ieee

/-- A number's place among the powers of two. -/
structure Bn (E : Int) (ξ : Rat) : Prop where
  least : -1022 ≤ E
  lo : E = -1022 ∨ pw E ≤ ξ
  hi : ξ < pw (E + 1)
/-- A float is at most half a unit off. -/
structure Hf (E : Int) (ξ : Rat) (r : Nat) : Prop where
  units : ∃ N : Nat, val r = (N : Rat) * pw (E - 52)
  up : 2 * val r ≤ 2 * ξ + pw (E - 52)
  down : 2 * ξ ≤ 2 * val r + pw (E - 52)
/-- A float is on the right side of every float. -/
def Sd (ξ : Rat) (r : Nat) : Prop := ∀ z : Nat, (ξ ≤ val z → val r ≤ val z) ∧ (val z ≤ ξ → val z ≤ val r)
/-- Rounded, two numbers change their order only if they are one. -/
theorem two_keep {E : Int} {ξ η : Rat} {r q : Nat} (h1 : Bn E ξ) (hle : ξ ≤ η) (hr : Hf E ξ r) (sr : Sd ξ r) (sq : Sd η q) (hq : ∀ F, Bn F η → Hf F η q) (top : ∃ z, val z = pw (E + 1)) : val r ≤ val q ∨ ξ = η := by
  rcases rat_lt_or_le η (pw (E + 1)) with h | h
  · have b2 : Bn E η := ⟨h1.least, by
      rcases h1.lo with l | l
      · exact Or.inl l
      · exact Or.inr (Rat.le_trans l hle), h⟩
    have h2 := hq E b2
    obtain ⟨N, hN⟩ := hr.units
    obtain ⟨M, hM⟩ := h2.units
    have hp := pw_pos (E - 52)
    rcases Nat.lt_or_ge M N with l | l
    · right
      have e1 : (M : Rat) + 1 ≤ (N : Rat) := by
        have := Rat.natCast_le_natCast.2 (show M + 1 ≤ N by omega)
        rw [Rat.natCast_add] at this; exact this
      have e2 := Rat.mul_le_mul_of_nonneg_right e1 (Rat.le_of_lt hp)
      have u1 := hr.up
      have u2 := h2.down
      rw [Rat.add_mul, Rat.one_mul] at e2
      grind
    · left
      rw [hN, hM]
      exact Rat.mul_le_mul_of_nonneg_right (Rat.natCast_le_natCast.2 l) (Rat.le_of_lt hp)
  · left
    obtain ⟨z, hz⟩ := top
    have a := (sr z).1 (by rw [hz]; exact Rat.le_of_lt h1.hi)
    have b := (sq z).2 (by rw [hz]; exact h)
    exact Rat.le_trans a b
/-- A power of two as a float. -/
theorem pw_float {E : Int} (h1 : -1074 ≤ E) (h2 : E ≤ 1000) : ∃ z, val z = pw E := by
  obtain ⟨_, h⟩ := exact_write false (K := 1) (e := E) (by decide) h1 (by rw [show ((1 : Nat) : Rat) = 1 from rfl, Rat.one_mul]; exact pw_mono h2)
  exact ⟨_, h.trans (by rw [dv_false, show ((1 : Nat) : Rat) = 1 from rfl, Rat.one_mul])⟩
/-- What is written is at most half a unit off. -/
theorem write_half {m : Nat} {e E : Int} (hm : 0 < m) (hB : (m : Rat) * pw e ≤ pw 1000) (hE : Bn E ((m : Rat) * pw e)) : Hf E ((m : Rat) * pw e) (double.write (.number false m e)) := by
  obtain ⟨last, kept, R⟩ := rounds false (e := e) hm (by have := log_le hm hB; omega)
  have hw : double.write (.number false m e) = double.nearest false m e := rfl
  rw [hw]
  generalize double.nearest false m e = r at R
  have hl : last ≤ E - 52 := by
    rcases R.rel with l | l
    · have := hE.least; omega
    · rcases Int.lt_or_le E (last + 52) with q | q
      · exfalso
        have := pw_mono (show E + 1 ≤ last + 52 by omega)
        have := hE.hi
        grind
      · omega
  have hp := pw_mono hl
  have hv : val r = (kept : Rat) * pw last := R.value
  refine ⟨?_, ?_, ?_⟩
  · have h0 : 0 ≤ val r := by rw [hv]; exact Rat.mul_nonneg Rat.natCast_nonneg (Rat.le_of_lt (pw_pos _))
    refine whole_units (y := r) (last := E - 52) (by have := hE.least; omega) (Or.inl rfl) h0 ?_
    rcases hE.lo with l | l
    · left; omega
    · right
      rw [show E - 52 + 52 = E by omega]
      obtain ⟨z, hz⟩ := pw_float (E := E) (by have := hE.least; omega) (by
        rcases Int.lt_or_le 1000 E with q | q
        · exfalso
          have := pw_lt q
          grind
        · exact q)
      have := (R.mono (y := z)).2 (by rw [hz, dv_false]; exact l)
      rw [hz] at this; exact this
  · have := R.up; rw [hv]; grind
  · have := R.down; rw [hv]; grind
theorem write_side {m : Nat} {e : Int} (hB : (m : Rat) * pw e ≤ pw 1000) : Sd ((m : Rat) * pw e) (double.write (.number false m e)) := fun z => by
  have := write_mono false m e hB (y := z)
  rw [dv_false] at this
  exact this
/-- Every number has its place. -/
theorem place_nat (m : Nat) (e : Int) (hB : (m : Rat) * pw e ≤ pw 1000) : ∃ E, Bn E ((m : Rat) * pw e) ∧ E ≤ 1000 := by
  rcases Nat.eq_zero_or_pos m with h | h
  · refine ⟨-1022, ⟨by omega, Or.inl rfl, ?_⟩, by omega⟩
    subst h
    rw [show ((0 : Nat) : Rat) = 0 from rfl, Rat.zero_mul]; exact pw_pos _
  · have l1 : ((2 ^ m.log2 : Nat) : Rat) ≤ (m : Rat) := Rat.natCast_le_natCast.2 (Nat.log2_self_le (by omega))
    have l2 : (m : Rat) < ((2 ^ (m.log2 + 1) : Nat) : Rat) := Rat.natCast_lt_natCast.2 Nat.lt_log2_self
    have hp := pw_pos e
    have a1 := Rat.mul_le_mul_of_nonneg_right l1 (Rat.le_of_lt hp)
    have a2 := Rat.mul_lt_mul_of_pos_right l2 hp
    rw [← pw_nat, ← pw_add] at a1 a2
    rcases Int.lt_or_le (m.log2 + e) (-1022) with q | q
    · refine ⟨-1022, ⟨by omega, Or.inl rfl, ?_⟩, by omega⟩
      have := pw_mono (show ((m.log2 + 1 : Nat) : Int) + e ≤ -1022 + 1 by omega)
      grind
    · refine ⟨m.log2 + e, ⟨q, Or.inr a1, ?_⟩, ?_⟩
      · rw [show (m.log2 : Int) + e + 1 = ((m.log2 + 1 : Nat) : Int) + e by omega]; exact a2
      · rcases Int.lt_or_le 1000 (m.log2 + e) with q2 | q2
        · exfalso
          have := pw_lt q2
          grind
        · exact q2
end Go.Proofs.Ytfggdaebahdnfaa
