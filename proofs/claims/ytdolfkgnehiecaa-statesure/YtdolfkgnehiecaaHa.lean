/- Steps of floats with their errors, as rational numbers. No program. -/
import Derived.Test.YtdolfkgnehiecaaFy
import Derived.Test.YtdolfkgnehiecaaFv
namespace Go.Proofs.Ytdolfkgnehiecaa
open Go.Fl Ieee Go.RowKit

/-- r is x, but for E. -/
def Off (r x E : Rat) : Prop := r ≤ x + E ∧ x ≤ r + E
theorem mulN {x y : Nat} (hx : Fnt x) (hy : Fnt y) {B : Rat} (h1 : val x * val y ≤ B) (h2 : -B ≤ val x * val y) (hB : B ≤ pw 1000) : ∃ r, bin .mul (some x) (some y) = some r ∧ Fnt r ∧ Off (val r) (val x * val y) (pw (-53) * B + pw (-1075)) := by
  obtain ⟨r, hr⟩ := bin_some_mul hx hy
  obtain ⟨f, n⟩ := mul_near hx hy hr h1 h2 hB
  exact ⟨r, hr, f, n⟩
theorem addN {x y : Nat} (hx : Fnt x) (hy : Fnt y) {B : Rat} (h1 : val x + val y ≤ B) (h2 : -B ≤ val x + val y) (hB : B ≤ pw 1000) : ∃ r, bin .add (some x) (some y) = some r ∧ Fnt r ∧ Off (val r) (val x + val y) (pw (-53) * B) := by
  obtain ⟨r, hr⟩ := bin_some_add hx hy
  obtain ⟨f, n⟩ := add_near hx hy hr h1 h2 hB
  exact ⟨r, hr, f, n⟩
/-- The least error of all: what lies beneath the floats. -/
def eta : Rat := pw (-1075)
def u52 : Rat := 1 / 4503599627370496
theorem u52_is : u52 = pw (-52) := by unfold u52; decide +kernel
theorem pw53_is : pw (-53) = u52 / 2 := by unfold u52; decide +kernel
theorem eta_pos : 0 < eta := pw_pos _
/-- A product of numbers not below nought, whose error is a part of itself. -/
theorem mulR {x y : Nat} (hx : Fnt x) (hy : Fnt y) (h0 : val x * val y = 0 ∨ pw (-900) ≤ val x * val y) (hB : val x * val y ≤ pw 900) : ∃ r, bin .mul (some x) (some y) = some r ∧ Fnt r ∧ Off (val r) (val x * val y) (u52 * (val x * val y)) ∧ 0 ≤ val r := by
  have h1000 : pw 900 ≤ pw 1000 := pw_mono (by omega)
  have hp := pw_pos (-900)
  have hn : 0 ≤ val x * val y := by rcases h0 with h | h <;> grind
  obtain ⟨r, hr, f, n⟩ := mulN hx hy (B := val x * val y) Rat.le_refl (by grind) (Rat.le_trans hB h1000)
  have h1 := pw_pos 1000
  have mono := mul_mono hx hy hr (Rat.le_trans hB h1000) (by grind) (z := 0)
  rw [val0] at mono
  refine ⟨r, hr, f, ?_, mono.2 hn⟩
  rw [pw53_is] at n
  rcases h0 with h | h
  · have e1 := mono.1 (by rw [h]; exact Rat.le_refl)
    have e2 := mono.2 hn
    rw [h]
    constructor <;> grind
  · have h3 : pw (-1075) ≤ u52 / 2 * (val x * val y) := by
      have e : pw (-1075) ≤ u52 / 2 * pw (-900) := by
        rw [← pw53_is, ← pw_add]
        exact pw_mono (by omega)
      have h4 := Rat.mul_le_mul_of_nonneg_left h (show (0 : Rat) ≤ u52 / 2 by unfold u52; decide +kernel)
      exact Rat.le_trans e h4
    obtain ⟨n1, n2⟩ := n
    constructor <;> grind
end Go.Proofs.Ytdolfkgnehiecaa
