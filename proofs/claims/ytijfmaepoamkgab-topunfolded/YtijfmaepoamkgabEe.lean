/- Euclid's steps in words: nothing is too great. No program. -/
import Derived.Test.YtijfmaepoamkgabEa
namespace Go.Proofs.Ytijfmaepoamkgab

/-- The steps' state, with bounds. -/
def EB (A B a x y b u v : Int) : Prop := (∃ s, Eu A B a x y b u v s) ∧ (-(max B 1) ≤ x ∧ x ≤ max B 1) ∧ (-(max A 1) ≤ y ∧ y ≤ max A 1) ∧ (-(max B 1) ≤ u ∧ u ≤ max B 1) ∧ (-(max A 1) ≤ v ∧ v ≤ max A 1) ∧ (0 ≤ a ∧ a ≤ max A B) ∧ (0 ≤ b ∧ b ≤ max A B)
theorem EB.start {A B : Int} (hA : 0 ≤ A) (hB : 0 ≤ B) : EB A B A 1 0 B 0 1 := ⟨⟨1, Eu.start hA hB⟩, by omega, by omega, by omega, by omega, by omega, by omega⟩
theorem EB.step {A B a x y b u v : Int} (h : EB A B a x y b u v) (hb : 0 < b) : EB A B b u v (a - a / b * b) (x - a / b * u) (y - a / b * v) := by
  obtain ⟨⟨s, he⟩, h1, h2, h3, h4, h5, h6⟩ := h
  have hs := he.step hb
  have hbd := hs.bound (by omega)
  have hl := Eu.less a hb
  exact ⟨⟨_, hs⟩, h3, h4, by omega, by omega, h6, by omega⟩
end Go.Proofs.Ytijfmaepoamkgab
