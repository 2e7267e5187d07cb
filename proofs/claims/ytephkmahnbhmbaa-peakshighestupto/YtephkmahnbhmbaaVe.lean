/- What the list of the highest cells holds. No program. -/
import Derived.Test.YtephkmahnbhmbaaVd
import Derived.Test.YtephkmahnbhmbaaPg
namespace Go.Proofs.Ytephkmahnbhmbaa
open Go.Fl Go.Sort

theorem mem_topRow {D : Nat → Array Nat} {n G b : Nat} {s : Spt} : ∀ {k : Nat}, s ∈ topRow D n G b k ↔ ∃ g, g < k ∧ topB D n G b g = true ∧ s = ((b : Int), (g : Int), (D b)[g]!)
  | 0 => by simp [topRow]
  | k + 1 => by
    rw [topRow, List.mem_append, mem_topRow (k := k)]
    constructor
    · rintro (⟨g, h1, h2, h3⟩ | h)
      · exact ⟨g, by omega, h2, h3⟩
      · cases ht : topB D n G b k with
        | false => rw [ht] at h; simp at h
        | true => rw [ht] at h; exact ⟨k, by omega, ht, by simpa using h⟩
    · rintro ⟨g, h1, h2, h3⟩
      by_cases hg : g < k
      · exact Or.inl ⟨g, hg, h2, h3⟩
      · obtain rfl : g = k := by omega
        right
        rw [h2, h3]; simp
theorem mem_topAll {D : Nat → Array Nat} {n G : Nat} {s : Spt} : ∀ {i : Nat}, s ∈ topAll D n G i ↔ ∃ b, b < i ∧ s ∈ topRow D n G b G
  | 0 => by simp [topAll]
  | i + 1 => by
    rw [topAll, List.mem_append, mem_topAll (i := i)]
    constructor
    · rintro (⟨b, h1, h2⟩ | h)
      · exact ⟨b, by omega, h2⟩
      · exact ⟨i, by omega, h⟩
    · rintro ⟨b, h1, h2⟩
      by_cases hb : b < i
      · exact Or.inl ⟨b, hb, h2⟩
      · obtain rfl : b = i := by omega
        exact Or.inr h2
/-- A spot is told if its cell is highest. -/
theorem mem_high {D : Nat → Array Nat} {n : Nat} {s : Spt} : s ∈ highF D n ↔ ∃ b g, b < n ∧ g < shortF D n ∧ topB D n (shortF D n) b g = true ∧ s = ((b : Int), (g : Int), (D b)[g]!) := by
  unfold highF
  rw [mem_topAll]
  constructor
  · rintro ⟨b, hb, h⟩
    obtain ⟨g, h1, h2, h3⟩ := mem_topRow.1 h
    exact ⟨b, g, hb, h1, h2, h3⟩
  · rintro ⟨b, g, hb, h1, h2, h3⟩
    exact ⟨b, hb, mem_topRow.2 ⟨g, h1, h2, h3⟩⟩
/-- Ahead. -/
def Ahd (s t : Spt) : Prop := s.1 < t.1 ∨ s.1 = t.1 ∧ s.2.1 < t.2.1
theorem topRow_sorted (D : Nat → Array Nat) (n G b : Nat) : ∀ k, (topRow D n G b k).Pairwise Ahd
  | 0 => List.Pairwise.nil
  | k + 1 => by
    rw [topRow, List.pairwise_append]
    refine ⟨topRow_sorted D n G b k, ?_, fun s hs t ht => ?_⟩
    · split
      · exact List.pairwise_singleton _ _
      · exact List.Pairwise.nil
    · obtain ⟨g, h1, _, rfl⟩ := mem_topRow.1 hs
      split at ht
      · obtain rfl : t = _ := by simpa using ht
        right
        exact ⟨rfl, by show (g : Int) < (k : Int); omega⟩
      · simp at ht
theorem topAll_sorted (D : Nat → Array Nat) (n G : Nat) : ∀ i, (topAll D n G i).Pairwise Ahd
  | 0 => List.Pairwise.nil
  | i + 1 => by
    rw [topAll, List.pairwise_append]
    refine ⟨topAll_sorted D n G i, topRow_sorted D n G i G, fun s hs t ht => ?_⟩
    obtain ⟨b, hb, h⟩ := mem_topAll.1 hs
    obtain ⟨g, _, _, rfl⟩ := mem_topRow.1 h
    obtain ⟨g', _, _, rfl⟩ := mem_topRow.1 ht
    left
    show (b : Int) < (i : Int)
    omega
/-- They come by rising bin, then gate. -/
theorem high_sorted (D : Nat → Array Nat) (n : Nat) : (highF D n).Pairwise Ahd := topAll_sorted D n _ n
end Go.Proofs.Ytephkmahnbhmbaa
