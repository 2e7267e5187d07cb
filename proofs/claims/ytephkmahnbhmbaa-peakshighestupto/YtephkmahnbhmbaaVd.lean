/- The neighbours that are gone over are the neighbours. No program. -/
import Derived.Test.YtephkmahnbhmbaaPe
import Derived.Test.YtephkmahnbhmbaaPg
namespace Go.Proofs.Ytephkmahnbhmbaa
open Go.Fl Go.Sort

theorem mem_rowN {b g y fr : Int} {c : Int × Int} : ∀ {m : Nat}, c ∈ rowN b g y fr m ↔ ∃ k : Nat, k < m ∧ c = (y, fr + k) ∧ sameC y (fr + k) b g = false
  | 0 => by simp [rowN]
  | m + 1 => by
    rw [rowN, List.mem_append, mem_rowN (m := m)]
    constructor
    · rintro (⟨k, h1, h2, h3⟩ | h)
      · exact ⟨k, by omega, h2, h3⟩
      · cases hs : sameC y (fr + m) b g with
        | true => rw [hs] at h; simp at h
        | false => rw [hs] at h; exact ⟨m, by omega, by simpa using h, hs⟩
    · rintro ⟨k, h1, h2, h3⟩
      by_cases hk : k < m
      · exact Or.inl ⟨k, hk, h2, h3⟩
      · obtain rfl : k = m := by omega
        right
        rw [h3, h2]; simp
theorem mem_binsN {f : Nat → Int} {b g fr : Int} {m : Nat} {c : Int × Int} : ∀ {j : Nat}, c ∈ binsN f b g fr m j ↔ ∃ i, i < j ∧ c ∈ rowN b g (f i) fr m
  | 0 => by simp [binsN]
  | j + 1 => by
    rw [binsN, List.mem_append, mem_binsN (j := j)]
    constructor
    · rintro (⟨i, h1, h2⟩ | h)
      · exact ⟨i, by omega, h2⟩
      · exact ⟨j, by omega, h⟩
    · rintro ⟨i, h1, h2⟩
      by_cases hi : i < j
      · exact Or.inl ⟨i, hi, h2⟩
      · obtain rfl : i = j := by omega
        exact Or.inr h2
/-- Are two cells of a map of n bins neighbours? -/
def Nx (n a b x y : Int) : Prop := -1 ≤ b - y ∧ b - y ≤ 1 ∧ ¬ (a = x ∧ b = y) ∧ (-2 < a - x ∧ a - x < 2 ∨ a - x = n - 1 ∨ x - a = n - 1)
theorem mem_nbL {n last b g x y : Int} (b0 : 0 ≤ b) (b1 : b < n) (g0 : 0 ≤ g) (g1 : g ≤ last) : (x, y) ∈ nbL n last b g ↔ 0 ≤ x ∧ x < n ∧ 0 ≤ y ∧ y ≤ last ∧ Nx n x y b g := by
  unfold nbL
  rw [mem_binsN]
  unfold frG toG Nx
  constructor
  · rintro ⟨i, hi, h⟩
    obtain ⟨k, hk, hc, hs⟩ := mem_rowN.1 h
    simp only [Prod.mk.injEq] at hc
    obtain ⟨h1, h2⟩ := hc
    have hne : ¬ (binA n b i = b ∧ max g 1 - 1 + (k : Int) = g) := by
      intro he
      unfold sameC at hs
      rw [he.1, he.2] at hs
      simp at hs
    have hx : x = b ∨ 1 < n ∧ x = belowB n b ∨ 2 < n ∧ x = aboveB n b := by
      unfold binA at h1
      split at h1
      · exact Or.inl h1
      · split at h1
        · exact Or.inr (Or.inl ⟨by omega, h1⟩)
        · exact Or.inr (Or.inr ⟨by omega, h1⟩)
    rw [← h1, ← h2] at hne
    unfold belowB aboveB at hx
    have hy : y ≤ last ∧ 0 ≤ y ∧ -1 ≤ y - g ∧ y - g ≤ 1 := by omega
    rcases hx with hx | ⟨h3, hx⟩ | ⟨h3, hx⟩
    · omega
    · split at hx <;> omega
    · split at hx <;> omega
  · rintro ⟨x0, x1, y0, y1, n1, n2, n3, n4⟩
    have hi : ∃ i, i < (min n 3).toNat ∧ binA n b i = x := by
      by_cases e0 : x = b
      · exact ⟨0, by omega, by unfold binA; rw [if_pos rfl]; exact e0.symm⟩
      · by_cases e1 : x = belowB n b
        · refine ⟨1, ?_, by unfold binA; rw [if_neg (by omega), if_pos rfl]; exact e1.symm⟩
          omega
        · refine ⟨2, ?_, ?_⟩
          · unfold belowB at e1
            split at e1 <;> omega
          · unfold binA
            rw [if_neg (by omega), if_neg (by omega)]
            unfold belowB at e1
            unfold aboveB
            split at e1 <;> split <;> omega
    obtain ⟨i, hi, he⟩ := hi
    refine ⟨i, hi, mem_rowN.2 ⟨(y - (max g 1 - 1)).toNat, by omega, ?_, ?_⟩⟩
    · rw [he]
      simp only [Prod.mk.injEq, true_and]
      omega
    · rw [he]
      unfold sameC
      rw [Bool.and_eq_false_iff]
      simp only [decide_eq_false_iff_not]
      omega
end Go.Proofs.Ytephkmahnbhmbaa
/- What the list of the highest cells holds. No program. -/
namespace Go.Proofs.Ytephkmahnbhmbaa
open Go.Fl Go.Sort

theorem mem_topRow {D : Nat → Array Nat} {n G b : Nat} {s : Spt} : ∀ {k : Nat}, s ∈ topRow D n G b k ↔ ∃ g, g < k ∧ topB D n G b g = true ∧ s = ((b : Int), (g : Int), (D b)[g]!)
  | 0 => by simp [topRow]
  | k + 1 => by
    rw [topRow, List.mem_append, mem_topRow (k := k)]
    constructor
    · rintro (⟨g, h1, h2, h3⟩ | h)
      · exact ⟨g, by omega, h2, h3⟩
      · cases ht : topB D n G b k with
        | false => rw [ht] at h; simp at h
        | true => rw [ht] at h; exact ⟨k, by omega, ht, by simpa using h⟩
    · rintro ⟨g, h1, h2, h3⟩
      by_cases hg : g < k
      · exact Or.inl ⟨g, hg, h2, h3⟩
      · obtain rfl : g = k := by omega
        right
        rw [h2, h3]; simp
theorem mem_topAll {D : Nat → Array Nat} {n G : Nat} {s : Spt} : ∀ {i : Nat}, s ∈ topAll D n G i ↔ ∃ b, b < i ∧ s ∈ topRow D n G b G
  | 0 => by simp [topAll]
  | i + 1 => by
    rw [topAll, List.mem_append, mem_topAll (i := i)]
    constructor
    · rintro (⟨b, h1, h2⟩ | h)
      · exact ⟨b, by omega, h2⟩
      · exact ⟨i, by omega, h⟩
    · rintro ⟨b, h1, h2⟩
      by_cases hb : b < i
      · exact Or.inl ⟨b, hb, h2⟩
      · obtain rfl : b = i := by omega
        exact Or.inr h2
/-- A spot is told if its cell is highest. -/
theorem mem_high {D : Nat → Array Nat} {n : Nat} {s : Spt} : s ∈ highF D n ↔ ∃ b g, b < n ∧ g < shortF D n ∧ topB D n (shortF D n) b g = true ∧ s = ((b : Int), (g : Int), (D b)[g]!) := by
  unfold highF
  rw [mem_topAll]
  constructor
  · rintro ⟨b, hb, h⟩
    obtain ⟨g, h1, h2, h3⟩ := mem_topRow.1 h
    exact ⟨b, g, hb, h1, h2, h3⟩
  · rintro ⟨b, g, hb, h1, h2, h3⟩
    exact ⟨b, hb, mem_topRow.2 ⟨g, h1, h2, h3⟩⟩
/-- Ahead. -/
def Ahd (s t : Spt) : Prop := s.1 < t.1 ∨ s.1 = t.1 ∧ s.2.1 < t.2.1
theorem topRow_sorted (D : Nat → Array Nat) (n G b : Nat) : ∀ k, (topRow D n G b k).Pairwise Ahd
  | 0 => List.Pairwise.nil
  | k + 1 => by
    rw [topRow, List.pairwise_append]
    refine ⟨topRow_sorted D n G b k, ?_, fun s hs t ht => ?_⟩
    · split
      · exact List.pairwise_singleton _ _
      · exact List.Pairwise.nil
    · obtain ⟨g, h1, _, rfl⟩ := mem_topRow.1 hs
      split at ht
      · obtain rfl : t = _ := by simpa using ht
        right
        exact ⟨rfl, by show (g : Int) < (k : Int); omega⟩
      · simp at ht
theorem topAll_sorted (D : Nat → Array Nat) (n G : Nat) : ∀ i, (topAll D n G i).Pairwise Ahd
  | 0 => List.Pairwise.nil
  | i + 1 => by
    rw [topAll, List.pairwise_append]
    refine ⟨topAll_sorted D n G i, topRow_sorted D n G i G, fun s hs t ht => ?_⟩
    obtain ⟨b, hb, h⟩ := mem_topAll.1 hs
    obtain ⟨g, _, _, rfl⟩ := mem_topRow.1 h
    obtain ⟨g', _, _, rfl⟩ := mem_topRow.1 ht
    left
    show (b : Int) < (i : Int)
    omega
/-- They come by rising bin, then gate. -/
theorem high_sorted (D : Nat → Array Nat) (n : Nat) : (highF D n).Pairwise Ahd := topAll_sorted D n _ n
end Go.Proofs.Ytephkmahnbhmbaa
