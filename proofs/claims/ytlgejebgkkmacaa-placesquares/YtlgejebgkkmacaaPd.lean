/- The words that Turn hands back. -/
import Derived.Test.YtlgejebgkkmacaaPb
namespace Go.Proofs.Ytlgejebgkkmacaa
open Go.ChangeShapes Go.WideShapes Go.ChangeAt Go.RowKit Go.Fl Ieee

theorem add_lt {x y r : Nat} (h : bin .add (some x) (some y) = some r) : r < 2 ^ 64 := by
  have h' : double.add x y = some r := h
  unfold Format.add at h'
  rw [Option.map_eq_some_iff] at h'
  obtain ⟨d, hd, rfl⟩ := h'
  exact write_lt (sum_ok hd)
theorem mul_lt {x y r : Nat} (h : bin .mul (some x) (some y) = some r) : r < 2 ^ 64 := by
  have h' : double.mul x y = some r := h
  unfold Format.mul at h'
  rw [Option.map_eq_some_iff] at h'
  obtain ⟨d, hd, rfl⟩ := h'
  exact write_lt (product_ok hd)
def Lt64 (o : Option Nat) : Prop := ∀ r, o = some r → r < 2 ^ 64
theorem lt_mul (o p : Option Nat) : Lt64 (bin .mul o p) := fun r h => by
  cases o with
  | none => cases h
  | some a => cases p with
    | none => cases h
    | some b => exact mul_lt h
theorem lt_add (o p : Option Nat) : Lt64 (bin .add o p) := fun r h => by
  cases o with
  | none => cases h
  | some a => cases p with
    | none => cases h
    | some b => exact add_lt h
theorem lt_sub (o p : Option Nat) : Lt64 (bin .sub o p) := fun r h => by
  cases o with
  | none => cases h
  | some a => cases p with
    | none => cases h
    | some b => exact sub_lt h
theorem lt_neg {o : Option Nat} (h : Lt64 o) : Lt64 (o.map neg) := fun r e => by
  cases o with
  | none => cases e
  | some a =>
    obtain rfl := Option.some.inj e
    have := h a rfl
    show a ^^^ 2 ^ 63 < 2 ^ 64
    exact Nat.xor_lt_two_pow this (by decide)
theorem lt_ab {x : Nat} (h : x < 2 ^ 64) : Lt64 (ab x) := fun r e => by
  unfold ab at e
  split at e
  · cases e
  · obtain rfl := Option.some.inj e; exact h
theorem lt_clean {o : Option Nat} (h : Lt64 o) : Lt64 (cleanF o) := by
  unfold cleanF
  split
  · exact lt_ab (by decide)
  · exact h
theorem lt_fold (c d : Nat) (r : List Nat) (z : Option Nat) : Lt64 (foldF (c :: d :: r) z) := lt_add _ _
theorem lt_turnS (x : Option Nat) : Lt64 (turnS x) := by
  unfold turnS
  split
  · unfold pointS
    have h1 : ∀ z, Lt64 (eastC z) := fun z => by
      unfold eastC
      split
      · exact lt_ab (by decide)
      · exact lt_fold _ _ _ _
    have h2 : ∀ z, Lt64 (eastS z) := fun z => by
      unfold eastS
      split
      · exact lt_ab (by decide)
      · exact lt_mul _ _
    have h3 : Lt64 (if swapped (wrapF x) then eastC (twice (wrapF x)) else eastS (twice (wrapF x))) := by
      split
      · exact h1 _
      · exact h2 _
    refine lt_clean ?_
    split
    · exact lt_neg h3
    · exact h3
  · intro r h; cases h
theorem flip_neg {x : Nat} {t : Option Nat} (h : ab x = turnS t) : ab (flip x) = (turnS t).map neg := by
  rw [flip_ab fun hn => lt_turnS t x (by rw [← h, ab_some hn]), h]
end Go.Proofs.Ytlgejebgkkmacaa
