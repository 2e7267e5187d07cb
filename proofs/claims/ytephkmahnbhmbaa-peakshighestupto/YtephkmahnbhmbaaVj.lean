/- PeaksTops: what its loops reckon. -/
import Derived.Test.YtephkmahnbhmbaaVh
namespace Go.Proofs.Ytephkmahnbhmbaa
open Go.ChangeShapes Go.WideShapes Go.ChangeAt Go.RowKit Go.Fl Go.Sort
attribute [local go_sem] run_store_float call52 run_neg fold_eq fold_ne fold_lt fold_gt abs_eq
set_option maxRecDepth 20000
/-- How many gates the first i rows have. -/
def gtN (D : Nat → Array Nat) (i : Nat) : Nat := if i = 0 then 0 else shN D (i - 1)
theorem gtN_first (D : Nat → Array Nat) : gtN D 1 = (D 0).size := rfl
theorem gtN_next (D : Nat → Array Nat) {i : Nat} (h : 0 < i) : gtN D (i + 1) = min (gtN D i) (D i).size := by
  unfold gtN
  rw [if_neg (by omega), if_neg (by omega)]
  obtain ⟨j, rfl⟩ : ∃ j, i = j + 1 := ⟨i - 1, by omega⟩
  rfl
theorem gtN_all (D : Nat → Array Nat) (n : Nat) : gtN D n = shortF D n := rfl
/-- Was one as great as the greatest among the first a? -/
def fdN (L : List Spt) (m : Nat) (a : Nat) : Bool := eqF (ab m) (ab 0) || (L.take a).any fun s => eqF (ab s.2.2) (ab m)
theorem fdN_next {L : List Spt} {m a : Nat} (h : a < L.length) : fdN L m (a + 1) = (fdN L m a || eqF (ab (L[a]!).2.2) (ab m)) := by
  unfold fdN
  rw [take_snoc h, List.any_append]
  simp [Bool.or_assoc]
theorem fdN_all {D : Nat → Array Nat} {n : Nat} : fdN (highF D n) (mostAll D (shortF D n) n) (highF D n).length = true ∧ (gtF (ab (mostAll D (shortF D n) n)) (ab 0) = true ∨ (highF D n).length = 0) := by
  cases hg : gtF (ab (mostAll D (shortF D n) n)) (ab 0) with
  | true =>
    refine ⟨?_, Or.inl rfl⟩
    obtain ⟨b, g, hb, hg, ht, he⟩ := most_top hg
    unfold fdN
    rw [List.take_length, Bool.or_eq_true]
    right
    rw [List.any_eq_true]
    exact ⟨_, mem_high.2 ⟨b, g, hb, hg, ht, rfl⟩, he⟩
  | false =>
    have e := most_none hg
    refine ⟨?_, Or.inr (by rw [e]; rfl)⟩
    have hm := Most.all D (shortF D n) n
    have z : isN 0 = false := by decide +kernel
    have l0 : lin 0 = 0 := by decide +kernel
    rw [ab_some hm.num, ab_some z, gtF_lin hm.num z, l0, decide_eq_false_iff_not] at hg
    unfold fdN
    rw [ab_some hm.num, ab_some z, eqF_lin hm.num z, l0]
    have := hm.pos
    rw [decide_eq_true (by omega)]; rfl
theorem high_at {D : Nat → Array Nat} {n a : Nat} (h : a < (highF D n).length) : ∃ b g, b < n ∧ g < shortF D n ∧ topB D n (shortF D n) b g = true ∧ (highF D n)[a]! = ((b : Int), (g : Int), (D b)[g]!) := by
  have hm : (highF D n)[a]! ∈ highF D n := by rw [getElem!_pos _ a h]; exact List.getElem_mem _
  exact mem_high.1 hm
end Go.Proofs.Ytephkmahnbhmbaa
