/- The two ways of saying 'neighbours' are one. -/
import Derived.Test.YtephkmahnbhmbaaVc
import Derived.Test.YtephkmahnbhmbaaVf
namespace Go.Proofs.Ytephkmahnbhmbaa
open Go.Fl Go.Sort

theorem tmod_round {n d : Int} (h1 : -n < d) (h2 : d < n) : (d.tmod n + n).tmod n = if 0 ≤ d then d else d + n := by
  split
  · rename_i h
    rw [Int.tmod_eq_of_lt h h2, Int.tmod_eq_emod_of_nonneg (by omega), Int.add_emod_right, Int.emod_eq_of_lt h h2]
  · rename_i h
    have e : d.tmod n = d := by
      have h3 := Int.neg_tmod (-d) n
      have h4 := Int.tmod_eq_of_lt (a := -d) (b := n) (by omega) (by omega)
      rw [Int.neg_neg] at h3
      omega
    rw [e, Int.tmod_eq_of_lt (by omega) (by omega)]
theorem roundB_iff {n a b x y : Int} (a0 : 0 ≤ a) (a1 : a < n) (x0 : 0 ≤ x) (x1 : x < n) : roundB n a b x y = true ↔ Nx n a b x y := by
  unfold roundB Nx
  rw [tmod_round (by omega) (by omega)]
  simp only [Bool.or_eq_true, Bool.and_eq_true, decide_eq_true_eq]
  split <;> omega
theorem nextB_iff {n a b x y : Int} (hn : 0 < n) : nextB n a b x y = true ↔ Nx n a b x y := by
  unfold nextB Nx
  simp only [Bool.or_eq_true, Bool.and_eq_true, decide_eq_true_eq, Bool.not_eq_true', Bool.and_eq_false_iff, decide_eq_false_iff_not]
  omega
theorem ahB_iff {a b x y : Int} : ahB a b x y = true ↔ a < x ∨ a = x ∧ b < y := by
  unfold ahB
  simp only [Bool.or_eq_true, Bool.and_eq_true, decide_eq_true_eq]
/-- What stands in the way of a cell's being highest, told in either way. -/
theorem beat_same (d pw : Nat) (x y b g : Int) : beatB x y (ab d) b g (ab pw) = btF d pw x y b g := by
  unfold beatB btF
  congr 2
  rw [Bool.eq_iff_iff, ahB_iff, decide_eq_true_eq, ordC_lt]
end Go.Proofs.Ytephkmahnbhmbaa
