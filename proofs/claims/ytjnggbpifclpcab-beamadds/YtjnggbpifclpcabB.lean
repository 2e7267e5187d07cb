/- The rows, folded. -/
import Derived.Test.YtjnggbpifclpcabA
namespace Go.Proofs.Ytjnggbpifclpcab
open Go.ChangeShapes Go.WideShapes Go.ChangeAt Go.RowKit Go.Fl
attribute [local go_sem] call20 call19 run_neg fold_eq fold_ne fold_lt fold_gt abs_eq

/-- To fold a row, from its last number down to its first. -/
def foldF : List Nat → Option Nat → Option Nat
  | [], _ => none
  | [c], _ => ab c
  | c :: r, z => bin .add (bin .mul (foldF r z) z) (ab c)

theorem foldF_last (l : List Nat) (z : Option Nat) (m : Nat) (h : l.length = m + 1) : foldF (l.drop m) z = ab (l.getD m 0) := by
  have : l.drop m = [l.getD m 0] := by
    rw [List.drop_eq_getElem_cons (by omega), List.drop_eq_nil_of_le (by omega)]
    simp [List.getD, List.getElem?_eq_getElem (show m < l.length by omega)]
  rw [this]; rfl
theorem foldF_step (l : List Nat) (z : Option Nat) (j : Nat) (h : j + 1 < l.length) : foldF (l.drop j) z = bin .add (bin .mul (foldF (l.drop (j + 1)) z) z) (ab (l.getD j 0)) := by
  rw [List.drop_eq_getElem_cons (by omega), List.drop_eq_getElem_cons h]
  simp [List.getD, List.getElem?_eq_getElem (show j < l.length by omega), foldF]

theorem t54 (l : List Nat) (m b off cap z : Nat) (w : World) (hl : l.length = m + 1) (hm : m < 1000)
    (hc : ∀ i, i < m + 1 → w.cell? ⟨b, off + i, none⟩ = some (.float .f64 (l.getD i 0))) :
    Calls Try.prog 54 #[.slice (some ⟨b, off, none⟩) (m + 1) cap, .float .f64 z] w (FR w (foldF l (ab z))) := by
  have hcm := hc m (by omega)
  have HL : Hid (l.length = m + 1) := hl
  clear hl
  go_enter Try.func54, Try.ntmps54
  go_wp2
  go_loopw [6, 7] (fun p i wr => ∃ k r n : Nat, k ≤ m ∧ i = .int .i64 ((k : Int) - 1) ∧ p = .float .f64 r ∧ wr = w.drewN n ∧ Hid (ab r = foldF (l.drop k) (ab z))) (fun _ i _ => (intOf i + 1).toNat)
  case atStart => exact ⟨m, _, 0, Nat.le_refl _, rfl, rfl, rfl, (foldF_last l _ m HL.out).symm⟩
  case round =>
    obtain ⟨k, r, n, hk, rfl, rfl, rfl, hr⟩ := hrel
    rcases Nat.eq_zero_or_pos k with rfl | hp
    · go_wp2
      go_ret
      exact FR.mkN hr.out
    · obtain ⟨j, rfl⟩ := Nat.exists_eq_add_of_le' hp
      have hcj := hc j (by omega)
      rw [show ((j + 1 : Nat) : Int) - 1 = (j : Int) by omega]
      go_wp2_with (refine upon_fl (by simp) ?_; intro r n hr)
      go_roundw
      case rel =>
        refine ⟨j, _, _, by omega, rfl, rfl, rfl, ?_⟩
        have HL := HL.out
        show _ = _
        rw [foldF_step l _ j (by omega)]
        simp_all [Hid]
      case measure => simp [intOf]

/-- 1 divided by a whole number, of an odd k turned. -/
def quotientF (k : Nat) (n : Option Nat) : Option Nat := if ((k : Int) % 2 == 1) = true then (bin .quo (ab 4607182418800017408) n).map neg else bin .quo (ab 4607182418800017408) n
/-- The product of 1 to k + 1. -/
def factorialF : Nat → Option Nat
  | 0 => ab 4607182418800017408
  | k + 1 => bin .mul (factorialF k) (ab (floatOfInt .f64 ((k : Int) + 2)))
end Go.Proofs.Ytjnggbpifclpcab
