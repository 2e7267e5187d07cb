/- The rows, folded. -/
import Derived.Test.YtlgejebgkkmacaaA
namespace Go.Proofs.Ytlgejebgkkmacaa
open Go.ChangeShapes Go.WideShapes Go.ChangeAt Go.RowKit Go.Fl
attribute [local go_sem] call39 call50 run_neg fold_eq fold_ne fold_lt fold_gt abs_eq

theorem t44 (x : Nat) (w : World) : Calls Try.prog 44 #[.float .f64 x] w (FR w (wrapF (ab x))) := by
  go_enter Try.func44, Try.ntmps44
  go_wp2_with (first
    | (refine upon_fl (by simp) ?_; intro r n hr)
    | (go_at_call 40; refine (t40 _ _).mono ?_; rintro e w' ⟨rfl, rfl⟩)
    | (go_at_call 41; refine (t41 _ _).mono ?_; rintro e w' ⟨rfl, rfl⟩)
    | (go_at_call 27; refine (t27 _).mono ?_; rintro e w' ⟨rfl, rfl⟩)
    | (go_at_call 42; refine (t42 _ _).mono ?_; rintro e w' ⟨r, n, rfl, rfl, hr⟩))
  all_goals (go_ret; go_tidy; first | refine FR.mkN ?_ | refine FR.mk0 ?_)
  all_goals simp_all [wrapF, wholeF, fin, Hid, ab_neg]
  all_goals rfl

/-- To fold a row, from its last number down to its first. -/
def foldF : List Nat → Option Nat → Option Nat
  | [], _ => none
  | [c], _ => ab c
  | c :: r, z => bin .add (bin .mul (foldF r z) z) (ab c)

theorem foldF_last (l : List Nat) (z : Option Nat) (m : Nat) (h : l.length = m + 1) : foldF (l.drop m) z = ab (l.getD m 0) := by
  have : l.drop m = [l.getD m 0] := by
    rw [List.drop_eq_getElem_cons (by omega), List.drop_eq_nil_of_le (by omega)]
    simp [List.getD, List.getElem?_eq_getElem (show m < l.length by omega)]
  rw [this]; rfl
theorem foldF_step (l : List Nat) (z : Option Nat) (j : Nat) (h : j + 1 < l.length) : foldF (l.drop j) z = bin .add (bin .mul (foldF (l.drop (j + 1)) z) z) (ab (l.getD j 0)) := by
  rw [List.drop_eq_getElem_cons (by omega), List.drop_eq_getElem_cons h]
  simp [List.getD, List.getElem?_eq_getElem (show j < l.length by omega), foldF]

theorem t71 (l : List Nat) (m b off cap z : Nat) (w : World) (hl : l.length = m + 1) (hm : m < 1000)
    (hc : ∀ i, i < m + 1 → w.cell? ⟨b, off + i, none⟩ = some (.float .f64 (l.getD i 0))) :
    Calls Try.prog 71 #[.slice (some ⟨b, off, none⟩) (m + 1) cap, .float .f64 z] w (FR w (foldF l (ab z))) := by
  have hcm := hc m (by omega)
  have HL : Hid (l.length = m + 1) := hl
  clear hl
  go_enter Try.func71, Try.ntmps71
  go_wp2
  go_loopw [6, 7] (fun p i wr => ∃ k r n : Nat, k ≤ m ∧ i = .int .i64 ((k : Int) - 1) ∧ p = .float .f64 r ∧ wr = w.drewN n ∧ Hid (ab r = foldF (l.drop k) (ab z))) (fun _ i _ => (intOf i + 1).toNat)
  case atStart => exact ⟨m, _, 0, Nat.le_refl _, rfl, rfl, rfl, (foldF_last l _ m HL.out).symm⟩
  case round =>
    obtain ⟨k, r, n, hk, rfl, rfl, rfl, hr⟩ := hrel
    rcases Nat.eq_zero_or_pos k with rfl | hp
    · go_wp2
      go_ret
      exact FR.mkN hr.out
    · obtain ⟨j, rfl⟩ := Nat.exists_eq_add_of_le' hp
      have hcj := hc j (by omega)
      rw [show ((j + 1 : Nat) : Int) - 1 = (j : Int) by omega]
      go_wp2_with (refine upon_fl (by simp) ?_; intro r n hr)
      go_roundw
      case rel =>
        refine ⟨j, _, _, by omega, rfl, rfl, rfl, ?_⟩
        have HL := HL.out
        show _ = _
        rw [foldF_step l _ j (by omega)]
        simp_all [Hid]
      case measure => simp [intOf]

theorem t62 (l : List Nat) (m b off cap z : Nat) (w : World) (hl : l.length = m + 1) (hm : m < 1000)
    (hc : ∀ i, i < m + 1 → w.cell? ⟨b, off + i, none⟩ = some (.float .f64 (l.getD i 0))) :
    Calls Try.prog 62 #[.slice (some ⟨b, off, none⟩) (m + 1) cap, .float .f64 z] w (FR w (foldF l (ab z))) := by
  have hcm := hc m (by omega)
  have HL : Hid (l.length = m + 1) := hl
  clear hl
  go_enter Try.func62, Try.ntmps62
  go_wp2
  go_loopw [5, 6] (fun p i wr => ∃ k r n : Nat, k ≤ m ∧ i = .int .i64 ((k : Int) - 1) ∧ p = .float .f64 r ∧ wr = w.drewN n ∧ Hid (ab r = foldF (l.drop k) (ab z))) (fun _ i _ => (intOf i + 1).toNat)
  case atStart => exact ⟨m, _, 0, Nat.le_refl _, by go_num, rfl, rfl, (foldF_last l _ m HL.out).symm⟩
  case round =>
    obtain ⟨k, r, n, hk, rfl, rfl, rfl, hr⟩ := hrel
    rcases Nat.eq_zero_or_pos k with rfl | hp
    · go_wp2
      go_ret
      exact FR.mkN hr.out
    · obtain ⟨j, rfl⟩ := Nat.exists_eq_add_of_le' hp
      have hcj := hc j (by omega)
      rw [show ((j + 1 : Nat) : Int) - 1 = (j : Int) by omega]
      go_wp2_with (refine upon_fl (by simp) ?_; intro r n hr)
      go_roundw
      case rel =>
        refine ⟨j, _, _, by omega, rfl, rfl, rfl, ?_⟩
        have HL := HL.out
        show _ = _
        rw [foldF_step l _ j (by omega)]
        simp_all [Hid]
      case measure => simp [intOf]

/-- 1 divided by a whole number, of an odd k turned. -/
def quotientF (k : Nat) (n : Option Nat) : Option Nat := if ((k : Int) % 2 == 1) = true then (bin .quo (ab 4607182418800017408) n).map neg else bin .quo (ab 4607182418800017408) n
theorem t72 (k n : Nat) (w : World) (hk : k < 100) : Calls Try.prog 72 #[.int .i64 k, .float .f64 n] w (FR w (quotientF k (ab n))) := by
  go_enter Try.func72, Try.ntmps72
  go_wp2_with (refine upon_fl (by simp) ?_; intro r n hr)
  all_goals (go_ret; go_tidy; refine FR.mkN ?_)
  all_goals simp_all [quotientF, Hid, ab_neg]
/-- The product of 1 to k + 1. -/
def factorialF : Nat → Option Nat
  | 0 => ab 4607182418800017408
  | k + 1 => bin .mul (factorialF k) (ab (floatOfInt .f64 ((k : Int) + 2)))
theorem t73 (k : Nat) (w : World) (hk : k < 100) : Calls Try.prog 73 #[.int .i64 k] w (FR w (factorialF (k - 1))) := by
  go_enter Try.func73, Try.ntmps73
  go_wp2
  go_loopw [3, 4] (fun f i wr => ∃ j r n : Nat, (j ≤ k - 1) ∧ i = .int .i64 ((j : Int) + 2) ∧ f = .float .f64 r ∧ wr = w.drewN n ∧ Hid (ab r = factorialF j)) (fun _ i _ => (k + 2 - intOf i).toNat)
  case atStart => exact ⟨0, _, 0, by omega, rfl, rfl, rfl, rfl⟩
  case round =>
    obtain ⟨j, r, n, hj, rfl, rfl, rfl, hr⟩ := hrel
    by_cases hlt : j + 2 ≤ k
    · go_wp2_with (refine upon_fl (by simp) ?_; intro r n hr)
      go_roundw
      case rel =>
        refine ⟨j + 1, _, _, by omega, by go_num, rfl, rfl, ?_⟩
        simp_all [Hid, factorialF]
      case measure => simp [intOf]; omega
    · go_wp2
      go_ret
      have : j = k - 1 := by omega
      subst this
      exact FR.mkN hr.out
end Go.Proofs.Ytlgejebgkkmacaa
