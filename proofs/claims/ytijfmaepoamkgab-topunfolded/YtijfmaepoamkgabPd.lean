/- slices.Compare of ranks; how two plots stand to each other. -/
import Derived.Test.YtijfmaepoamkgabPc
namespace Go.Proofs.Ytijfmaepoamkgab
open Go.ChangeShapes Go.WideShapes Go.ChangeAt Go.RowKit Go.Fl Go.Sort
attribute [local go_sem] run_store_float call18 run_neg fold_eq fold_ne fold_lt fold_gt abs_eq

def fromN (A B : Nat → Nat) : Nat → Nat → Int
  | 0, _ => 0
  | n + 1, i => orI (cmpN (A i) (B i)) (fromN A B n (i + 1))
/-- Five numbers that can be read. -/
structure R5 (w : World) (g : Nat) (A : Nat → Nat) : Prop where
  at' : ∀ j, j < 5 → w.cell? ⟨g, j, none⟩ = some (.int .u64 (A j))
theorem t41 (g h : Nat) (A B : Nat → Nat) (w : World) (ha : R5 w g A) (hb : R5 w h B) : Calls Try.prog 41 #[.slice (some ⟨g, 0, none⟩) 5 5, .slice (some ⟨h, 0, none⟩) 5 5] w fun e w' => e = .returned (.int .i64 (fromN A B 5 0)) ∧ w' = w := by
  have HA : Hid (R5 w g A) := ha
  have HB : Hid (R5 w h B) := hb
  clear ha hb
  generalize hR : fromN A B 5 0 = R
  have HR : Hid (R = fromN A B (5 - 0) 0) := hR.symm
  clear hR
  go_enter Try.func41, Try.ntmps41
  go_wp2
  go_loopw [11] (fun vi wr => ∃ i : Nat, i ≤ 5 ∧ vi = .int .i64 i ∧ wr = w ∧ Hid (R = fromN A B (5 - i) i)) (fun vi _ => 5 - (intOf vi).toNat)
  case atStart => exact ⟨0, by omega, rfl, rfl, HR⟩
  case round =>
    obtain ⟨i, hi, rfl, hw, HI⟩ := hrel
    subst hw
    by_cases hlt : i < 5
    · have ca := HA.out.at' i hlt
      have cb := HB.out.at' i hlt
      have HI2 : Hid (R = orI (cmpN (A i) (B i)) (fromN A B (5 - (i + 1)) (i + 1))) := by
        have e := HI.out
        rw [show 5 - i = (5 - (i + 1)) + 1 by omega] at e
        exact e
      clear HI
      generalize A i = a at *
      generalize B i = b at *
      have C : Hid (∀ w, Calls Try.prog 57 #[.int .u64 a, .int .u64 b] w fun e w' => e = .returned (.int .i64 (cmpN a b)) ∧ w' = w) := fun w => t57u a b w
      generalize cmpN a b = c at *
      by_cases hc : c = 0
      · have HN : Hid (R = fromN A B (5 - (i + 1)) (i + 1)) := by
          have e := HI2.out
          unfold orI at e
          rw [if_neg (by simp [hc])] at e
          exact e
        have b0 : (c != 0) = false := by simp [hc]
        clear hc HI2
        go_wp2_with (go_at_call 57; (with_reducible refine (C.out _).mono ?_); rintro e w' ⟨rfl, hw⟩; subst w')
        go_roundw
        case rel => exact ⟨i + 1, by omega, by go_num, by first | rfl | trivial, HN⟩
        case measure => simp [intOf]; omega
      · have HN : Hid (R = c) := by
          have e := HI2.out
          unfold orI at e
          rw [if_pos (by simpa using hc)] at e
          exact e
        have b0 : (c != 0) = true := by simp [hc]
        clear hc HI2
        go_wp2_with (go_at_call 57; (with_reducible refine (C.out _).mono ?_); rintro e w' ⟨rfl, hw⟩; subst w')
        go_ret
        exact ⟨by rw [HN.out]; rfl, rfl⟩
    · obtain rfl : i = 5 := by omega
      have HN : Hid (R = 0) := HI.out
      clear HI hlt
      go_wp2
      go_ret
      exact ⟨by rw [HN.out]; rfl, rfl⟩
end Go.Proofs.Ytijfmaepoamkgab
