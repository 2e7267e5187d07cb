/- Null as the document says it: the walk. -/
import Derived.Test.YtjnggbpifclpcaaIc
namespace Go.Proofs.Ytjnggbpifclpcaa
open Go.ChangeShapes Go.WideShapes Go.ChangeAt Go.RowKit Go.Fl Ieee
attribute [local go_sem] run_store_float run_store_complex call34 call33 run_neg fold_eq fold_ne fold_lt fold_gt abs_eq

attribute [local go_sem] fieldC_0 fieldC_1
set_option maxHeartbeats 4000000 in
set_option maxRecDepth 20000 in
theorem t11f {w : World} {p : Option Addr} {m c N x : Nat} {d : Array Nat} (h : FV w p m d) (h1 : m < N) (h2 : N ≤ 64) (hf : (fin (ab x) && finL d) = false) : Calls Try.prog 11 #[.int .i64 N, .float .f64 x, .slice p m c] w (QL w [] 6) := by
  have HV : Hid (∀ W, Up w W → FV W p m d) := fun W hu => h.up hu
  have HL : Hid (d.size = m) := h.len
  have z0 : (N : Int) ≤ 64 := by omega
  have z1 : (m : Int) < (N : Int) := by omega
  have z2 : ¬ (N : Int) ≤ (m : Int) := by omega
  have HF : Hid ((fin (ab x) && allN (fun i => fin (ab d[i]!)) m) = false) := by show _ = _; rw [← hf, ← h.len]; rfl
  clear h hf
  go_enter Try.func11, Try.ntmps11
  go_wp2_with (go_at_call 19; (with_reducible refine (t19 _ _).mono ?_); rintro e w' ⟨rfl, hw⟩; subst w')
  go_loopw [8, 9, 10] (fun vb vi _ wr => ∃ i : Nat, i ≤ m ∧ vi = .int .i64 i ∧ vb = .bool (fin (ab x) && allN (fun i => fin (ab d[i]!)) i) ∧ w = wr) (fun _ vi _ _ => m - (intOf vi).toNat)
  case atStart => exact ⟨0, by omega, rfl, by show _ = Value.bool (fin (ab x) && true); rw [Bool.and_true], rfl⟩
  case round =>
    obtain ⟨i, hi', rfl, rfl, hw⟩ := hrel
    subst hw
    by_cases hlt : i < m
    · obtain ⟨b, o, rfl, hr⟩ := (HV.out w (Up.refl _)).rd (by omega)
      obtain ⟨y, hy⟩ : ∃ y, d[i]! = y := ⟨_, rfl⟩
      have c1 : w.cell? ⟨b, o + i, none⟩ = some (.float .f64 y) := by rw [← hy]; exact hr i (by rw [HL.out]; exact hlt)
      have HY : Hid (d[i]! = y) := hy
      clear hr hy
      have z3 : (i : Int) < (m : Int) := by omega
      have z4 : (0 : Int) ≤ (i : Int) := by omega
      obtain ⟨B, hB⟩ : ∃ B, (fin (ab x) && allN (fun i => fin (ab d[i]!)) i) = B := ⟨_, rfl⟩
      have HB : Hid ((fin (ab x) && allN (fun i => fin (ab d[i]!)) (i + 1)) = (B && fin (ab y))) := by
        show _ = _
        rw [← hB, ← HY.out, show allN (fun i => fin (ab d[i]!)) (i + 1) = (allN (fun i => fin (ab d[i]!)) i && fin (ab d[i]!)) from rfl, Bool.and_assoc]
      rw [hB]
      clear hB
      cases B
      all_goals
        go_wp2_with (go_at_call 19; (with_reducible refine (t19 _ _).mono ?_); rintro e w' ⟨rfl, hw⟩; subst w')
        go_roundw
        case rel => exact ⟨i + 1, by omega, by go_num, by rw [HB.out]; rfl, by trivial⟩
        case measure => simp [intOf]; omega
    · obtain rfl : i = m := by omega
      rw [HF.out]
      go_wp2
      go_ret2
      exact QL.none _ _
end Go.Proofs.Ytjnggbpifclpcaa
