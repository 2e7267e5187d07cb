/- Moduli as many as count. -/
import Derived.Test.YtpahjenfkgcdlabJ
namespace Go.Proofs.Ytpahjenfkgcdlab
open Go.ChangeShapes Go.WideShapes Go.ChangeAt Go.RowKit

/-- The moduli of a list: k of them. -/
def modL (f : Nat → Int) (k : Nat) : List Int := (List.range k).map fun i => f i % 4096 + 1
theorem modL_len (f : Nat → Int) (k : Nat) : (modL f k).length = k := by simp [modL]
theorem modL_succ (f : Nat → Int) (k : Nat) : modL f (k + 1) = modL f k ++ [f k % 4096 + 1] := by
  unfold modL
  rw [List.range_succ, List.map_append]
  rfl
theorem modL_at (f : Nat → Int) {k i : Nat} (h : i < k) : (modL f k)[i]! = f i % 4096 + 1 := by
  rw [getElem!_pos _ i (by rw [modL_len]; exact h)]
  simp [modL]
theorem modL_in (f : Nat → Int) {k i : Nat} (h : i < k) : 1 ≤ (modL f k)[i]! ∧ (modL f k)[i]! ≤ 4096 := by
  rw [modL_at f h]
  have := Int.emod_nonneg (f i) (show (4096 : Int) ≠ 0 by decide)
  have := Int.emod_lt_of_pos (f i) (show (0 : Int) < 4096 by decide)
  omega
set_option maxHeartbeats 1000000 in
set_option maxRecDepth 20000 in
theorem t4 (p : Option Addr) (n c : Nat) (f : Nat → Int) (w : World) (hm : IR w p n f) : Calls Try.prog 4 #[.slice p n c] w fun e w' => ∃ q cap, e = .returned (.slice q (min n 5) cap) ∧ Hid (OI w.heap.size w' (.slice q (min n 5) cap) (modL f (min n 5)) ∧ Up w w') := by
  have HM : Hid (IR w p n f) := hm
  obtain ⟨i0, hi, hz0, hz1, hz2⟩ := info_parts info2
  clear hm
  go_enter Try.func4, Try.ntmps4
  go_wp2
  go_loopw [3, 4] (fun v3 v4 wr => ∃ (i : Nat) (q : Option Addr) (cap : Nat), i ≤ n ∧ i ≤ 5 ∧ v3 = .slice q i cap ∧ v4 = .int .i64 i ∧ Hid (OI w.heap.size wr (.slice q i cap) (modL f i) ∧ Up w wr)) (fun _ v4 _ => 5 - (intOf v4).toNat)
  case atStart => exact ⟨0, none, 0, by omega, by omega, rfl, rfl, OI.nil _ _, Up.refl _⟩
  case round =>
    obtain ⟨i, q, cap, hi1, hi5, rfl, rfl, HI⟩ := hrel
    by_cases hc : i < n ∧ i < 5
    · obtain ⟨hin, hi6⟩ := hc
      obtain ⟨b1, o1, rfl, d1⟩ := HM.out i hin
      have e1 := cell_up d1 HI.out.2
      obtain ⟨z, hz⟩ : ∃ z, f i = z := ⟨_, rfl⟩
      rw [hz] at e1
      have HZ : Hid (modL f (i + 1) = modL f i ++ [z % 4096 + 1]) := by show _ = _; rw [modL_succ, hz]
      have HLen : Hid ((modL f i).length = i) := modL_len f i
      have hiz : (i : Int) < (n : Int) := by omega
      have hiz5 : (i : Int) < 5 := by omega
      have hiz0 : (0 : Int) ≤ (i : Int) := by omega
      have hz0' := Int.emod_nonneg z (show (4096 : Int) ≠ 0 by decide)
      have hz1' := Int.emod_lt_of_pos z (show (0 : Int) < 4096 by decide)
      have hsz := HI.out.2.size
      clear d1
      go_wp2_with (first
        | (go_at_call 5; (with_reducible refine (t5 z 4096 (by omega) _).mono ?_); rintro e wr ⟨rfl, rfl⟩)
        | (at_builtin; refine wpList_append_own _ rfl _ _ 22 rfl w.heap.size 2 i0 (.int .i64 0) 1 8 Try.underlying22 hi hz0 hz1 hz2 rfl (by decide) _ _ _ rfl (HI.out.1.alloc _) ⟨wr.heap.size, 0, none⟩ 1 1 [.int .i64 (z % 4096 + 1)] rfl rfl (one_new _ _ _) (one_one _) (by rw [HLen.out]; unfold maxLen; omega) (by rw [HLen.out]; omega) (by simp; omega) ?_; intro v2 w3 h2 hg2 _; have HO3 : Hid (OI w.heap.size w3 v2 (modL f i ++ [z % 4096 + 1]) ∧ Up w w3) := app_own HI.out.1 HI.out.2 h2 hg2; clear h2 hg2))
      obtain ⟨p2, cap2, hv, _⟩ := own_form HO3.out.1
      rw [← HZ.out, modL_len] at hv
      subst hv
      rw [← HZ.out] at HO3
      go_roundw
      case rel => exact ⟨i + 1, p2, cap2, by omega, by omega, rfl, by go_num, HO3⟩
      case measure => simp [intOf]; omega
    · have HK : Hid (min n 5 = i) := by show _ = _; omega
      clear hc
      by_cases hin : i < n
      · obtain rfl : i = 5 := by have := HK.out; omega
        have hiz : (5 : Int) < (n : Int) := by omega
        clear hin hi1 hi5
        go_wp2
        go_ret
        rw [HK.out]
        exact ⟨q, cap, rfl, HI⟩
      · have hiz : (n : Int) ≤ (i : Int) := by omega
        go_wp2
        go_ret
        rw [HK.out]
        exact ⟨q, cap, rfl, HI⟩
theorem OI.cellsome {b : Nat} {w : World} {p : Option Addr} {n cap : Nat} {d : List Int} (h : OI b w (.slice p n cap) d) {i : Nat} (hi : i < n) : ∃ g, p = some ⟨g, 0, none⟩ ∧ w.cell? ⟨g, i, none⟩ = some (.int .i64 d[i]!) ∧ b ≤ g ∧ g < w.heap.size := by
  obtain ⟨p', cap', he, hp⟩ := own_form h
  simp only [Value.slice.injEq] at he
  obtain ⟨rfl, rfl, rfl⟩ := he
  obtain ⟨g, rfl⟩ := hp (by omega)
  have hl := h.lt g rfl
  exact ⟨g, rfl, h.cell hi, hl.1, hl.2⟩
end Go.Proofs.Ytpahjenfkgcdlab
