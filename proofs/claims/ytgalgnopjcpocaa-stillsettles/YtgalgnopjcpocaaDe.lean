/- Cancel. -/
import Derived.Test.YtgalgnopjcpocaaDc
namespace Go.Proofs.Ytgalgnopjcpocaa
open Go.ChangeShapes Go.WideShapes Go.ChangeAt Go.RowKit Go.Fl Ieee
attribute [local go_sem] run_store_float run_store_c isSome_set call20 call33 run_neg fold_eq fold_ne fold_lt fold_gt abs_eq

/-- The differences, so many times. -/
def dk (F : Nat → Nat → C2) : Nat → Nat → Nat → C2
  | 0, a, g => F a g
  | k + 1, a, g => if k < a then difC (dk F k a g) (dk F k (a - 1) g) else dk F k a g
/-- What Cancel leaves: n rows. -/
def CZ (w : World) (N m o n : Nat) (F : Nat → Nat → C2) (e : Ending) (w' : World) : Prop :=
  ∃ A B D, e = .returned (.tuple #[.slice (some ⟨A, o, none⟩) n n, .int .i64 0]) ∧ Hid (RT w.heap.size w' A N m B D) ∧ Hid (Up w w') ∧ Hid (∀ a, a < N → ∀ g, g < m → ab2 (D a)[g]! = dk F o a g)
set_option maxRecDepth 20000 in
set_option maxHeartbeats 2000000 in
theorem t22 {w : World} {R N m c o n : Nat} {P : Nat → Option Addr} {C G O : Nat → Nat} {f : Nat → Nat → Nat × Nat} (h : TI w R N m P C G O f) (hc : N ≤ c) (hN : N ≤ 256) (hm : m ≤ 16384) (hNm : N * m ≤ 262144) (ho : o < 9) (hn : o + n = N) (hn1 : 1 ≤ n) : Calls Try.prog 22 #[.slice (some ⟨R, 0, none⟩) N c, .int .i64 o] w (CZ w N m o n (fun a g => ab2 (f a g))) := by
  have HC : Hid (TC w R N c m P C) := ⟨h.tb, by omega, hc, hN, hm, hNm⟩
  have H31 : Hid (Calls Try.prog 31 #[.slice (some ⟨R, 0, none⟩) N c] w (CO w N m f)) := by
    rcases Nat.eq_zero_or_pos m with h0 | h0
    · subst h0; exact t31z h hN
    · exact t31 h hN hm h0
  have HN : Hid (o + n = N) := hn
  have z1 : (o : Int) ≤ 8 := by omega
  have z2 : (0 : Int) ≤ (o : Int) := by omega
  clear h hn
  go_enter Try.func22, Try.ntmps22
  go_wp2_with (first
    | (go_at_call 30; (with_reducible refine (t30 HC.out ho (by have := HN.out; omega)).mono ?_); rintro e w' ⟨rfl, hw⟩; subst w')
    | (go_at_call 31; (with_reducible refine H31.out.mono ?_); rintro e w1 ⟨A, B, D, rfl, HR, HU, HV⟩))
  have HV0 : Hid (∀ a, a < N → ∀ g, g < m → ab2 (D a)[g]! = dk (fun a g => ab2 (f a g)) 0 a g) := fun a ha g hg => by rw [HV.out a ha g hg]; rfl
  clear HC H31 HV
  go_loopw [7, 17] (fun v7 vi wr => ∃ (k n' : Nat) (D : Nat → List (Nat × Nat)), k ≤ o ∧ vi = .int .i64 k ∧ v7 = .slice (some ⟨A, k, none⟩) n' n' ∧ Hid (k + n' = N) ∧ Hid (RT w.heap.size wr A N m B D) ∧ Hid (Up w wr) ∧ Hid (∀ a, a < N → ∀ g, g < m → ab2 (D a)[g]! = dk (fun a g => ab2 (f a g)) k a g)) (fun _ vi _ => o - (intOf vi).toNat)
  case atStart => exact ⟨0, N, D, by omega, rfl, rfl, Nat.zero_add N, HR, HU, HV0⟩
  case round =>
    clear HR HU HV0
    obtain ⟨k, n', D, hk, rfl, rfl, HK, HR, HU, HV⟩ := hrel
    by_cases hlt : k < o
    · have y1 : (k : Int) < (o : Int) := by omega
      obtain ⟨n1, e1⟩ : ∃ n1, n' = n1 + 1 := ⟨n' - 1, by have := HK.out; have := HN.out; omega⟩
      have HE : Hid (n' = n1 + 1) := e1
      have e2 : n' - 1 = n1 := by omega
      clear e1
      go_wp2_with (go_at_call 32; (with_reducible refine (t32 (c := n') HR.out HU.out HV.out HK.out HE.out (by have := HK.out; have := HN.out; have := HE.out; omega) hN hm (Nat.le_refl n') (by have := HK.out; omega)).mono ?_); rintro e w2 ⟨D2, rfl, HR2, HU2, HV2⟩; rw [e2])
      go_roundw
      case rel => exact ⟨k + 1, n1, D2, by omega, by go_num, rfl, by have q1 := HK.out; have q2 := HE.out; show _ = _; omega, HR2, HU2, HV2⟩
      case measure => simp [intOf]; omega
    · obtain rfl : k = o := by omega
      obtain rfl : n' = n := by have := HK.out; have := HN.out; omega
      go_wp2
      go_ret2
      exact ⟨A, B, D, rfl, HR, HU, HV⟩
end Go.Proofs.Ytgalgnopjcpocaa
