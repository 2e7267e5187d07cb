/- Cancel: what it refuses; the rows copied. -/
import Derived.Test.YtgalgnopjcpocaaBd
import Derived.Test.YtgalgnopjcpocaaQa
namespace Go.Proofs.Ytgalgnopjcpocaa
open Go.ChangeShapes Go.WideShapes Go.ChangeAt Go.RowKit Go.Fl Ieee
attribute [local go_sem] run_store_float run_store_c isSome_set call20 call33 run_neg fold_eq fold_ne fold_lt fold_gt abs_eq

/-- A table that may be cancelled: its rows' values. -/
structure TC (w : World) (R n c m : Nat) (P : Nat → Option Addr) (C : Nat → Nat) : Prop where
  tb : TB w R n P (fun _ => m) C
  n1 : 1 ≤ n
  nc : n ≤ c
  n2 : n ≤ 256
  m2 : m ≤ 16384
  nm : n * m ≤ 262144
set_option maxRecDepth 20000 in
theorem t44 {w : World} {R n c m : Nat} {P : Nat → Option Addr} {C : Nat → Nat} (h : TC w R n c m P C) : Calls Try.prog 44 #[.slice (some ⟨R, 0, none⟩) n c] w (BR false w) := by
  have H : Hid (TC w R n c m P C) := h
  have z1 : ¬ (256 : Int) < (n : Int) := by have := h.n2; omega
  have z2 : ¬ (16384 : Int) < (m : Int) := by have := h.m2; omega
  have z3 : (n : Int) ≤ 256 := by omega
  have z4 : (m : Int) ≤ 16384 := by omega
  clear h
  go_enter Try.func44, Try.ntmps44
  go_wp2
  go_loopw [3, 5, 11] (fun vc _ vi wr => ∃ (i x : Nat), i ≤ n ∧ vi = .int .i64 i ∧ vc = .int .i64 x ∧ Hid (x = i * m) ∧ wr = w) (fun _ _ vi _ => n - (intOf vi).toNat)
  case atStart => exact ⟨0, 0, by omega, rfl, rfl, (Nat.zero_mul m).symm, rfl⟩
  case round =>
    obtain ⟨i, x, hi, rfl, rfl, HX, rfl⟩ := hrel
    have hx1 : x ≤ 262144 := by rw [HX.out]; exact Nat.le_trans (Nat.mul_le_mul_right m hi) H.out.nm
    have z5 : (x : Int) ≤ 262144 := by omega
    by_cases hlt : i < n
    · have z6 : (i : Int) < (n : Int) := by omega
      have z7 : (0 : Int) ≤ (i : Int) := by omega
      have c0 := H.out.tb i hlt
      simp only at c0
      obtain ⟨y, hy⟩ : ∃ y, x + m = y := ⟨_, rfl⟩
      have hz : (x : Int) + (m : Int) = (y : Int) := by omega
      have HY : Hid (y = (i + 1) * m) := by show _ = _; rw [← hy, HX.out, Nat.succ_mul]
      clear hy hx1
      go_wp2
      go_roundw
      case rel => exact ⟨i + 1, y, by omega, by go_num, rfl, HY, trivial⟩
      case measure => simp [intOf]; omega
    · obtain rfl : i = n := by omega
      have z8 : ¬ (262144 : Int) < (x : Int) := by omega
      go_wp2
      go_ret
      exact ⟨by simp, rfl⟩
set_option maxRecDepth 20000 in
set_option maxHeartbeats 1000000 in
theorem t45 {w : World} {R n c m : Nat} {P : Nat → Option Addr} {C : Nat → Nat} (h : TC w R n c m P C) : Calls Try.prog 45 #[.slice (some ⟨R, 0, none⟩) n c] w (BR false w) := by
  have H : Hid (TC w R n c m P C) := h
  have h1 := h.n1
  have h2 := h.nc
  have h3 := h.n2
  have c00 := h.tb 0 (by omega)
  simp only at c00
  have z0 : (0 : Int) < (n : Int) := by omega
  have z1 : (1 : Int) ≤ (n : Int) := by omega
  have z2 : (n : Int) ≤ (c : Int) := by omega
  have z3 : (n : Int) ≤ 256 := by omega
  clear h
  rcases Nat.eq_zero_or_pos (n - 1) with hn | hn
  · obtain rfl : n = 1 := by omega
    by_cases hc : c = 1
    · subst hc
      go_enter Try.func45, Try.ntmps45
      go_wp2
      go_loopw [4, 8] (fun _ vi wr => vi = .int .i64 0 ∧ wr = w) (fun _ _ _ => 0)
      case atStart => exact ⟨rfl, rfl⟩
      case round =>
        obtain ⟨rfl, rfl⟩ := hrel
        go_wp2
        go_ret
        exact ⟨rfl, rfl⟩
    · have e1 : ¬ c - 1 = 0 := by omega
      go_enter Try.func45, Try.ntmps45
      go_wp2
      go_loopw [4, 8] (fun _ vi wr => vi = .int .i64 0 ∧ wr = w) (fun _ _ _ => 0)
      case atStart => exact ⟨rfl, rfl⟩
      case round =>
        obtain ⟨rfl, rfl⟩ := hrel
        go_wp2
        go_ret
        exact ⟨rfl, rfl⟩
  · obtain ⟨k, hk⟩ : ∃ k, n = k + 1 := ⟨n - 1, by omega⟩
    have HK : Hid (n = k + 1) := hk
    have hc : ¬ c = 1 := by omega
    have e1 : ¬ c - 1 = 0 := by omega
    have e2 : n - 1 = k := by omega
    have e3 : (n : Int) - 1 = (k : Int) := by omega
    clear hk hn
    go_enter Try.func45, Try.ntmps45
    go_wp2
    go_loopw [4, 8] (fun _ vi wr => ∃ i : Nat, i ≤ k ∧ vi = .int .i64 i ∧ wr = w) (fun _ vi _ => k - (intOf vi).toNat)
    case atStart => exact ⟨0, by omega, rfl, rfl⟩
    case round =>
      obtain ⟨i, hi, rfl, rfl⟩ := hrel
      by_cases hlt : i < k
      · have z6 : (i : Int) < (k : Int) := by omega
        have z7 : (0 : Int) ≤ (i : Int) := by omega
        have c0 := H.out.tb (1 + i) (by have := HK.out; omega)
        simp only at c0
        go_wp2
        go_roundw
        case rel => exact ⟨i + 1, by omega, by go_num, trivial⟩
        case measure => simp [intOf]; omega
      · obtain rfl : i = k := by omega
        go_wp2
        go_ret
        exact ⟨rfl, rfl⟩
set_option maxRecDepth 20000 in
theorem t30 {w : World} {R n c m o : Nat} {P : Nat → Option Addr} {C : Nat → Nat} (h : TC w R n c m P C) (ho : o < 9) (hn : o < n) : Calls Try.prog 30 #[.slice (some ⟨R, 0, none⟩) n c, .int .i64 o] w fun e w' => e = .returned (.int .i64 0) ∧ w' = w := by
  have H : Hid (TC w R n c m P C) := h
  have HB : Hid ((decide ((0 : Int) ≤ (o : Int)) && decide ((o : Int) ≤ 8)) = true) := by show _ = _; simp; omega
  have z1 : ¬ (n : Int) ≤ (o : Int) := by omega
  clear h
  go_enter Try.func30, Try.ntmps30
  go_wp2_with (first
    | (go_at_call 29; (with_reducible refine (t29k HB.out _).mono ?_); rintro e w' ⟨rfl, hw⟩; subst w')
    | (go_at_call 44; (with_reducible refine (t44 H.out).mono ?_); rintro e w' ⟨rfl, hw⟩; subst w')
    | (go_at_call 45; (with_reducible refine (t45 H.out).mono ?_); rintro e w' ⟨rfl, hw⟩; subst w'))
  go_ret
  exact ⟨rfl, rfl⟩
end Go.Proofs.Ytgalgnopjcpocaa
