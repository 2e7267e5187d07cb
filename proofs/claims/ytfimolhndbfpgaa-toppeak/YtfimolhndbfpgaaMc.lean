/- Powers of two; Quick where it tells nothing; streams. -/
import Derived.Test.YtfimolhndbfpgaaMb
import Derived.Test.YtfimolhndbfpgaaPb
namespace Go.Proofs.Ytfimolhndbfpgaa
open Go.ChangeShapes Go.WideShapes Go.ChangeAt Go.RowKit Go.Fl Ieee
attribute [local go_sem] run_store_float run_store_c isSome_set call29 call28 run_neg fold_eq fold_ne fold_lt fold_gt abs_eq

/-- k is the least with n at most 2^k. -/
def Least (n k : Nat) : Prop := n ≤ 2 ^ k ∧ ∀ i, i < k → 2 ^ i < n
theorem t31 (n k P : Nat) (w : World) (h : Least n k) (hP : P = 2 ^ k) (hn : n ≤ 1000000) : Calls Try.prog 31 #[.int .i64 n] w fun e w' => e = .returned (.int .i64 (P : Int)) ∧ w' = w := by
  have HP : Hid (P = 2 ^ k) := hP
  clear hP
  have H : Hid (Least n k) := h
  clear h
  go_enter Try.func31, Try.ntmps31
  go_wp2
  go_loopw [3] (fun v wr => ∃ i p : Nat, i ≤ k ∧ v = .int .i64 (p : Int) ∧ Hid (p = 2 ^ i) ∧ wr = w) (fun v _ => n - (intOf v).toNat)
  case atStart => exact ⟨0, 1, by omega, rfl, rfl, rfl⟩
  case round =>
    obtain ⟨i, p, hi, rfl, hp, rfl⟩ := hrel
    by_cases hlt : i < k
    · have h1 : p < n := by rw [hp.out]; exact H.out.2 i hlt
      have h0 : 0 < p := by rw [hp.out]; exact Nat.pow_pos (by omega)
      have z : (p : Int) < (n : Int) := by omega
      go_wp2
      go_roundw
      case rel => exact ⟨i + 1, p * 2, by omega, by go_num, by show _ = _; rw [hp.out, Nat.pow_succ], by simp⟩
      case measure => simp [intOf]; omega
    · obtain rfl : i = k := by omega
      have h1 : n ≤ p := by rw [hp.out]; exact H.out.1
      obtain rfl : p = P := hp.out.trans HP.out.symm
      have z : ¬ (p : Int) < (n : Int) := by omega
      go_wp2
      go_ret
      exact ⟨rfl, rfl⟩
theorem t31k {n k p : Nat} {z : Int} (w : World) (h : Least n k) (hn : n ≤ 1000000) (hz : z = n) (hp : p = 2 ^ k) : Calls Try.prog 31 #[.int .i64 z] w fun e w' => e = .returned (.int .i64 (p : Int)) ∧ w' = w := by
  subst hz; exact t31 n k p w h hp hn
theorem t10arg (lg pg : Option Addr) (n c pc : Nat) (w : World) : Calls Try.prog 10 #[.slice lg n c, .slice pg 0 pc] w (PL w [] 2) := by
  go_enter Try.func10, Try.ntmps10
  go_wp2
  go_ret2
  exact PL.none _ _
theorem PL.up {w w' : World} (c : Int) (hu : Up w w') : PL w [] c (.returned (.tuple #[.slice Option.none 0 0, .int .i64 c])) w' := ⟨_, [], rfl, World.ownsRow_nil _ _ _ _, hu, rfl⟩
theorem least16 : Least 16385 15 := ⟨by decide, by decide⟩
theorem least0 : Least 0 0 := ⟨by decide, by decide⟩
/-- Quick of 2^14 samples and a pulse of two. -/
theorem t10long (lg pg : Option Addr) (c pc : Nat) (w : World) : Calls Try.prog 10 #[.slice lg 16384 c, .slice pg 2 pc] w (PL w [] 3) := by
  have e : Hid ((decide (16384 < 16384) || decide (16384 < 2)) = false) := by show _ = _; rfl
  go_enter Try.func10, Try.ntmps10
  go_wp2_with (first
    | (go_at_call 30; (with_reducible refine (t30k _ _ _ (by omega) (by omega) e.out).mono ?_); rintro e w' ⟨rfl, rfl⟩)
    | (go_at_call 31; (refine (t31k (p := 32768) _ least16 (by omega) rfl rfl).mono ?_); rintro e w2 ⟨rfl, rfl⟩))
  go_ret2

  exact PL.up _ (Up.alloc _ _)
theorem t10none (lg pg : Option Addr) (c pc : Nat) (w : World) : Calls Try.prog 10 #[.slice lg 0 c, .slice pg 1 pc] w (PL w [] 0) := by
  have e : Hid ((decide (16384 < 0) || decide (16384 < 1)) = false) := by show _ = _; rfl
  go_enter Try.func10, Try.ntmps10
  go_wp2_with (first
    | (go_at_call 30; (with_reducible refine (t30k _ _ _ (by omega) (by omega) e.out).mono ?_); rintro e w' ⟨rfl, rfl⟩)
    | (go_at_call 31; (refine (t31k (p := 1) _ least0 (by omega) rfl rfl).mono ?_); rintro e w2 ⟨rfl, rfl⟩))
  go_ret2

  exact PL.up _ (Up.alloc _ _)
end Go.Proofs.Ytfimolhndbfpgaa
