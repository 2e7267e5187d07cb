/- Whole places on a line: sums and means. -/
import Derived.Test.YtcgbmcnefolgcaaJa
import Derived.Test.YtcgbmcnefolgcaaBf
namespace Go.Proofs.Ytcgbmcnefolgcaa
open Go.Fl Ieee

def sumZ (f : Nat → Int) : Nat → Int
  | 0 => 0
  | n + 1 => sumZ f n + f n
theorem sumZ_bd {f : Nat → Int} {M : Int} : ∀ n : Nat, (∀ i, i < n → -M ≤ f i ∧ f i ≤ M) → -((n : Int) * M) ≤ sumZ f n ∧ sumZ f n ≤ (n : Int) * M
  | 0, _ => by simp [sumZ]
  | n + 1, h => by
    have ih := sumZ_bd n fun i hi => h i (by omega)
    have h1 := h n (by omega)
    have e : ((n + 1 : Nat) : Int) * M = (n : Int) * M + M := by rw [Int.natCast_add, Int.add_mul]; simp
    rw [e]
    unfold sumZ
    omega
theorem sumZ_mul {k : Int} {f g : Nat → Int} : ∀ n, (∀ i, i < n → g i = k * f i) → sumZ g n = k * sumZ f n
  | 0, _ => by simp [sumZ]
  | n + 1, h => by
    unfold sumZ
    rw [sumZ_mul n fun i hi => h i (by omega), h n (by omega), Int.mul_add]
theorem sumZ_nonneg {f : Nat → Int} : ∀ n, (∀ i, i < n → 0 ≤ f i) → 0 ≤ sumZ f n
  | 0, _ => by simp [sumZ]
  | n + 1, h => by
    unfold sumZ
    have := sumZ_nonneg n fun i hi => h i (by omega)
    have := h n (by omega)
    omega
theorem sumZ_pos {f : Nat → Int} : ∀ n, 0 < n → (∀ i, i < n → 0 ≤ f i) → 0 < f 0 → 0 < sumZ f n
  | 0, h, _, _ => by omega
  | 1, _, _, h => by simpa [sumZ] using h
  | n + 2, _, h, h0 => by
    have := sumZ_pos (n + 1) (by omega) (fun i hi => h i (by omega)) h0
    have := h (n + 1) (by omega)
    rw [sumZ]
    omega
theorem sumZ_lin {f : Nat → Int} {u v : Int} : ∀ n : Nat, (∀ i, i < n → f i = u + i * v) → 2 * sumZ f n = n * (2 * u + (n - 1) * v)
  | 0, _ => by simp [sumZ]
  | n + 1, h => by
    have ih := sumZ_lin n fun i hi => h i (by omega)
    have h1 := h n (by omega)
    rw [sumZ, h1, Int.mul_add, ih]
    have e : ((n + 1 : Nat) : Int) = (n : Int) + 1 := by omega
    rw [e]
    grind
theorem sumZ_mid {f : Nat → Int} {u v : Int} (h : Nat) (hf : ∀ i, i < 2 * h + 1 → f i = u + i * v) : sumZ f (2 * h + 1) = (u + h * v) * ((2 * h + 1 : Nat) : Int) := by
  have e := sumZ_lin (2 * h + 1) hf
  have e1 : ((2 * h + 1 : Nat) : Int) = 2 * (h : Int) + 1 := by omega
  rw [e1] at e ⊢
  have e2 : (2 * (h : Int) + 1) * (2 * u + (2 * (h : Int) + 1 - 1) * v) = 2 * ((u + h * v) * (2 * (h : Int) + 1)) := by grind
  rw [e2] at e
  omega
theorem WH.sum {F : Nat → Option Nat} {f : Nat → Int} {M : Int} : ∀ n : Nat, 0 < n → (∀ i, i < n → WH (F i) (f i)) → (∀ i, i < n → -M ≤ f i ∧ f i ≤ M) → (n : Int) * M < P53 → WH (sumN F n) (sumZ f n)
  | 0, h, _, _, _ => by omega
  | 1, _, h, _, _ => by
    have := h 0 (by omega)
    simpa [sumN, sumZ] using this
  | n + 2, _, h, hb, hM => by
    have hM0 : 0 ≤ M := by have := hb 0 (by omega); omega
    have e : ((n + 2 : Nat) : Int) * M = ((n + 1 : Nat) : Int) * M + M := by
      rw [show ((n + 2 : Nat) : Int) = ((n + 1 : Nat) : Int) + 1 by omega, Int.add_mul]; simp
    have ih := WH.sum (n + 1) (by omega) (fun i hi => h i (by omega)) (fun i hi => hb i (by omega)) (by omega)
    have b := sumZ_bd (f := f) (M := M) (n + 2) hb
    rw [sumZ] at b ⊢
    rw [sumN_step]
    exact WH.add ih (h (n + 1) (by omega)) (by omega) (by omega)
end Go.Proofs.Ytcgbmcnefolgcaa
