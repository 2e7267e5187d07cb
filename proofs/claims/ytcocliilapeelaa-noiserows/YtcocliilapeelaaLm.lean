/- Steps of a source as numbers: each can be undone; leaps. -/
import Derived.Test.YtcocliilapeelaaP
namespace Go.Proofs.Ytcocliilapeelaa
open Go.Fl Ieee Go.RowKit

theorem bits_xor (x y : Nat) (hx : x < 2 ^ 64) (hy : y < 2 ^ 64) : bits BinOp.xor IntKind.u64 (x : Int) (y : Int) = ((x ^^^ y : Nat) : Int) := by
  show IntKind.u64.wrap ((BitVec.ofInt 64 (x : Int) ^^^ BitVec.ofInt 64 (y : Int)).toNat : Int) = _
  rw [BitVec.toNat_xor, BitVec.ofInt_natCast, BitVec.ofInt_natCast, BitVec.toNat_ofNat, BitVec.toNat_ofNat, IntKind.wrap_u64, Nat.mod_eq_of_lt hx, Nat.mod_eq_of_lt hy]
  have := Nat.xor_lt_two_pow hx hy
  omega
theorem wrap_range (x : Int) : 0 ≤ IntKind.u64.wrap x ∧ IntKind.u64.wrap x < 2 ^ 64 := by
  rw [IntKind.wrap_u64]; omega
theorem bits_range (x y : Int) : 0 ≤ bits BinOp.xor IntKind.u64 x y ∧ bits BinOp.xor IntKind.u64 x y < 2 ^ 64 := wrap_range _
theorem stir_range (z : Int) : 0 ≤ stir z ∧ stir z < 2 ^ 64 := bits_range _ _
theorem adv_range (s n : Int) : 0 ≤ adv s n ∧ adv s n < 2 ^ 64 := wrap_range _
theorem xs_nat (z k : Nat) (hz : z < 2 ^ 64) : xs (z : Int) ((2 ^ k : Nat) : Int) = ((z ^^^ (z >>> k) : Nat) : Int) := by
  unfold xs
  rw [← Int.natCast_ediv, bits_xor _ _ hz (Nat.lt_of_le_of_lt (Nat.div_le_self _ _) hz), Nat.shiftRight_eq_div_pow]
theorem xor_cross {a b A B : Nat} (h : a ^^^ A = b ^^^ B) : a ^^^ b = A ^^^ B := by
  have e : (a ^^^ A) ^^^ (A ^^^ b) = (b ^^^ B) ^^^ (A ^^^ b) := by rw [h]
  have e1 : (a ^^^ A) ^^^ (A ^^^ b) = a ^^^ b := by rw [Nat.xor_assoc, ← Nat.xor_assoc A A b, Nat.xor_self, Nat.zero_xor]
  have e2 : (b ^^^ B) ^^^ (A ^^^ b) = A ^^^ B := by rw [Nat.xor_comm b B, Nat.xor_comm A b, Nat.xor_assoc, ← Nat.xor_assoc b b A, Nat.xor_self, Nat.zero_xor, Nat.xor_comm]
  rw [e1, e2] at e; exact e
theorem xs_inj {a b k : Nat} (hk : 0 < k) (h : a ^^^ (a >>> k) = b ^^^ (b >>> k)) : a = b := by
  have h1 := xor_cross h
  rw [← Nat.shiftRight_xor_distrib] at h1
  have h0 : a ^^^ b = 0 := by
    generalize a ^^^ b = D at h1
    rw [Nat.shiftRight_eq_div_pow] at h1
    rcases Nat.eq_zero_or_pos D with h2 | h2
    · exact h2
    · have := Nat.div_lt_self h2 (show 1 < 2 ^ k from Nat.one_lt_two_pow (by omega))
      omega
  have h2 : (a ^^^ b) ^^^ b = b := by rw [h0, Nat.zero_xor]
  rw [Nat.xor_assoc, Nat.xor_self, Nat.xor_zero] at h2
  exact h2
theorem xs_inj' {a b : Int} {k : Nat} (hk : 0 < k) (ha : 0 ≤ a ∧ a < 2 ^ 64) (hb : 0 ≤ b ∧ b < 2 ^ 64) (h : xs a ((2 ^ k : Nat) : Int) = xs b ((2 ^ k : Nat) : Int)) : a = b := by
  obtain ⟨x, rfl⟩ := Int.eq_ofNat_of_zero_le ha.1
  obtain ⟨y, rfl⟩ := Int.eq_ofNat_of_zero_le hb.1
  have hx : x < 2 ^ 64 := by have := ha.2; omega
  have hy : y < 2 ^ 64 := by have := hb.2; omega
  rw [xs_nat x k hx, xs_nat y k hy] at h
  rw [xs_inj hk (Int.natCast_inj.1 h)]
theorem mul_inj {a b c ci u : Int} (hc : c * ci = 1 + 2 ^ 64 * u) (ha : 0 ≤ a ∧ a < 2 ^ 64) (hb : 0 ≤ b ∧ b < 2 ^ 64) (h : IntKind.u64.wrap (a * c) = IntKind.u64.wrap (b * c)) : a = b := by
  rw [IntKind.wrap_u64, IntKind.wrap_u64] at h
  have h1 : (a * c - b * c) % 2 ^ 64 = 0 := by omega
  obtain ⟨t, ht⟩ := Int.dvd_of_emod_eq_zero h1
  have h2 : (a - b) * (c * ci) = 2 ^ 64 * (t * ci) := by
    rw [← Int.mul_assoc, Int.sub_mul, ht, Int.mul_assoc]
  rw [hc, Int.mul_add, Int.mul_one] at h2
  have h3 : (a - b) * (2 ^ 64 * u) = 2 ^ 64 * ((a - b) * u) := by
    rw [← Int.mul_assoc, Int.mul_comm (a - b), Int.mul_assoc]
  rw [h3] at h2
  generalize (a - b) * u = p at h2
  generalize t * ci = q at h2
  omega
theorem stir_inj {a b : Int} (ha : 0 ≤ a ∧ a < 2 ^ 64) (hb : 0 ≤ b ∧ b < 2 ^ 64) (h : stir a = stir b) : a = b := by
  have e1 := xs_inj' (k := 31) (by omega) (wrap_range _) (wrap_range _) (show xs (m2 (m1 a)) _ = xs (m2 (m1 b)) _ from h)
  have e2 := mul_inj (c := 10723151780598845931) (ci := 3573116690164977347) (u := 2077064247507883091) (by decide) (bits_range _ _) (bits_range _ _) (show IntKind.u64.wrap (xs (m1 a) 134217728 * _) = IntKind.u64.wrap (xs (m1 b) 134217728 * _) from e1)
  have e3 := xs_inj' (k := 27) (by omega) (wrap_range _) (wrap_range _) (show xs (m1 a) _ = xs (m1 b) _ from e2)
  have e4 := mul_inj (c := 13787848793156543929) (ci := 10871156337175269513) (u := 8125545580553827436) (by decide) (bits_range _ _) (bits_range _ _) (show IntKind.u64.wrap (xs a 1073741824 * _) = IntKind.u64.wrap (xs b 1073741824 * _) from e3)
  exact xs_inj' (k := 30) (by omega) ha hb e4
theorem adv_inj {a b n : Int} (ha : 0 ≤ a ∧ a < 2 ^ 64) (hb : 0 ≤ b ∧ b < 2 ^ 64) (h : adv a n = adv b n) : a = b := by
  unfold adv at h
  simp only [IntKind.wrap_u64] at h
  omega
theorem adv_adv (s p q : Int) : adv (adv s p) q = adv s (p + q) := by
  unfold adv
  simp only [IntKind.wrap_u64]
  rw [Int.add_mul]
  omega
theorem adv_wrap (s p : Int) : adv s (IntKind.u64.wrap p) = adv s p := by
  unfold adv
  simp only [IntKind.wrap_u64]
  have : (p % 18446744073709551616 * 11400714819323198485) % 18446744073709551616 = (p * 11400714819323198485) % 18446744073709551616 := by omega
  first | omega | (simp at *; omega)
theorem adv_zero {s : Int} (h : 0 ≤ s ∧ s < 2 ^ 64) : adv s 0 = s := by
  unfold adv
  simp only [IntKind.wrap_u64]
  omega
theorem it_adv {s : Int} (h : 0 ≤ s ∧ s < 2 ^ 64) : ∀ n : Nat, it s n = adv s n
  | 0 => (adv_zero h).symm
  | n + 1 => by show adv (it s n) 1 = _; rw [it_adv h n, adv_adv]; rfl
theorem it_range {s : Int} (h : 0 ≤ s ∧ s < 2 ^ 64) (n : Nat) : 0 ≤ it s n ∧ it s n < 2 ^ 64 := by rw [it_adv h]; exact adv_range _ _
/-- Unlike states tell unlike numbers. -/
theorem next_eq {a b : Int} (ha : 0 ≤ a ∧ a < 2 ^ 64) (hb : 0 ≤ b ∧ b < 2 ^ 64) : (stir (adv a 1) == stir (adv b 1)) = (a == b) := by
  rw [Bool.eq_iff_iff]
  simp only [beq_iff_eq]
  exact ⟨fun h => adv_inj ha hb (stir_inj (adv_range _ _) (adv_range _ _) h), fun h => by rw [h]⟩
end Go.Proofs.Ytcocliilapeelaa
