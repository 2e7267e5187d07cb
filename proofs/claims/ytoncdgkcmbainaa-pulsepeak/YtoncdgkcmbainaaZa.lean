/- Sums of signs, in floats: whole numbers, without rounding. -/
import Derived.Test.YtoncdgkcmbainaaT
import Derived.Test.YtoncdgkcmbainaaO
namespace Go.Proofs.Ytoncdgkcmbainaa
open Go.ChangeShapes Go.WideShapes Go.ChangeAt Go.RowKit Go.Fl Ieee

/-- The float of a whole number. -/
def B (z : Int) : Nat := floatOfInt .f64 z
/-- Facts on the whole numbers from -600 to 600. -/
def okB (z : Int) : Bool := !isN (B z) && (floor (B z) == B z) && (bin .add (some (B z)) (some 4607182418800017408) == some (B (z + 1))) && (bin .add (some (B z)) (some 13830554455654793216) == some (B (z - 1))) && (abs (B z) == B z.natAbs) && decide (B z.natAbs < 2 ^ 63) && decide (B z.natAbs ≤ B (z.natAbs + 1))
theorem okB_all : ∀ k : Nat, k < 1201 → okB ((k : Int) - 600) = true := by decide +kernel
structure OkB (z : Int) : Prop where
  num : isN (B z) = false
  whole : floor (B z) = B z
  up : bin .add (some (B z)) (some 4607182418800017408) = some (B (z + 1))
  down : bin .add (some (B z)) (some 13830554455654793216) = some (B (z - 1))
  abs : Go.Fl.abs (B z) = B z.natAbs
  low : B z.natAbs < 2 ^ 63
  rise : B z.natAbs ≤ B (z.natAbs + 1)
theorem okB_at {z : Int} (h1 : -600 ≤ z) (h2 : z ≤ 600) : OkB z := by
  have h := okB_all (z + 600).toNat (by omega)
  rw [show (((z + 600).toNat : Nat) : Int) - 600 = z by omega] at h
  simp only [okB, Bool.and_eq_true, Bool.not_eq_true', beq_iff_eq, decide_eq_true_eq] at h
  exact ⟨h.1.1.1.1.1.1, h.1.1.1.1.1.2, h.1.1.1.1.2, h.1.1.1.2, h.1.1.2, h.1.2, h.2⟩
theorem B_mono {a : Nat} : ∀ {b : Nat}, a ≤ b → b ≤ 600 → B a ≤ B b
  | 0, h, _ => by obtain rfl : a = 0 := by omega
                  exact Nat.le_refl _
  | b + 1, h, hb => by
    rcases Nat.lt_or_ge b a with h1 | h1
    · obtain rfl : a = b + 1 := by omega
      exact Nat.le_refl _
    · have := (okB_at (z := b) (by omega) (by omega)).rise
      rw [Int.natAbs_natCast] at this
      have h3 := B_mono (a := a) h1 (by omega)
      exact Nat.le_trans h3 (by simpa using this)
/-- A sign's sample. -/
def sgnP (s : Bool) : Nat × Nat := if s then (4607182418800017408, 0) else (13830554455654793216, 0)
def sg (s : Bool) : Int := if s then 1 else -1
theorem prodR (s t : Bool) : mulR (ab (sgnP s).1) (ab (sgnP s).2) (ab (sgnP t).1) ((ab (sgnP t).2).map neg) = some (B (sg s * sg t)) := by revert s t; decide +kernel
theorem prodI (s t : Bool) : mulI (ab (sgnP s).1) (ab (sgnP s).2) (ab (sgnP t).1) ((ab (sgnP t).2).map neg) = some 0 ∨ mulI (ab (sgnP s).1) (ab (sgnP s).2) (ab (sgnP t).1) ((ab (sgnP t).2).map neg) = some 9223372036854775808 := by revert s t; decide +kernel
theorem noughts : bin .add (some 0) (some 0) = some 0 ∧ bin .add (some 0) (some 9223372036854775808) = some 0 ∧ bin .add (some 9223372036854775808) (some 0) = some 0 ∧ bin .add (some 9223372036854775808) (some 9223372036854775808) = some 9223372036854775808 := by decide +kernel
/-- The sum as whole numbers. -/
def sumZ (S T : Nat → Bool) : Nat → Int
  | 0 => 0
  | n + 1 => sumZ S T n + sg (S n) * sg (T n)
theorem sg_mul (s t : Bool) : sg s * sg t = 1 ∨ sg s * sg t = -1 := by revert s t; decide
theorem sumZ_bound (S T : Nat → Bool) : ∀ n : Nat, -(n : Int) ≤ sumZ S T n ∧ sumZ S T n ≤ n
  | 0 => by simp [sumZ]
  | n + 1 => by
    have := sumZ_bound S T n
    rcases sg_mul (S n) (T n) with h | h <;> simp only [sumZ, h] <;> omega
theorem sumR (S T : Nat → Bool) : ∀ n, 1 ≤ n → n ≤ 600 → sumN (dotR (fun i => sgnP (S i)) fun i => sgnP (T i)) n = some (B (sumZ S T n))
  | 0, h, _ => by omega
  | 1, _, _ => by
    show dotR _ _ 0 = _
    simp only [dotR, prodR, sumZ]
    rw [Int.zero_add]
  | n + 2, _, h => by
    rw [sumN, sumR S T (n + 1) (by omega) (by omega)]
    have hb := sumZ_bound S T (n + 1)
    have ok := okB_at (z := sumZ S T (n + 1)) (by omega) (by omega)
    simp only [dotR, prodR]
    have e : sumZ S T (n + 2) = sumZ S T (n + 1) + sg (S (n + 1)) * sg (T (n + 1)) := rfl
    rw [e]
    rcases sg_mul (S (n + 1)) (T (n + 1)) with h | h
    · rw [h]; exact ok.up
    · rw [h]
      exact ok.down
theorem sumI (S T : Nat → Bool) : ∀ n, 1 ≤ n → sumN (dotI (fun i => sgnP (S i)) fun i => sgnP (T i)) n = some 0 ∨ sumN (dotI (fun i => sgnP (S i)) fun i => sgnP (T i)) n = some 9223372036854775808
  | 0, h => by omega
  | 1, _ => prodI (S 0) (T 0)
  | n + 2, _ => by
    rw [sumN]
    obtain ⟨n1, n2, n3, n4⟩ := noughts
    have hp := prodI (S (n + 1)) (T (n + 1))
    rcases sumI S T (n + 1) (by omega) with h | h <;> rcases hp with h' | h' <;> rw [h] <;> simp only [dotI, h', n1, n2, n3, n4] <;> simp
/-- What the statement asks of a number of Own's. -/
structure Fine (n x i : Nat) : Prop where
  num : isN x = false
  whole : floor x = x
  nought : eqF (ab i) (ab 0) = true
  small : gtF (ab (Go.Fl.abs x)) (ab (floatOfInt .f64 n)) = false
theorem fine_of {n : Nat} {z : Int} {i : Nat} (hn : n ≤ 600) (h1 : -(n : Int) ≤ z) (h2 : z ≤ n) (hi : i = 0 ∨ i = 9223372036854775808) : Fine n (B z) i := by
  have ok := okB_at (z := z) (by omega) (by omega)
  have okn := okB_at (z := n) (by omega) (by omega)
  have oka := okB_at (z := z.natAbs) (by omega) (by omega)
  refine ⟨ok.num, ok.whole, ?_, ?_⟩
  · rcases hi with rfl | rfl <;> decide +kernel
  · rw [ok.abs]
    unfold gtF
    rw [show floatOfInt .f64 (n : Int) = B n from rfl, ← order_ab]
    show (double.order _ _ == _) = false
    rw [order_lin oka.num okn.num, lin_low ok.low, lin_low (by have := okn.low; rwa [Int.natAbs_natCast] at this)]
    have := B_mono (a := z.natAbs) (b := n) (by omega) hn
    simp only [beq_eq_false_iff_ne, ne_eq, Option.some.injEq, Int.compare_eq_ite_lt]
    split
    · simp
    · split <;> simp; omega
theorem own_fine {S : Nat → Bool} {n j : Nat} (h1 : 1 ≤ n) (h2 : n ≤ 600) (hj : j < 2 * n - 1) : ∃ x i, ownF (fun k => sgnP (S k)) n j = (some x, some i) ∧ Fine n x i := by
  unfold ownF
  split
  · have hm : 1 ≤ n - (n - 1 - j) := by omega
    have r := sumR S (fun k => S (k + (n - 1 - j))) (n - (n - 1 - j)) hm (by omega)
    have b := sumZ_bound S (fun k => S (k + (n - 1 - j))) (n - (n - 1 - j))
    rcases sumI S (fun k => S (k + (n - 1 - j))) (n - (n - 1 - j)) hm with h | h
    · exact ⟨_, _, by rw [r, h], fine_of h2 (by omega) (by omega) (Or.inl rfl)⟩
    · exact ⟨_, _, by rw [r, h], fine_of h2 (by omega) (by omega) (Or.inr rfl)⟩
  · have hm : 1 ≤ n - (j - (n - 1)) := by omega
    have r := sumR (fun k => S (k + (j - (n - 1)))) S (n - (j - (n - 1))) hm (by omega)
    have b := sumZ_bound (fun k => S (k + (j - (n - 1)))) S (n - (j - (n - 1)))
    rcases sumI (fun k => S (k + (j - (n - 1)))) S (n - (j - (n - 1))) hm with h | h
    · exact ⟨_, _, by rw [r, h], fine_of h2 (by omega) (by omega) (Or.inl rfl)⟩
    · exact ⟨_, _, by rw [r, h], fine_of h2 (by omega) (by omega) (Or.inr rfl)⟩
theorem sumZ_self (S : Nat → Bool) : ∀ n : Nat, sumZ S S n = n
  | 0 => rfl
  | n + 1 => by
    have e : sg (S n) * sg (S n) = 1 := by cases S n <;> rfl
    simp only [sumZ, sumZ_self S n, e]; omega
theorem own_mid {S : Nat → Bool} {n : Nat} (h1 : 1 ≤ n) (h2 : n ≤ 600) : ∃ i, ownF (fun k => sgnP (S k)) n (n - 1) = (some (floatOfInt .f64 n), some i) ∧ eqF (ab i) (ab 0) = true := by
  unfold ownF
  rw [if_neg (by omega), Nat.sub_self]
  simp only [Nat.add_zero, Nat.sub_zero]
  rw [sumR S S n h1 h2, sumZ_self]
  rcases sumI S S n h1 with h | h
  · exact ⟨0, by rw [h]; rfl, by decide +kernel⟩
  · exact ⟨9223372036854775808, by rw [h]; rfl, by decide +kernel⟩
end Go.Proofs.Ytoncdgkcmbainaa
