/- Two words by one: the steps of the division by halves. No program. -/
import Derived.KernelRfl
namespace Go.Proofs.Ytijfmaepoamkgab

/-- A guess q of (U B + u) / D, D = v1 B + v0; what is left by v1 is r. -/
structure Kn (U u v1 v0 q r : Int) : Prop where
  eq : q * v1 + r = U
  r0 : 0 ≤ r
  q0 : 0 ≤ q
  over : (U * 4294967296 + u) / (v1 * 4294967296 + v0) ≤ q
/-- What fits: the divisor's halves, what is divided. -/
structure Kd (U u v1 v0 : Int) : Prop where
  v1a : 2147483648 ≤ v1
  v1b : v1 ≤ 4294967295
  v0a : 0 ≤ v0
  v0b : v0 ≤ 4294967295
  u0 : 0 ≤ u
  u1 : u ≤ 4294967295
  U0 : 0 ≤ U
  U1 : U < v1 * 4294967296 + v0
theorem Kd.quo {U u v1 v0 : Int} (h : Kd U u v1 v0) : (U * 4294967296 + u) / (v1 * 4294967296 + v0) ≤ 4294967295 ∧ 0 ≤ (U * 4294967296 + u) / (v1 * 4294967296 + v0) := by
  obtain ⟨a1, a2, a3, a4, a5, a6, a7, a8⟩ := h
  constructor
  · have : (U * 4294967296 + u) / (v1 * 4294967296 + v0) < 4294967296 := by
      apply Int.ediv_lt_of_lt_mul (by omega)
      omega
    omega
  · exact Int.ediv_nonneg (by omega) (by omega)
theorem Kn.start {U u v1 v0 : Int} (h : Kd U u v1 v0) : Kn U u v1 v0 (U / v1) (U - U / v1 * v1) ∧ U - U / v1 * v1 < v1 := by
  obtain ⟨a1, a2, a3, a4, a5, a6, a7, a8⟩ := h
  have e := Int.mul_ediv_add_emod U v1
  have m0 := Int.emod_nonneg U (show v1 ≠ 0 by omega)
  have m1 := Int.emod_lt_of_pos U (show 0 < v1 by omega)
  have q0 : 0 ≤ U / v1 := Int.ediv_nonneg a7 (by omega)
  have eq : U - U / v1 * v1 = U % v1 := by rw [Int.mul_comm]; omega
  refine ⟨⟨by omega, by omega, q0, ?_⟩, by omega⟩
  rw [eq] at *
  generalize U / v1 = q at *
  generalize U % v1 = r at *
  have : (U * 4294967296 + u) / (v1 * 4294967296 + v0) < q + 1 := by
    apply Int.ediv_lt_of_lt_mul (by omega)
    have h1 : U ≤ q * v1 + (v1 - 1) := by rw [Int.mul_comm]; omega
    have h2 : 0 ≤ (q + 1) * v0 := Int.mul_nonneg (by omega) a3
    have h3 : (q + 1) * (v1 * 4294967296 + v0) = (q * v1) * 4294967296 + v1 * 4294967296 + (q + 1) * v0 := by grind
    omega
  omega
/-- The guess is told to be too great: one less. -/
theorem Kn.less {U u v1 v0 q r : Int} (h : Kd U u v1 v0) (k : Kn U u v1 v0 q r) (ht : 4294967296 ≤ q ∨ r * 4294967296 + u < q * v0) : Kn U u v1 v0 (q - 1) (r + v1) := by
  have hq := h.quo
  obtain ⟨a1, a2, a3, a4, a5, a6, a7, a8⟩ := h
  obtain ⟨e, r0, q0, ov⟩ := k
  have hlt : (U * 4294967296 + u) / (v1 * 4294967296 + v0) < q := by
    rcases ht with ht | ht
    · omega
    · apply Int.ediv_lt_of_lt_mul (by omega)
      have h3 : q * (v1 * 4294967296 + v0) = (q * v1) * 4294967296 + q * v0 := by grind
      omega
  exact ⟨by grind, by omega, by omega, by omega⟩
/-- The guess fits. -/
theorem Kn.fits {U u v1 v0 q r : Int} (h : Kd U u v1 v0) (k : Kn U u v1 v0 q r) (ht : q * v0 ≤ r * 4294967296 + u) : q = (U * 4294967296 + u) / (v1 * 4294967296 + v0) := by
  obtain ⟨a1, a2, a3, a4, a5, a6, a7, a8⟩ := h
  obtain ⟨e, r0, q0, ov⟩ := k
  have : q ≤ (U * 4294967296 + u) / (v1 * 4294967296 + v0) := by
    apply Int.le_ediv_of_mul_le (by omega)
    have h3 : q * (v1 * 4294967296 + v0) = (q * v1) * 4294967296 + q * v0 := by grind
    omega
  omega
theorem Kn.out {U u v1 v0 q r : Int} (h : Kd U u v1 v0) (k : Kn U u v1 v0 q r) (ht : 4294967296 ≤ r) : q = (U * 4294967296 + u) / (v1 * 4294967296 + v0) := by
  apply k.fits h
  obtain ⟨a1, a2, a3, a4, a5, a6, a7, a8⟩ := h
  obtain ⟨e, r0, q0, ov⟩ := k
  have hq : q ≤ 4294967295 := by
    rcases Int.lt_or_le 4294967295 q with hh | hh
    · have := Int.mul_le_mul_of_nonneg_right (show 4294967296 ≤ q by omega) (show 0 ≤ v1 by omega)
      omega
    · exact hh
  have := Int.mul_le_mul hq a4 a3 (by omega)
  omega
theorem Kn.small {U u v1 v0 q r : Int} (h : Kd U u v1 v0) (k : Kn U u v1 v0 q r) : q ≤ 8589934591 := by
  obtain ⟨a1, a2, a3, a4, a5, a6, a7, a8⟩ := h
  obtain ⟨e, r0, q0, ov⟩ := k
  rcases Int.lt_or_le 8589934591 q with hh | hh
  · have := Int.mul_le_mul_of_nonneg_right (show 8589934592 ≤ q by omega) (show 0 ≤ v1 by omega)
    omega
  · exact hh
/-- What is left, reckoned in one word. -/
theorem left_word {U u D q : Int} (hD : 0 < D) (hD2 : D ≤ 18446744073709551615) (hq : q = (U * 4294967296 + u) / D) : ((((U * 4294967296) % 18446744073709551616 + u) % 18446744073709551616 - q * D % 18446744073709551616) % 18446744073709551616) = (U * 4294967296 + u) % D := by
  have e := Int.mul_ediv_add_emod (U * 4294967296 + u) D
  have m0 := Int.emod_nonneg (U * 4294967296 + u) (show D ≠ 0 by omega)
  have m1 := Int.emod_lt_of_pos (U * 4294967296 + u) hD
  rw [← hq] at e
  have e2 : U * 4294967296 + u - q * D = (U * 4294967296 + u) % D := by rw [Int.mul_comm q D]; omega
  generalize (U * 4294967296 + u) % D = R at *
  generalize q * D = P at *
  generalize U * 4294967296 = V at *
  omega
end Go.Proofs.Ytijfmaepoamkgab
