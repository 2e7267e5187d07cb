/- Two words by one: math/bits.Div64, Rem64; products modulo. -/
import Derived.Test.YtijfmaepoamkgaaJa
import Derived.Test.YtijfmaepoamkgaaEd
import Derived.Lib.ItoaNum
import Derived.BigQuiet
namespace Go.Proofs.Ytijfmaepoamkgaa.Fo
open Go.ChangeShapes Go.WideShapes Go.ChangeAt Go.RowKit

theorem len_facts {y : Int} (h1 : 1 ≤ y) (h2 : y ≤ 1099511627776) : ∃ s : Nat, (64 : Int) - (Lib.bitLen y.toNat : Int) = (s : Int) ∧ 23 ≤ s ∧ s ≤ 63 ∧ 9223372036854775808 ≤ y * 2 ^ s ∧ y * 2 ^ s ≤ 18446744073709551615 := by
  obtain ⟨b1, b2, b3⟩ := Lib.bitLenAux_bounds 64 y.toNat (by omega) (by omega)
  have b4 := Lib.bitLen_le y.toNat 41 (by omega) (by omega)
  unfold Lib.bitLen at b4 ⊢
  generalize Lib.bitLenAux 64 y.toNat = L at *
  obtain ⟨n, rfl⟩ := Int.eq_ofNat_of_zero_le (show 0 ≤ y by omega)
  refine ⟨64 - L, by omega, by omega, by omega, ?_⟩
  rw [Int.toNat_natCast] at b2 b3
  have e1 : 2 ^ (L - 1) * 2 ^ (64 - L) = 9223372036854775808 := by rw [← Nat.pow_add, show L - 1 + (64 - L) = 63 by omega]
  have e2 : 2 ^ L * 2 ^ (64 - L) = 18446744073709551616 := by rw [← Nat.pow_add, show L + (64 - L) = 64 by omega]
  have m1 := Nat.mul_le_mul_right (2 ^ (64 - L)) b2
  have m2 := Nat.mul_lt_mul_of_pos_right b3 (Nat.two_pow_pos (64 - L))
  have c : ((n : Int) * 2 ^ (64 - L)) = ((n * 2 ^ (64 - L) : Nat) : Int) := by simp
  rw [c]
  omega
/-- What the words are, turned up by s places. -/
theorem turned_up {hi lo y : Int} {s : Nat} (hs : s ≤ 63) (hs1 : 1 ≤ s) (h0 : 0 ≤ hi) (h1 : hi < y) (l0 : 0 ≤ lo) (l1 : lo ≤ 18446744073709551615) (hy : y * 2 ^ s ≤ 18446744073709551615) :
    ∃ U v, hi * 2 ^ s ≤ 18446744073709551615 ∧ 0 ≤ hi * 2 ^ s ∧ bits .or .u64 (hi * 2 ^ s) (lo / 2 ^ (64 - s)) = U ∧ 0 ≤ U ∧ U < y * 2 ^ s ∧ IntKind.u64.wrap (lo * 2 ^ s) = v ∧ 0 ≤ v ∧ v ≤ 18446744073709551615 ∧ U * 18446744073709551616 + v = (hi * 18446744073709551616 + lo) * 2 ^ s ∧ 0 ≤ lo / 2 ^ (64 - s) := by
  have hST : (2 : Int) ^ s * 2 ^ (64 - s) = 18446744073709551616 := by rw [← Int.pow_add, show s + (64 - s) = 64 by omega]; rfl
  have hS : (0 : Int) < 2 ^ s := Int.pow_pos (by omega)
  have hT : (0 : Int) < 2 ^ (64 - s) := Int.pow_pos (by omega)
  have q0 : 0 ≤ lo / 2 ^ (64 - s) := Int.ediv_nonneg l0 (by omega)
  have q1 : lo / 2 ^ (64 - s) < 2 ^ s := Int.ediv_lt_of_lt_mul hT (by omega)
  have e := Int.mul_ediv_add_emod lo (2 ^ (64 - s))
  have r0 := Int.emod_nonneg lo (show (2 : Int) ^ (64 - s) ≠ 0 by omega)
  have r1 := Int.emod_lt_of_pos lo hT
  have hi1 : (hi + 1) * 2 ^ s ≤ y * 2 ^ s := Int.mul_le_mul_of_nonneg_right (by omega) (by omega)
  have hi0 : 0 ≤ hi * 2 ^ s := Int.mul_nonneg h0 (by omega)
  have hor := or_apart (k := s) h0 q0 q1 (by grind)
  generalize lo / 2 ^ (64 - s) = l at *
  generalize lo % 2 ^ (64 - s) = r at *
  have hw : IntKind.u64.wrap (lo * 2 ^ s) = r * 2 ^ s := by
    rw [IntKind.wrap_u64]
    have : lo * 2 ^ s = r * 2 ^ s + 18446744073709551616 * l := by rw [← hST, ← e]; grind
    rw [this, Int.add_mul_emod_self_left]
    apply Int.emod_eq_of_lt (Int.mul_nonneg r0 (by omega))
    have := Int.mul_lt_mul_of_pos_right r1 hS
    rw [Int.mul_comm (2 ^ (64 - s)), hST] at this
    exact this
  have hr : 0 ≤ r * 2 ^ s ∧ r * 2 ^ s ≤ 18446744073709551615 := by
    constructor
    · exact Int.mul_nonneg r0 (by omega)
    · have := Int.mul_lt_mul_of_pos_right r1 hS
      rw [Int.mul_comm (2 ^ (64 - s)), hST] at this
      omega
  refine ⟨hi * 2 ^ s + l, r * 2 ^ s, by grind, hi0, hor, by omega, by grind, hw, hr.1, hr.2, ?_, q0⟩
  rw [← hST]
  grind
theorem back_down {N y R : Int} {s : Nat} (h : R = N * 2 ^ s % (y * 2 ^ s)) : R / 2 ^ s = N % y := by
  have hS : (0 : Int) < 2 ^ s := Int.pow_pos (by omega)
  rw [h, Int.mul_comm N, Int.mul_comm y, Int.mul_emod_mul_of_pos _ _ hS, Int.mul_ediv_cancel_left _ (by omega)]
/-- What the second half starts from. -/
theorem half_next {U u1 u0 d1 d0 D Q : Int} (hK : Kd U u1 d1 d0) (hD : D = d1 * 4294967296 + d0) (hQ : Q = (U * 4294967296 + u1) / D) (hu0 : 0 ≤ u0) (hu1 : u0 ≤ 4294967295) (hD2 : D ≤ 18446744073709551615) :
    ∃ A1 A2 A3 R q p, IntKind.u64.wrap (U * 4294967296) = A1 ∧ 0 ≤ A1 ∧ A1 ≤ 18446744073709551615 ∧ IntKind.u64.wrap (A1 + u1) = A2 ∧ 0 ≤ A2 ∧ A2 ≤ 18446744073709551615 ∧ IntKind.u64.wrap (Q * D) = A3 ∧ 0 ≤ A3 ∧ A3 ≤ 18446744073709551615 ∧ IntKind.u64.wrap (A2 - A3) = R ∧ R = (U * 4294967296 + u1) % D ∧ 0 ≤ R ∧ R ≤ 18446744073709551615 ∧ Kd R u0 d1 d0 ∧ R / d1 = q ∧ q * d1 = p ∧ 0 ≤ q ∧ 0 ≤ p ∧ p ≤ R ∧ R - p < d1 ∧ Hid (Kn R u0 d1 d0 q (R - p)) := by
  obtain ⟨a1, a2, a3, a4, a5, a6, a7, a8⟩ := hK
  have m0 := Int.emod_nonneg (U * 4294967296 + u1) (show D ≠ 0 by omega)
  have m1 := Int.emod_lt_of_pos (U * 4294967296 + u1) (show 0 < D by omega)
  have hl := left_word (U := U) (u := u1) (D := D) (q := Q) (by omega) hD2 hQ
  have kd : Kd ((U * 4294967296 + u1) % D) u0 d1 d0 := ⟨a1, a2, a3, a4, hu0, hu1, m0, by omega⟩
  obtain ⟨ks, kl⟩ := Kn.start kd
  have hq0 : 0 ≤ (U * 4294967296 + u1) % D / d1 := Int.ediv_nonneg m0 (by omega)
  refine ⟨IntKind.u64.wrap (U * 4294967296), IntKind.u64.wrap (IntKind.u64.wrap (U * 4294967296) + u1), IntKind.u64.wrap (Q * D), (U * 4294967296 + u1) % D, (U * 4294967296 + u1) % D / d1, (U * 4294967296 + u1) % D / d1 * d1, rfl, ?_, ?_, rfl, ?_, ?_, rfl, ?_, ?_, ?_, rfl, m0, by omega, kd, rfl, rfl, hq0, Int.mul_nonneg hq0 (by omega), by have := ks.r0; omega, kl, ks⟩
  · rw [IntKind.wrap_u64]; omega
  · rw [IntKind.wrap_u64]; omega
  · rw [IntKind.wrap_u64]; omega
  · rw [IntKind.wrap_u64]; omega
  · rw [IntKind.wrap_u64]; omega
  · rw [IntKind.wrap_u64]; omega
  · simp only [IntKind.wrap_u64]
    exact hl
/-- What is left at last. -/
theorem half_last {U u1 u0 d1 d0 D R Q v N y : Int} {s : Nat} (hK : Kd R u0 d1 d0) (hD : D = d1 * 4294967296 + d0) (hR : R = (U * 4294967296 + u1) % D) (hQ : Q = (R * 4294967296 + u0) / (d1 * 4294967296 + d0)) (hv1 : v / 4294967296 = u1) (hv0 : v % 4294967296 = u0) (hN : U * 18446744073709551616 + v = N * 2 ^ s) (hB : ∀ R, R = N * 2 ^ s % D → R / 2 ^ s = N % y) (hD2 : D ≤ 18446744073709551615) :
    ∃ A1 A2 A3 T, IntKind.u64.wrap (R * 4294967296) = A1 ∧ IntKind.u64.wrap (A1 + u0) = A2 ∧ IntKind.u64.wrap (Q * D) = A3 ∧ IntKind.u64.wrap (A2 - A3) = T ∧ T / 2 ^ s = N % y := by
  obtain ⟨a1, a2, a3, a4, a5, a6, a7, a8⟩ := hK
  rw [← hD] at hQ
  have hl := left_word (U := R) (u := u0) (D := D) (q := Q) (by omega) hD2 hQ
  refine ⟨_, _, _, _, rfl, rfl, rfl, rfl, hB _ ?_⟩
  simp only [IntKind.wrap_u64]
  rw [hl, ← hN, hR]
  have e1 : U * 18446744073709551616 + v = (U * 4294967296 + u1) * 4294967296 + u0 := by omega
  rw [e1]
  generalize U * 4294967296 + u1 = X
  rw [Int.add_emod, Int.mul_emod, Int.emod_emod, ← Int.mul_emod, ← Int.add_emod]
/-- The test's ways. -/
theorem kn_ways {U u1 d1 d0 q r P : Int} (hK : Kd U u1 d1 d0) (HQ : Kn U u1 d1 d0 q r) (q0 : 0 ≤ q) (hP : q * d0 = P) :
    (4294967296 ≤ q ∧ 1 ≤ q ∧ Hid (Kn U u1 d1 d0 (q - 1) (r + d1))) ∨ (q < 4294967296 ∧ 4294967296 * r + u1 < P ∧ (0 ≤ P ∧ P ≤ 18446744065119617025) ∧ 1 ≤ q ∧ True ∧ Hid (Kn U u1 d1 d0 (q - 1) (r + d1))) ∨ (q < 4294967296 ∧ P ≤ 4294967296 * r + u1 ∧ (0 ≤ P ∧ P ≤ 18446744065119617025) ∧ True ∧ Hid (q = (U * 4294967296 + u1) / (d1 * 4294967296 + d0))) := by
  have P0 : 0 ≤ P := by rw [← hP]; exact Int.mul_nonneg q0 hK.v0a
  have P1 : q ≤ 4294967295 → P ≤ 18446744065119617025 := by
    intro h
    have := Int.mul_le_mul h hK.v0b hK.v0a (by omega)
    omega
  have HT : 4294967296 ≤ q ∨ r * 4294967296 + u1 < q * d0 → 1 ≤ q ∧ Kn U u1 d1 d0 (q - 1) (r + d1) := fun h => by
    have k := HQ.less hK h
    exact ⟨by have := k.q0; omega, k⟩
  by_cases hB : 4294967296 ≤ q
  · have := HT (Or.inl hB)
    exact Or.inl ⟨hB, this.1, this.2⟩
  · by_cases hT : 4294967296 * r + u1 < P
    · have := HT (Or.inr (by omega))
      exact Or.inr (Or.inl ⟨by omega, hT, ⟨P0, P1 (by omega)⟩, this.1, trivial, this.2⟩)
    · exact Or.inr (Or.inr ⟨by omega, by omega, ⟨P0, P1 (by omega)⟩, trivial, HQ.fits hK (by omega)⟩)
end Go.Proofs.Ytijfmaepoamkgaa.Fo
