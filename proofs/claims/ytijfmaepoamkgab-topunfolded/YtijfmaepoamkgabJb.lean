/- Two words by one: math/bits.Div64, Rem64; products modulo. -/
import Derived.Test.YtijfmaepoamkgabJa
import Derived.Test.YtijfmaepoamkgabEd
import Derived.Lib.ItoaNum
import Derived.BigQuiet
namespace Go.Proofs.Ytijfmaepoamkgab.Fo
open Go.ChangeShapes Go.WideShapes Go.ChangeAt Go.RowKit

theorem len_facts {y : Int} (h1 : 1 ≤ y) (h2 : y ≤ 1099511627776) : ∃ s : Nat, (64 : Int) - (Lib.bitLen y.toNat : Int) = (s : Int) ∧ 23 ≤ s ∧ s ≤ 63 ∧ 9223372036854775808 ≤ y * 2 ^ s ∧ y * 2 ^ s ≤ 18446744073709551615 := by
  obtain ⟨b1, b2, b3⟩ := Lib.bitLenAux_bounds 64 y.toNat (by omega) (by omega)
  have b4 := Lib.bitLen_le y.toNat 41 (by omega) (by omega)
  unfold Lib.bitLen at b4 ⊢
  generalize Lib.bitLenAux 64 y.toNat = L at *
  obtain ⟨n, rfl⟩ := Int.eq_ofNat_of_zero_le (show 0 ≤ y by omega)
  refine ⟨64 - L, by omega, by omega, by omega, ?_⟩
  rw [Int.toNat_natCast] at b2 b3
  have e1 : 2 ^ (L - 1) * 2 ^ (64 - L) = 9223372036854775808 := by rw [← Nat.pow_add, show L - 1 + (64 - L) = 63 by omega]
  have e2 : 2 ^ L * 2 ^ (64 - L) = 18446744073709551616 := by rw [← Nat.pow_add, show L + (64 - L) = 64 by omega]
  have m1 := Nat.mul_le_mul_right (2 ^ (64 - L)) b2
  have m2 := Nat.mul_lt_mul_of_pos_right b3 (Nat.two_pow_pos (64 - L))
  have c : ((n : Int) * 2 ^ (64 - L)) = ((n * 2 ^ (64 - L) : Nat) : Int) := by simp
  rw [c]
  omega
/-- What the words are, turned up by s places. -/
theorem turned_up {hi lo y : Int} {s : Nat} (hs : s ≤ 63) (hs1 : 1 ≤ s) (h0 : 0 ≤ hi) (h1 : hi < y) (l0 : 0 ≤ lo) (l1 : lo ≤ 18446744073709551615) (hy : y * 2 ^ s ≤ 18446744073709551615) :
    ∃ U v, hi * 2 ^ s ≤ 18446744073709551615 ∧ 0 ≤ hi * 2 ^ s ∧ bits .or .u64 (hi * 2 ^ s) (lo / 2 ^ (64 - s)) = U ∧ 0 ≤ U ∧ U < y * 2 ^ s ∧ IntKind.u64.wrap (lo * 2 ^ s) = v ∧ 0 ≤ v ∧ v ≤ 18446744073709551615 ∧ U * 18446744073709551616 + v = (hi * 18446744073709551616 + lo) * 2 ^ s ∧ 0 ≤ lo / 2 ^ (64 - s) := by
  have hST : (2 : Int) ^ s * 2 ^ (64 - s) = 18446744073709551616 := by rw [← Int.pow_add, show s + (64 - s) = 64 by omega]; rfl
  have hS : (0 : Int) < 2 ^ s := Int.pow_pos (by omega)
  have hT : (0 : Int) < 2 ^ (64 - s) := Int.pow_pos (by omega)
  have q0 : 0 ≤ lo / 2 ^ (64 - s) := Int.ediv_nonneg l0 (by omega)
  have q1 : lo / 2 ^ (64 - s) < 2 ^ s := Int.ediv_lt_of_lt_mul hT (by omega)
  have e := Int.mul_ediv_add_emod lo (2 ^ (64 - s))
  have r0 := Int.emod_nonneg lo (show (2 : Int) ^ (64 - s) ≠ 0 by omega)
  have r1 := Int.emod_lt_of_pos lo hT
  have hi1 : (hi + 1) * 2 ^ s ≤ y * 2 ^ s := Int.mul_le_mul_of_nonneg_right (by omega) (by omega)
  have hi0 : 0 ≤ hi * 2 ^ s := Int.mul_nonneg h0 (by omega)
  have hor := or_apart (k := s) h0 q0 q1 (by grind)
  generalize lo / 2 ^ (64 - s) = l at *
  generalize lo % 2 ^ (64 - s) = r at *
  have hw : IntKind.u64.wrap (lo * 2 ^ s) = r * 2 ^ s := by
    rw [IntKind.wrap_u64]
    have : lo * 2 ^ s = r * 2 ^ s + 18446744073709551616 * l := by rw [← hST, ← e]; grind
    rw [this, Int.add_mul_emod_self_left]
    apply Int.emod_eq_of_lt (Int.mul_nonneg r0 (by omega))
    have := Int.mul_lt_mul_of_pos_right r1 hS
    rw [Int.mul_comm (2 ^ (64 - s)), hST] at this
    exact this
  have hr : 0 ≤ r * 2 ^ s ∧ r * 2 ^ s ≤ 18446744073709551615 := by
    constructor
    · exact Int.mul_nonneg r0 (by omega)
    · have := Int.mul_lt_mul_of_pos_right r1 hS
      rw [Int.mul_comm (2 ^ (64 - s)), hST] at this
      omega
  refine ⟨hi * 2 ^ s + l, r * 2 ^ s, by grind, hi0, hor, by omega, by grind, hw, hr.1, hr.2, ?_, q0⟩
  rw [← hST]
  grind
theorem back_down {N y R : Int} {s : Nat} (h : R = N * 2 ^ s % (y * 2 ^ s)) : R / 2 ^ s = N % y := by
  have hS : (0 : Int) < 2 ^ s := Int.pow_pos (by omega)
  rw [h, Int.mul_comm N, Int.mul_comm y, Int.mul_emod_mul_of_pos _ _ hS, Int.mul_ediv_cancel_left _ (by omega)]
/-- What the second half starts from. -/
theorem half_next {U u1 u0 d1 d0 D Q : Int} (hK : Kd U u1 d1 d0) (hD : D = d1 * 4294967296 + d0) (hQ : Q = (U * 4294967296 + u1) / D) (hu0 : 0 ≤ u0) (hu1 : u0 ≤ 4294967295) (hD2 : D ≤ 18446744073709551615) :
    ∃ A1 A2 A3 R q p, IntKind.u64.wrap (U * 4294967296) = A1 ∧ 0 ≤ A1 ∧ A1 ≤ 18446744073709551615 ∧ IntKind.u64.wrap (A1 + u1) = A2 ∧ 0 ≤ A2 ∧ A2 ≤ 18446744073709551615 ∧ IntKind.u64.wrap (Q * D) = A3 ∧ 0 ≤ A3 ∧ A3 ≤ 18446744073709551615 ∧ IntKind.u64.wrap (A2 - A3) = R ∧ R = (U * 4294967296 + u1) % D ∧ 0 ≤ R ∧ R ≤ 18446744073709551615 ∧ Kd R u0 d1 d0 ∧ R / d1 = q ∧ q * d1 = p ∧ 0 ≤ q ∧ 0 ≤ p ∧ p ≤ R ∧ R - p < d1 ∧ Hid (Kn R u0 d1 d0 q (R - p)) := by
  obtain ⟨a1, a2, a3, a4, a5, a6, a7, a8⟩ := hK
  have m0 := Int.emod_nonneg (U * 4294967296 + u1) (show D ≠ 0 by omega)
  have m1 := Int.emod_lt_of_pos (U * 4294967296 + u1) (show 0 < D by omega)
  have hl := left_word (U := U) (u := u1) (D := D) (q := Q) (by omega) hD2 hQ
  have kd : Kd ((U * 4294967296 + u1) % D) u0 d1 d0 := ⟨a1, a2, a3, a4, hu0, hu1, m0, by omega⟩
  obtain ⟨ks, kl⟩ := Kn.start kd
  have hq0 : 0 ≤ (U * 4294967296 + u1) % D / d1 := Int.ediv_nonneg m0 (by omega)
  refine ⟨IntKind.u64.wrap (U * 4294967296), IntKind.u64.wrap (IntKind.u64.wrap (U * 4294967296) + u1), IntKind.u64.wrap (Q * D), (U * 4294967296 + u1) % D, (U * 4294967296 + u1) % D / d1, (U * 4294967296 + u1) % D / d1 * d1, rfl, ?_, ?_, rfl, ?_, ?_, rfl, ?_, ?_, ?_, rfl, m0, by omega, kd, rfl, rfl, hq0, Int.mul_nonneg hq0 (by omega), by have := ks.r0; omega, kl, ks⟩
  · rw [IntKind.wrap_u64]; omega
  · rw [IntKind.wrap_u64]; omega
  · rw [IntKind.wrap_u64]; omega
  · rw [IntKind.wrap_u64]; omega
  · rw [IntKind.wrap_u64]; omega
  · rw [IntKind.wrap_u64]; omega
  · simp only [IntKind.wrap_u64]
    exact hl
/-- What is left at last. -/
theorem half_last {U u1 u0 d1 d0 D R Q v N y : Int} {s : Nat} (hK : Kd R u0 d1 d0) (hD : D = d1 * 4294967296 + d0) (hR : R = (U * 4294967296 + u1) % D) (hQ : Q = (R * 4294967296 + u0) / (d1 * 4294967296 + d0)) (hv1 : v / 4294967296 = u1) (hv0 : v % 4294967296 = u0) (hN : U * 18446744073709551616 + v = N * 2 ^ s) (hB : ∀ R, R = N * 2 ^ s % D → R / 2 ^ s = N % y) (hD2 : D ≤ 18446744073709551615) :
    ∃ A1 A2 A3 T, IntKind.u64.wrap (R * 4294967296) = A1 ∧ IntKind.u64.wrap (A1 + u0) = A2 ∧ IntKind.u64.wrap (Q * D) = A3 ∧ IntKind.u64.wrap (A2 - A3) = T ∧ T / 2 ^ s = N % y := by
  obtain ⟨a1, a2, a3, a4, a5, a6, a7, a8⟩ := hK
  rw [← hD] at hQ
  have hl := left_word (U := R) (u := u0) (D := D) (q := Q) (by omega) hD2 hQ
  refine ⟨_, _, _, _, rfl, rfl, rfl, rfl, hB _ ?_⟩
  simp only [IntKind.wrap_u64]
  rw [hl, ← hN, hR]
  have e1 : U * 18446744073709551616 + v = (U * 4294967296 + u1) * 4294967296 + u0 := by omega
  rw [e1]
  generalize U * 4294967296 + u1 = X
  rw [Int.add_emod, Int.mul_emod, Int.emod_emod, ← Int.mul_emod, ← Int.add_emod]
/-- The test's ways. -/
theorem kn_ways {U u1 d1 d0 q r P : Int} (hK : Kd U u1 d1 d0) (HQ : Kn U u1 d1 d0 q r) (q0 : 0 ≤ q) (hP : q * d0 = P) :
    (4294967296 ≤ q ∧ 1 ≤ q ∧ Hid (Kn U u1 d1 d0 (q - 1) (r + d1))) ∨ (q < 4294967296 ∧ 4294967296 * r + u1 < P ∧ (0 ≤ P ∧ P ≤ 18446744065119617025) ∧ 1 ≤ q ∧ True ∧ Hid (Kn U u1 d1 d0 (q - 1) (r + d1))) ∨ (q < 4294967296 ∧ P ≤ 4294967296 * r + u1 ∧ (0 ≤ P ∧ P ≤ 18446744065119617025) ∧ True ∧ Hid (q = (U * 4294967296 + u1) / (d1 * 4294967296 + d0))) := by
  have P0 : 0 ≤ P := by rw [← hP]; exact Int.mul_nonneg q0 hK.v0a
  have P1 : q ≤ 4294967295 → P ≤ 18446744065119617025 := by
    intro h
    have := Int.mul_le_mul h hK.v0b hK.v0a (by omega)
    omega
  have HT : 4294967296 ≤ q ∨ r * 4294967296 + u1 < q * d0 → 1 ≤ q ∧ Kn U u1 d1 d0 (q - 1) (r + d1) := fun h => by
    have k := HQ.less hK h
    exact ⟨by have := k.q0; omega, k⟩
  by_cases hB : 4294967296 ≤ q
  · have := HT (Or.inl hB)
    exact Or.inl ⟨hB, this.1, this.2⟩
  · by_cases hT : 4294967296 * r + u1 < P
    · have := HT (Or.inr (by omega))
      exact Or.inr (Or.inl ⟨by omega, hT, ⟨P0, P1 (by omega)⟩, this.1, trivial, this.2⟩)
    · exact Or.inr (Or.inr ⟨by omega, by omega, ⟨P0, P1 (by omega)⟩, trivial, HQ.fits hK (by omega)⟩)
set_option maxHeartbeats 4000000 in
theorem t72 (hi lo y : Int) (h0 : 0 ≤ hi) (h1 : hi < y) (hy : y ≤ 1099511627776) (l0 : 0 ≤ lo) (l1 : lo ≤ 18446744073709551615) (w : World) : Calls Try.prog 72 #[.int .u64 hi, .int .u64 lo, .int .u64 y] w fun e w' => (∃ q, e = .returned (.tuple #[.int .u64 q, .int .u64 ((hi * 18446744073709551616 + lo) % y)])) ∧ ∃ n, w' = w.drewN n := by
  by_cases hz : hi = 0
  · subst hz
    go_enter Try.func72, Try.ntmps72
    go_wp2_with fail
    go_quiet (fail)
    all_goals (try go_wp2)
    go_ret2
    exact ⟨⟨lo / y, by rw [show (0 * 18446744073709551616 + lo) = lo by omega]; rfl⟩, _, rfl⟩
  · obtain ⟨s, es, s1, s2, hD1, hD2⟩ := len_facts (show 1 ≤ y by omega) hy
    obtain ⟨U, v, f1, f2, hor, U0, U1, hv, v0, v1, hN, lq⟩ := turned_up s2 (by omega) h0 h1 l0 l1 hD2
    have HB : Hid (∀ R, R = (hi * 18446744073709551616 + lo) * 2 ^ s % (y * 2 ^ s) → R / 2 ^ s = (hi * 18446744073709551616 + lo) % y) := fun R h => back_down h
    have HN : Hid (U * 18446744073709551616 + v = (hi * 18446744073709551616 + lo) * 2 ^ s) := hN
    clear hN
    obtain ⟨D, hD⟩ : ∃ D, y * 2 ^ s = D := ⟨_, rfl⟩
    rw [hD] at hD1 hD2 U1 HB
    obtain ⟨d1, hd1⟩ : ∃ d1, D / 4294967296 = d1 := ⟨_, rfl⟩
    have hd0 := and_low (show 0 ≤ D by omega) (by omega)
    obtain ⟨d0, hd00⟩ : ∃ d0, D % 4294967296 = d0 := ⟨_, rfl⟩
    rw [hd00] at hd0
    obtain ⟨u1, hu1⟩ : ∃ u1, v / 4294967296 = u1 := ⟨_, rfl⟩
    have hu0 := and_low v0 (by omega)
    obtain ⟨u0, hu00⟩ : ∃ u0, v % 4294967296 = u0 := ⟨_, rfl⟩
    rw [hu00] at hu0
    have HK1 : Hid (Kd U u1 d1 d0) := ⟨by omega, by omega, by omega, by omega, by omega, by omega, by omega, by omega⟩
    obtain ⟨HS, hs1⟩ := Kn.start HK1.out
    have hb1 := HK1.out.v1a
    have hb2 := HK1.out.v1b
    have hb3 := HK1.out.v0a
    have hb4 := HK1.out.v0b
    have hb5 := HK1.out.u0
    have hb6 := HK1.out.u1
    have hq0 : 0 ≤ U / d1 := Int.ediv_nonneg U0 (by omega)
    have hq1 : U / d1 * d1 ≤ U := by have := HS.r0; omega
    have hq2 : 0 ≤ U / d1 * d1 := Int.mul_nonneg hq0 (by omega)
    obtain ⟨qs, hqs⟩ : ∃ t, U / d1 = t := ⟨_, rfl⟩
    rw [hqs] at HS hs1 hq0 hq1 hq2
    obtain ⟨ps, hps⟩ : ∃ t, qs * d1 = t := ⟨_, rfl⟩
    rw [hps] at HS hs1 hq1 hq2
    have HS1 : Hid (Kn U u1 d1 d0 qs (U - ps)) := HS
    clear HS
    go_enter Try.func72, Try.ntmps72
    go_wp2_with (go_at_call 78; refine (t78 y (by omega) _).mono ?_; rintro e w' ⟨rfl, rfl⟩; rw [es])
    go_loopw [15, 16] (fun v1 v2 wr => ∃ q r, v1 = .int .u64 q ∧ v2 = .int .u64 r ∧ 0 ≤ q ∧ q ≤ 8589934591 ∧ 0 ≤ r ∧ r ≤ 4294967295 ∧ Hid (Kn U u1 d1 d0 q r) ∧ w' = wr) (fun v1 _ _ => (intOf v1).toNat)
    case atStart => exact ⟨qs, U - ps, by first | rfl | rw [hqs], by first | rfl | rw [hqs, hps] | rw [hps], hq0, HS1.out.small HK1.out, by omega, by omega, HS1, by simp⟩
    case round =>
      clear HS1 hqs hps hs1 hq0 hq1 hq2
      obtain ⟨q, r, rfl, rfl, q0, q1, r0, r1, HQ, hw⟩ := hrel
      subst hw
      obtain ⟨P, hP⟩ : ∃ t, q * d0 = t := ⟨_, rfl⟩
      have this := kn_ways HK1.out HQ.out q0 hP
      rcases this with ⟨c1, c2, HQ2⟩ | ⟨c1, c2, c3, c4, c5, HQ2⟩ | ⟨c1, c2, c3, c4, HQ3⟩
      · obtain ⟨Q, hQ⟩ : ∃ t, q - 1 = t := ⟨_, rfl⟩
        rw [hQ] at HQ2
        by_cases hb : r + d1 ≤ 4294967295
        · go_wp2
          go_roundw
          case rel => exact ⟨Q, r + d1, rfl, rfl, by omega, by omega, by omega, by omega, HQ2, by simp⟩
          case measure => simp [intOf]; omega
        · have HQ3 : Hid (Q = (U * 4294967296 + u1) / (d1 * 4294967296 + d0)) := HQ2.out.out HK1.out (by omega)
          obtain ⟨A1, A2, A3, R, q2, p2, x1, x2, x3, x4, x5, x6, x7, x8, x9, x10, x11, x12, x13, x14, x15, x16, x17, x18, x19, x20, HS2⟩ := half_next HK1.out (show D = d1 * 4294967296 + d0 by omega) (show Q = (U * 4294967296 + u1) / D by rw [show D = d1 * 4294967296 + d0 by omega]; exact HQ3.out) (show 0 ≤ u0 by omega) (by omega) (by omega)
          have HR : Hid (R = (U * 4294967296 + u1) % D) := x11
          have HK2 : Hid (Kd R u0 d1 d0) := x14
          have hu6 : 0 ≤ u0 ∧ u0 ≤ 4294967295 := by omega
          clear x11 x14
          go_wp2
          clear x1 x2 x3 x4 x5 x6 x7 x8 x9 x10 HQ HQ3
          go_loopw [18, 16] (fun v1 v2 wr => ∃ q r, v1 = .int .u64 q ∧ v2 = .int .u64 r ∧ 0 ≤ q ∧ q ≤ 8589934591 ∧ 0 ≤ r ∧ r ≤ 4294967295 ∧ Hid (Kn R u0 d1 d0 q r) ∧ w' = wr) (fun v1 _ _ => (intOf v1).toNat)
          case atStart => exact ⟨q2, R - p2, by first | rfl | rw [x15], by first | rfl | rw [x15, x16] | rw [x16], x17, HS2.out.small HK2.out, by omega, by omega, HS2, by simp⟩
          case round =>
            clear HS2 x15 x16 x17 x18 x19 x20
            obtain ⟨q, r, rfl, rfl, q0, q1, r0, r1, HQ, hw⟩ := hrel
            subst hw
            obtain ⟨P, hP⟩ : ∃ t, q * d0 = t := ⟨_, rfl⟩
            have this := kn_ways HK2.out HQ.out q0 hP
            rcases this with ⟨c1, c2, HQ2⟩ | ⟨c1, c2, c3, c4, c5, HQ2⟩ | ⟨c1, c2, c3, c4, HQ3⟩
            · obtain ⟨Q2, hQ2⟩ : ∃ t, q - 1 = t := ⟨_, rfl⟩
              rw [hQ2] at HQ2
              by_cases hb : r + d1 ≤ 4294967295
              · go_wp2
                go_roundw
                case rel => exact ⟨Q2, r + d1, rfl, rfl, by omega, by omega, by omega, by omega, HQ2, by simp⟩
                case measure => simp [intOf]; omega
              · obtain ⟨B1, B2, B3, T, z1, z2, z3, z4, z5⟩ := half_last HK2.out (show D = d1 * 4294967296 + d0 by omega) HR.out (HQ2.out.out HK2.out (by omega)) hu1 hu00 HN.out HB.out hD2
                go_wp2
                go_ret2
                exact ⟨⟨_, rfl⟩, 0, rfl⟩
            · obtain ⟨Q2, hQ2⟩ : ∃ t, q - 1 = t := ⟨_, rfl⟩
              rw [hQ2] at HQ2
              by_cases hb : r + d1 ≤ 4294967295
              · go_wp2
                go_roundw
                case rel => exact ⟨Q2, r + d1, rfl, rfl, by omega, by omega, by omega, by omega, HQ2, by simp⟩
                case measure => simp [intOf]; omega
              · obtain ⟨B1, B2, B3, T, z1, z2, z3, z4, z5⟩ := half_last HK2.out (show D = d1 * 4294967296 + d0 by omega) HR.out (HQ2.out.out HK2.out (by omega)) hu1 hu00 HN.out HB.out hD2
                go_wp2
                go_ret2
                exact ⟨⟨_, rfl⟩, 0, rfl⟩
            · obtain ⟨B1, B2, B3, T, z1, z2, z3, z4, z5⟩ := half_last HK2.out (show D = d1 * 4294967296 + d0 by omega) HR.out HQ3.out hu1 hu00 HN.out HB.out hD2
              go_wp2
              go_ret2
              exact ⟨⟨_, rfl⟩, 0, rfl⟩
      · obtain ⟨Q, hQ⟩ : ∃ t, q - 1 = t := ⟨_, rfl⟩
        rw [hQ] at HQ2
        by_cases hb : r + d1 ≤ 4294967295
        · go_wp2
          go_roundw
          case rel => exact ⟨Q, r + d1, rfl, rfl, by omega, by omega, by omega, by omega, HQ2, by simp⟩
          case measure => simp [intOf]; omega
        · have HQ3 : Hid (Q = (U * 4294967296 + u1) / (d1 * 4294967296 + d0)) := HQ2.out.out HK1.out (by omega)
          obtain ⟨A1, A2, A3, R, q2, p2, x1, x2, x3, x4, x5, x6, x7, x8, x9, x10, x11, x12, x13, x14, x15, x16, x17, x18, x19, x20, HS2⟩ := half_next HK1.out (show D = d1 * 4294967296 + d0 by omega) (show Q = (U * 4294967296 + u1) / D by rw [show D = d1 * 4294967296 + d0 by omega]; exact HQ3.out) (show 0 ≤ u0 by omega) (by omega) (by omega)
          have HR : Hid (R = (U * 4294967296 + u1) % D) := x11
          have HK2 : Hid (Kd R u0 d1 d0) := x14
          have hu6 : 0 ≤ u0 ∧ u0 ≤ 4294967295 := by omega
          clear x11 x14
          go_wp2
          clear x1 x2 x3 x4 x5 x6 x7 x8 x9 x10 HQ HQ3
          go_loopw [18, 16] (fun v1 v2 wr => ∃ q r, v1 = .int .u64 q ∧ v2 = .int .u64 r ∧ 0 ≤ q ∧ q ≤ 8589934591 ∧ 0 ≤ r ∧ r ≤ 4294967295 ∧ Hid (Kn R u0 d1 d0 q r) ∧ w' = wr) (fun v1 _ _ => (intOf v1).toNat)
          case atStart => exact ⟨q2, R - p2, by first | rfl | rw [x15], by first | rfl | rw [x15, x16] | rw [x16], x17, HS2.out.small HK2.out, by omega, by omega, HS2, by simp⟩
          case round =>
            clear HS2 x15 x16 x17 x18 x19 x20
            obtain ⟨q, r, rfl, rfl, q0, q1, r0, r1, HQ, hw⟩ := hrel
            subst hw
            obtain ⟨P, hP⟩ : ∃ t, q * d0 = t := ⟨_, rfl⟩
            have this := kn_ways HK2.out HQ.out q0 hP
            rcases this with ⟨c1, c2, HQ2⟩ | ⟨c1, c2, c3, c4, c5, HQ2⟩ | ⟨c1, c2, c3, c4, HQ3⟩
            · obtain ⟨Q2, hQ2⟩ : ∃ t, q - 1 = t := ⟨_, rfl⟩
              rw [hQ2] at HQ2
              by_cases hb : r + d1 ≤ 4294967295
              · go_wp2
                go_roundw
                case rel => exact ⟨Q2, r + d1, rfl, rfl, by omega, by omega, by omega, by omega, HQ2, by simp⟩
                case measure => simp [intOf]; omega
              · obtain ⟨B1, B2, B3, T, z1, z2, z3, z4, z5⟩ := half_last HK2.out (show D = d1 * 4294967296 + d0 by omega) HR.out (HQ2.out.out HK2.out (by omega)) hu1 hu00 HN.out HB.out hD2
                go_wp2
                go_ret2
                exact ⟨⟨_, rfl⟩, 0, rfl⟩
            · obtain ⟨Q2, hQ2⟩ : ∃ t, q - 1 = t := ⟨_, rfl⟩
              rw [hQ2] at HQ2
              by_cases hb : r + d1 ≤ 4294967295
              · go_wp2
                go_roundw
                case rel => exact ⟨Q2, r + d1, rfl, rfl, by omega, by omega, by omega, by omega, HQ2, by simp⟩
                case measure => simp [intOf]; omega
              · obtain ⟨B1, B2, B3, T, z1, z2, z3, z4, z5⟩ := half_last HK2.out (show D = d1 * 4294967296 + d0 by omega) HR.out (HQ2.out.out HK2.out (by omega)) hu1 hu00 HN.out HB.out hD2
                go_wp2
                go_ret2
                exact ⟨⟨_, rfl⟩, 0, rfl⟩
            · obtain ⟨B1, B2, B3, T, z1, z2, z3, z4, z5⟩ := half_last HK2.out (show D = d1 * 4294967296 + d0 by omega) HR.out HQ3.out hu1 hu00 HN.out HB.out hD2
              go_wp2
              go_ret2
              exact ⟨⟨_, rfl⟩, 0, rfl⟩
      · have hq : True := trivial
        obtain ⟨A1, A2, A3, R, q2, p2, x1, x2, x3, x4, x5, x6, x7, x8, x9, x10, x11, x12, x13, x14, x15, x16, x17, x18, x19, x20, HS2⟩ := half_next HK1.out (show D = d1 * 4294967296 + d0 by omega) (show q = (U * 4294967296 + u1) / D by rw [show D = d1 * 4294967296 + d0 by omega]; exact HQ3.out) (show 0 ≤ u0 by omega) (by omega) (by omega)
        have HR : Hid (R = (U * 4294967296 + u1) % D) := x11
        have HK2 : Hid (Kd R u0 d1 d0) := x14
        have hu6 : 0 ≤ u0 ∧ u0 ≤ 4294967295 := by omega
        clear x11 x14
        go_wp2
        clear x1 x2 x3 x4 x5 x6 x7 x8 x9 x10 HQ HQ3
        go_loopw [18, 16] (fun v1 v2 wr => ∃ q r, v1 = .int .u64 q ∧ v2 = .int .u64 r ∧ 0 ≤ q ∧ q ≤ 8589934591 ∧ 0 ≤ r ∧ r ≤ 4294967295 ∧ Hid (Kn R u0 d1 d0 q r) ∧ w' = wr) (fun v1 _ _ => (intOf v1).toNat)
        case atStart => exact ⟨q2, R - p2, by first | rfl | rw [x15], by first | rfl | rw [x15, x16] | rw [x16], x17, HS2.out.small HK2.out, by omega, by omega, HS2, by simp⟩
        case round =>
          clear HS2 x15 x16 x17 x18 x19 x20
          obtain ⟨q, r, rfl, rfl, q0, q1, r0, r1, HQ, hw⟩ := hrel
          subst hw
          obtain ⟨P, hP⟩ : ∃ t, q * d0 = t := ⟨_, rfl⟩
          have this := kn_ways HK2.out HQ.out q0 hP
          rcases this with ⟨c1, c2, HQ2⟩ | ⟨c1, c2, c3, c4, c5, HQ2⟩ | ⟨c1, c2, c3, c4, HQ3⟩
          · obtain ⟨Q2, hQ2⟩ : ∃ t, q - 1 = t := ⟨_, rfl⟩
            rw [hQ2] at HQ2
            by_cases hb : r + d1 ≤ 4294967295
            · go_wp2
              go_roundw
              case rel => exact ⟨Q2, r + d1, rfl, rfl, by omega, by omega, by omega, by omega, HQ2, by simp⟩
              case measure => simp [intOf]; omega
            · obtain ⟨B1, B2, B3, T, z1, z2, z3, z4, z5⟩ := half_last HK2.out (show D = d1 * 4294967296 + d0 by omega) HR.out (HQ2.out.out HK2.out (by omega)) hu1 hu00 HN.out HB.out hD2
              go_wp2
              go_ret2
              exact ⟨⟨_, rfl⟩, 0, rfl⟩
          · obtain ⟨Q2, hQ2⟩ : ∃ t, q - 1 = t := ⟨_, rfl⟩
            rw [hQ2] at HQ2
            by_cases hb : r + d1 ≤ 4294967295
            · go_wp2
              go_roundw
              case rel => exact ⟨Q2, r + d1, rfl, rfl, by omega, by omega, by omega, by omega, HQ2, by simp⟩
              case measure => simp [intOf]; omega
            · obtain ⟨B1, B2, B3, T, z1, z2, z3, z4, z5⟩ := half_last HK2.out (show D = d1 * 4294967296 + d0 by omega) HR.out (HQ2.out.out HK2.out (by omega)) hu1 hu00 HN.out HB.out hD2
              go_wp2
              go_ret2
              exact ⟨⟨_, rfl⟩, 0, rfl⟩
          · obtain ⟨B1, B2, B3, T, z1, z2, z3, z4, z5⟩ := half_last HK2.out (show D = d1 * 4294967296 + d0 by omega) HR.out HQ3.out hu1 hu00 HN.out HB.out hD2
            go_wp2
            go_ret2
            exact ⟨⟨_, rfl⟩, 0, rfl⟩
theorem t60 (hi lo y : Int) (h0 : 0 ≤ hi) (h1 : 1 ≤ y) (hy : y ≤ 1099511627776) (l0 : 0 ≤ lo) (l1 : lo ≤ 18446744073709551615) (w : World) : Calls Try.prog 60 #[.int .u64 hi, .int .u64 lo, .int .u64 y] w fun e w' => e = .returned (.int .u64 ((hi * 18446744073709551616 + lo) % y)) ∧ ∃ n, w' = w.drewN n := by
  have r0 := Int.emod_nonneg hi (show y ≠ 0 by omega)
  have r1 := Int.emod_lt_of_pos hi (show 0 < y by omega)
  have er : (hi % y * 18446744073709551616 + lo) % y = (hi * 18446744073709551616 + lo) % y := by
    rw [Int.add_emod, Int.mul_emod, Int.emod_emod, ← Int.mul_emod, ← Int.add_emod]
  have ht : hi.tmod y = hi % y := Int.tmod_eq_emod_of_nonneg h0
  go_enter Try.func60, Try.ntmps60
  go_wp2_with (go_at_call 72; (with_reducible refine (t72 (hi % y) lo y r0 r1 hy l0 l1 _).mono ?_); rintro e w' ⟨⟨q, rfl⟩, n, rfl⟩)
  go_ret
  exact ⟨by rw [← er]; rfl, _, rfl⟩
theorem t46 (a b m : Int) (ha : 0 ≤ a) (ha2 : a ≤ 1099511627776) (hb : 0 ≤ b) (hb2 : b ≤ 1099511627776) (h1 : 1 ≤ m) (hm : m ≤ 1099511627776) (w : World) : Calls Try.prog 46 #[.int .i64 a, .int .i64 b, .int .i64 m] w fun e w' => e = .returned (.int .i64 (a * b % m)) ∧ ∃ n, w' = w.drewN n := by
  have p0 : 0 ≤ a * b := Int.mul_nonneg ha hb
  have p1 : a * b ≤ 1208925819614629174706176 := by
    have := Int.mul_le_mul ha2 hb2 hb (by omega)
    omega
  have er : (a * b / 18446744073709551616 * 18446744073709551616 + a * b % 18446744073709551616) % m = a * b % m := by
    rw [show a * b / 18446744073709551616 * 18446744073709551616 + a * b % 18446744073709551616 = a * b by omega]
  obtain ⟨P, hP⟩ : ∃ t, a * b = t := ⟨_, rfl⟩
  rw [hP] at p0 p1 er ⊢
  have r0 := Int.emod_nonneg P (show m ≠ 0 by omega)
  have r1 := Int.emod_lt_of_pos P (show 0 < m by omega)
  go_enter Try.func46, Try.ntmps46
  go_wp2_with (first
    | (go_at_call 45; (with_reducible refine (t45 a b (by omega) (by omega) _).mono ?_); rintro e w' ⟨rfl, rfl⟩; rw [hP])
    | (go_at_call 60; (with_reducible refine (t60 (P / 18446744073709551616) (P % 18446744073709551616) m (by omega) h1 hm (by omega) (by omega) _).mono ?_); rintro e w' ⟨rfl, n, rfl⟩; rw [er]))
  go_ret
  exact ⟨rfl, _, rfl⟩
end Go.Proofs.Ytijfmaepoamkgab.Fo
