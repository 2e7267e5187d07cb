/- The reference: products by doubling, Join; lists alike. -/
import Derived.Test.YtpahjenfkgcdlaaK
namespace Go.Proofs.Ytpahjenfkgcdlaa
open Go.ChangeShapes Go.WideShapes Go.ChangeAt Go.RowKit

set_option maxHeartbeats 1000000 in
theorem t31 (a b m : Int) (hm : 1 ≤ m) (hm2 : m ≤ 4611686018427387904) (w : World) : Calls Try.prog 31 #[.int .i64 a, .int .i64 b, .int .i64 m] w fun e w' => e = .returned (.int .i64 (a * b % m)) ∧ w' = w := by
  have a0 := Int.emod_nonneg a (show m ≠ 0 by omega)
  have a1 := Int.emod_lt_of_pos a (show 0 < m by omega)
  have b0 := Int.emod_nonneg b (show m ≠ 0 by omega)
  have b1 := Int.emod_lt_of_pos b (show 0 < m by omega)
  have HI : Hid ((0 + a % m * (b % m)) % m = a * b % m) := by
    show _ = _
    rw [Int.zero_add, ← Int.mul_emod]
  go_enter Try.func31, Try.ntmps31
  go_wp2_with (first
    | (go_at_call 30; (with_reducible refine (t30 a m (by omega) _).mono ?_); rintro e w1 ⟨rfl, rfl⟩)
    | (go_at_call 30; (with_reducible refine (t30 b m (by omega) _).mono ?_); rintro e w1 ⟨rfl, rfl⟩))
  obtain ⟨R, hR⟩ : ∃ R, a * b % m = R := ⟨_, rfl⟩
  have HR : Hid (a * b % m = R) := hR
  rw [hR] at HI
  clear hR
  go_loopw [7, 0, 1] (fun v7 v0 v1 wr => ∃ s A B : Int, v7 = .int .i64 s ∧ v0 = .int .i64 A ∧ v1 = .int .i64 B ∧ 0 ≤ s ∧ s < m ∧ 0 ≤ A ∧ A < m ∧ 0 ≤ B ∧ B < m ∧ Hid ((s + A * B) % m = R) ∧ w1 = wr) (fun _ _ v1 _ => (intOf v1).toNat)
  case atStart => exact ⟨0, _, _, rfl, rfl, rfl, by omega, by omega, a0, a1, b0, b1, HI, rfl⟩
  case round =>
    clear HI
    obtain ⟨s, A, B, rfl, rfl, rfl, s0, s1, A0, A1, B0, B1, HS, hw⟩ := hrel
    subst hw
    by_cases hB : 0 < B
    · have HD := dbl_step (s := s) (a := A) (b := B) (m := m)
      have q0 := Int.emod_nonneg (A + A) (show m ≠ 0 by omega)
      have q1 := Int.emod_lt_of_pos (A + A) (show 0 < m by omega)
      have r0 := Int.emod_nonneg (s + A) (show m ≠ 0 by omega)
      have r1 := Int.emod_lt_of_pos (s + A) (show 0 < m by omega)
      have HD2 : Hid (((if B % 2 = 1 then (s + A) % m else s) + (A + A) % m * (B / 2)) % m = R) := by
        show _ = _
        rw [HD]; exact HS.out
      clear HD
      by_cases hodd : B % 2 = 1
      · have hob : (B % 2 == 1) = true := by simpa using hodd
        rw [if_pos hodd] at HD2
        go_wp2_with (first
          | (go_at_call 32; (with_reducible refine (t32 s A m ⟨s0, s1⟩ ⟨A0, A1⟩ hm2 _).mono ?_); rintro e w2 ⟨rfl, rfl⟩)
          | (go_at_call 32; (with_reducible refine (t32 A A m ⟨A0, A1⟩ ⟨A0, A1⟩ hm2 _).mono ?_); rintro e w2 ⟨rfl, rfl⟩))
        go_roundw
        case rel => exact ⟨_, _, B / 2, rfl, rfl, rfl, r0, r1, q0, q1, by omega, by omega, HD2, by simp⟩
        case measure => simp [intOf]; omega
      · have hob : (B % 2 == 1) = false := by simpa using hodd
        rw [if_neg hodd] at HD2
        go_wp2_with (first
          | (go_at_call 32; (with_reducible refine (t32 A A m ⟨A0, A1⟩ ⟨A0, A1⟩ hm2 _).mono ?_); rintro e w2 ⟨rfl, rfl⟩))
        go_roundw
        case rel => exact ⟨s, _, B / 2, rfl, rfl, rfl, s0, s1, q0, q1, by omega, by omega, HD2, by simp⟩
        case measure => simp [intOf]; omega
    · obtain rfl : B = 0 := by omega
      go_wp2
      go_ret
      refine ⟨?_, rfl⟩
      have := HS.out
      rw [Int.mul_zero, Int.add_zero, Int.emod_eq_of_lt s0 s1] at this
      rw [HR.out, ← this]
      rfl
/-- What the reference's step leans on. -/
structure Re (x a r m g p own : Int) : Prop where
  g1 : 1 ≤ g
  gm : g ≤ m
  own1 : 1 ≤ own
  own2 : own ≤ m
  zero : (r % m - x % m) % g = (r - x) % g
  cmp : 4611686018427387904 / own < a ↔ 4611686018427387904 < a * own
  next : (r - x) % g = 0 → a * own ≤ 4611686018427387904 → ∃ c t, (r % m - x % m).tdiv g = c ∧ c * (p % own) % own = t ∧ 0 ≤ t ∧ t < own ∧ a * t % (a * own) = a * t ∧ 0 ≤ a * t ∧ a * t < a * own ∧ (x + a * t) % (a * own) = x + a * t ∧ x + a * t = (stepF x a r m).1 ∧ 0 ≤ x + a * t ∧ x + a * t < a * own
theorem Re.of {x a r m : Int} (ha : 1 ≤ a) (hx : 0 ≤ x ∧ x < a) (hm : 1 ≤ m) : Re x a r m (eucl a 1 0 m 0 1).1 (eucl a 1 0 m 0 1).2.1 (m / (eucl a 1 0 m 0 1).1) := by
  have h1 := eucl_told (A := a) (B := m) (by omega) (by omega)
  have hsf : (r - x) % (eucl a 1 0 m 0 1).1 = 0 → a * (m / (eucl a 1 0 m 0 1).1) ≤ 4611686018427387904 → (stepF x a r m).1 = nextX a m (eucl a 1 0 m 0 1).1 (eucl a 1 0 m 0 1).2.1 x r := fun k1 k2 => by
    unfold stepF
    rw [if_neg (by omega), if_neg (by omega)]
  obtain ⟨g1, e1, k1, e2, k2⟩ := h1.parts ha hm
  generalize eucl a 1 0 m 0 1 = E at *
  have hgm : E.1 ≤ m := by
    have := Int.mul_le_mul_of_nonneg_right k1 (show 0 ≤ E.1 by omega)
    omega
  have hgd : E.1 ∣ m := ⟨m / E.1, by rw [Int.mul_comm]; exact e1.symm⟩
  have hz : (r % m - x % m) % E.1 = (r - x) % E.1 := by
    rw [Int.sub_emod, Int.emod_emod_of_dvd _ hgd, Int.emod_emod_of_dvd _ hgd, ← Int.sub_emod]
  refine ⟨g1, hgm, k1, Int.ediv_le_self _ (by omega), hz, ?_, ?_⟩
  · exact Int.ediv_lt_iff_lt_mul (by omega)
  · intro hd hall
    obtain ⟨c, hc⟩ : E.1 ∣ r % m - x % m := Int.dvd_of_emod_eq_zero (by rw [hz]; exact hd)
    have hb : m ∣ E.2.1 * a - E.1 := ⟨-E.2.2, by have := h1.make; grind⟩
    have er := Int.mul_ediv_add_emod r m
    have ex := Int.mul_ediv_add_emod x m
    have st := step_any (rr := r) (c := c) (b := E.2.1) (t := c * (E.2.1 % (m / E.1)) % (m / E.1)) h1 ha hm hx ⟨x / m - r / m, by rw [Int.mul_comm c, ← hc]; grind⟩ hb (by rw [Int.mul_emod, Int.emod_emod, ← Int.mul_emod])
    generalize hown : m / E.1 = own at *
    refine ⟨c, _, by rw [hc]; exact Int.mul_tdiv_cancel_left _ (by omega), rfl, st.2.1, st.2.2, ?_⟩
    rw [hsf hd hall, ← st.1]
    generalize c * (E.2.1 % own) % own = t at *
    have p0 : 0 ≤ a * t := Int.mul_nonneg (by omega) st.2.1
    have p1 : a * (t + 1) ≤ a * own := Int.mul_le_mul_of_nonneg_left (by omega) (by omega)
    have p2 : a * t + a ≤ a * own := by grind
    exact ⟨Int.emod_eq_of_lt p0 (by omega), p0, by omega, Int.emod_eq_of_lt (by omega) (by omega), by rw [Int.mul_comm a t], by omega, by omega⟩
end Go.Proofs.Ytpahjenfkgcdlaa
