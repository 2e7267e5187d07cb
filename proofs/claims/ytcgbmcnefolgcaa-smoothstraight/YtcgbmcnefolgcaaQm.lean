/- Quotients keep the order: no program. -/
import Derived.Test.YtcgbmcnefolgcaaFr
namespace Go.Proofs.Ytcgbmcnefolgcaa
open Go.ChangeShapes Go.WideShapes Go.ChangeAt Go.RowKit Go.Fl Ieee

/-- What is a whole number of units, and above an even number of half units, is at least one unit above. -/
theorem even_gap {c q k : Nat} {U Z : Rat} (hU : 0 < U) (hZ : Z = (c : Rat) * ((2 * k : Nat) : Rat) * U) (h : ((2 * q : Nat) : Rat) * U < Z) : ((2 * q + 2 : Nat) : Rat) * U ≤ Z := by
  have e : Z = ((c * (2 * k) : Nat) : Rat) * U := by rw [hZ, Rat.natCast_mul c (2 * k)]
  rw [e] at h ⊢
  have h1 : 2 * q < c * (2 * k) := by
    rcases Nat.lt_or_ge (2 * q) (c * (2 * k)) with l | l
    · exact l
    · exfalso
      have := Rat.mul_le_mul_of_nonneg_right (Rat.natCast_le_natCast.2 l) (Rat.le_of_lt hU)
      grind
  have h2 : 2 * q + 2 ≤ c * (2 * k) := by
    have : c * (2 * k) = 2 * (c * k) := by rw [Nat.mul_left_comm]
    omega
  exact Rat.mul_le_mul_of_nonneg_right (Rat.natCast_le_natCast.2 h2) (Rat.le_of_lt hU)
/-- A float that is at least 2^54 units is a whole number of pairs of units. -/
theorem pairs_of {z : Nat} {u : Int} (h : pw (u + 54) ≤ val z) : ∃ c k : Nat, val z = (c : Rat) * ((2 * k : Nat) : Rat) * pw u := by
  have h0 : 0 ≤ val z := Rat.le_trans (Rat.le_of_lt (pw_pos _)) h
  rcases Int.lt_or_le (u + 2) (-1074) with l | l
  · obtain ⟨c, hc⟩ := whole_units (y := z) (last := -1074) (by omega) (Or.inl rfl) h0 (Or.inl rfl)
    obtain ⟨k, hk⟩ : ∃ k : Nat, (-1074 : Int) = u + ((k + 1 : Nat) : Int) := ⟨(-1074 - u - 1).toNat, by omega⟩
    refine ⟨c, 2 ^ k, ?_⟩
    rw [hc, hk, pw_add, ← Nat.pow_succ', ← pw_nat]
    grind
  · obtain ⟨c, hc⟩ := whole_units (y := z) (last := u + 2) l (Or.inl rfl) h0 (Or.inr (by rw [show u + 2 + 52 = u + 54 by omega]; exact h))
    refine ⟨c, 2, ?_⟩
    rw [hc, show u + 2 = u + ((2 : Nat) : Int) by omega, pw_add, pw_nat]
    have e : ((2 ^ 2 : Nat) : Rat) = ((2 * 2 : Nat) : Rat) := rfl
    rw [e]
    grind
theorem rat_lt_or_le (a b : Rat) : a < b ∨ b ≤ a := by
  rcases Classical.em (a < b) with h | h
  · exact Or.inl h
  · exact Or.inr (Rat.not_lt.1 h)
/-- A quotient is on the right side of every float. -/
theorem quo_mono {x y r : Nat} (hx : Fnt x) (hy : Fnt y) (hx0 : 0 ≤ val x) (hy0 : 0 < val y) (h : bin .quo (some x) (some y) = some r) {κ B : Rat} (hκ : κ * val y = val x) (hB : κ ≤ B) (hB2 : B ≤ pw 990) {z : Nat} :
    (κ ≤ val z → val r ≤ val z) ∧ (val z ≤ κ → val z ≤ val r) := by
  have HB2 : Hid (B ≤ pw 990) := hB2
  clear hB2
  obtain ⟨s, m, i, ex⟩ := fin_read hx
  obtain ⟨t, n, j, ey⟩ := fin_read hy
  have vx := val_read ex
  have vy := val_read ey
  have hpi := pw_pos i
  have hpj := pw_pos j
  have hm0 : 0 ≤ (m : Rat) * pw i := Rat.mul_nonneg Rat.natCast_nonneg (Rat.le_of_lt hpi)
  have hn0 : 0 ≤ (n : Rat) * pw j := Rat.mul_nonneg Rat.natCast_nonneg (Rat.le_of_lt hpj)
  have ht : t = false := by
    cases t
    · rfl
    · rw [dv_true] at vy; grind
  subst ht
  rw [dv_false] at vy
  have hn : 0 < n := by
    rcases Nat.eq_zero_or_pos n with h0 | h0
    · subst h0; simp at vy; grind
    · exact h0
  have vx' : val x = (m : Rat) * pw i := by
    cases s
    · rw [vx, dv_false]
    · rw [dv_true] at vx; grind
  have hsm : s = true → m = 0 := by
    intro hs
    subst hs
    rw [dv_true] at vx
    have h0 : (m : Rat) * pw i = 0 := by grind
    rcases Nat.eq_zero_or_pos m with h1 | h1
    · exact h1
    · have := Rat.mul_pos (Rat.natCast_pos.2 h1) hpi
      grind
  obtain ⟨more, hmore⟩ : ∃ more, more = 54 + n.log2 - m.log2 := ⟨_, rfl⟩
  obtain ⟨D, hD⟩ : ∃ D, D = m * 2 ^ more := ⟨_, rfl⟩
  obtain ⟨K, hK⟩ : ∃ K, K = 2 * (D / n) + (D % n != 0).toNat := ⟨_, rfl⟩
  have hr : r = double.write (.number s K (i - j - more - 1)) := by
    have h' : double.div x y = some r := h
    unfold Format.div at h'
    rw [ex, ey] at h'
    have e4 : double.fractionBits + 2 = 54 := rfl
    simp only [Datum.quotient, e4, shl, if_neg (show ¬ n = 0 by omega), Option.map_some, Option.some.injEq, Bool.xor_false, ← hmore, ← hD, ← hK] at h'
    exact h'.symm
  -- how far K is from twice the quotient
  have hKn : K * n ≤ 2 * D + n ∧ 2 * D ≤ K * n + n ∧ (m = 0 → K = 0) := by
    have hdm := Nat.div_add_mod D n
    have hlt := Nat.mod_lt D hn
    have e1 : K * n = 2 * (n * (D / n)) + (D % n != 0).toNat * n := by
      rw [hK, Nat.add_mul, Nat.mul_assoc, Nat.mul_comm (D / n)]
    refine ⟨?_, ?_, fun h0 => by rw [hK, hD, h0]; simp⟩
    · rw [e1]
      cases hb : (D % n != 0)
      · simp; omega
      · simp; omega
    · rw [e1]
      cases hb : (D % n != 0)
      · simp at hb; simp; omega
      · simp; omega
  have hDn : m = 0 ∨ n * 2 ^ 53 ≤ D := by
    rcases Nat.eq_zero_or_pos m with h0 | h0
    · exact Or.inl h0
    · right
      have a1 : 2 ^ m.log2 ≤ m := Nat.log2_self_le (by omega)
      have a2 : n < 2 ^ (n.log2 + 1) := Nat.lt_log2_self
      have a3 : m.log2 ≤ 52 := by
        have := read_lt ex
        rcases Nat.lt_or_ge 52 m.log2 with h1 | h1
        · have := Nat.pow_le_pow_right (show 0 < 2 by omega) (show 53 ≤ m.log2 by omega)
          omega
        · exact h1
      have a4 : 2 ^ m.log2 * 2 ^ more = 2 ^ (n.log2 + 1) * 2 ^ 53 := by
        rw [← Nat.pow_add, ← Nat.pow_add]
        exact congrArg (fun k => 2 ^ k) (by omega)
      have a5 := Nat.mul_le_mul_right (2 ^ more) a1
      have a6 := Nat.mul_le_mul_right (2 ^ 53) (Nat.le_of_lt a2)
      rw [hD]; omega
  obtain ⟨V, hV⟩ : ∃ V : Rat, V = (K : Rat) * pw (i - j - more - 1) := ⟨_, rfl⟩
  have hdv : dv s K (i - j - more - 1) = V := by
    cases hs : s
    · rw [dv_false, hV]
    · rw [dv_true, hV, hKn.2.2 (hsm hs)]
      simp
  obtain ⟨P, hP⟩ : ∃ P : Rat, P = pw (i - more - 1) := ⟨_, rfl⟩
  have hPpos : 0 < P := by rw [hP]; exact pw_pos _
  have hVy : V * val y = ((K * n : Nat) : Rat) * P := by
    rw [hV, vy, hP, Rat.natCast_mul]
    have : pw (i - j - more - 1) * pw j = pw (i - more - 1) := by rw [← pw_add]; exact congrArg pw (by omega)
    grind
  have hxP : val x = ((2 * D : Nat) : Rat) * P := by
    rw [vx', hP, hD, Rat.natCast_mul, Rat.natCast_mul, ← pw_nat]
    have : pw (i - more - 1) * pw (more : Int) = pw (i - 1) := by rw [← pw_add]; exact congrArg pw (by omega)
    have h2 := pw_half i
    have e2 : ((2 : Nat) : Rat) = 2 := rfl
    rw [e2]
    grind
  have c1 := Rat.mul_le_mul_of_nonneg_right (Rat.natCast_le_natCast.2 hKn.1) (Rat.le_of_lt hPpos)
  have c2 := Rat.mul_le_mul_of_nonneg_right (Rat.natCast_le_natCast.2 hKn.2.1) (Rat.le_of_lt hPpos)
  rw [Rat.natCast_add, Rat.add_mul] at c1 c2
  have hnP : (n : Rat) * P ≤ pw (-54) * val x ∨ m = 0 := by
    rcases hDn with h0 | h0
    · exact Or.inr h0
    · left
      have := Rat.mul_le_mul_of_nonneg_right (Rat.natCast_le_natCast.2 h0) (Rat.le_of_lt hPpos)
      rw [Rat.natCast_mul, show ((2 ^ 53 : Nat) : Rat) = 9007199254740992 by decide +kernel] at this
      rw [hxP, pw54, Rat.natCast_mul]
      have e2 : ((2 : Nat) : Rat) = 2 := rfl
      rw [e2]
      grind
  have hκ0 : 0 ≤ κ := by
    have := le_of_mul (a := 0) (b := κ) hy0 (by grind)
    exact this
  have hVκ : V ≤ κ + pw (-54) * κ ∧ κ ≤ V + pw (-54) * κ := by
    rcases hnP with h0 | h0
    · have e1 : (κ + pw (-54) * κ) * val y = val x + pw (-54) * val x := by rw [← hκ]; grind
      have e2 : (V + pw (-54) * κ) * val y = V * val y + pw (-54) * val x := by rw [← hκ]; grind
      constructor
      · refine le_of_mul hy0 ?_
        rw [e1, hVy]
        grind
      · refine le_of_mul hy0 ?_
        rw [e2, hVy, hκ]
        grind
    · have hK0 := hKn.2.2 h0
      have hx00 : val x = 0 := by rw [vx', h0]; simp
      have hκ00 : κ = 0 := by
        have h1 := le_of_mul (a := κ) (b := 0) hy0 (by grind)
        grind
      have hV00 : V = 0 := by
        rw [hV, hK0]
        exact Rat.zero_mul _
      rw [hV00, hκ00]
      constructor <;> grind
  have hV0 : 0 ≤ V := by rw [hV]; exact Rat.mul_nonneg Rat.natCast_nonneg (Rat.le_of_lt (pw_pos _))
  rw [pw54] at hVκ
  have hB1 : (K : Rat) * pw (i - j - more - 1) ≤ B + B * (1 / 18014398509481984) := by rw [← hV]; grind
  have hBig : B + B * (1 / 18014398509481984) ≤ pw 1000 := by
    have h1 : pw 990 + pw 990 ≤ pw 1000 := by
      have a := pw_half 991
      have b := pw_mono (show (991 : Int) ≤ 1000 by omega)
      rw [show (991 : Int) - 1 = 990 by omega] at a
      grind
    have hB2 := HB2.out
    generalize pw 990 = W at *
    generalize pw 1000 = W2 at *
    grind
  have w3 := write_mono s K (i - j - more - 1) (Rat.le_trans hB1 hBig) (y := z)
  rw [← hr, hdv] at w3
  obtain ⟨U, hU⟩ : ∃ U : Rat, U = pw (i - j - more - 1) := ⟨_, rfl⟩
  have hUpos : 0 < U := by rw [hU]; exact pw_pos _
  have hUy : U * val y = (n : Rat) * P := by
    rw [hU, vy, hP]
    have : pw (i - j - more - 1) * pw j = pw (i - more - 1) := by rw [← pw_add]; exact congrArg pw (by omega)
    grind
  rw [← hU] at hV
  rcases hDn with h0 | h0
  · have hK0 := hKn.2.2 h0
    have hx00 : val x = 0 := by rw [vx', h0]; simp
    have hκ00 : κ = 0 := by
      have h1 := le_of_mul (a := κ) (b := 0) hy0 (by grind)
      grind
    have hV00 : V = 0 := by
      rw [hV, hK0]
      exact Rat.zero_mul _
    rw [hκ00]
    rw [hV00] at w3
    exact w3
  obtain ⟨q, hq⟩ : ∃ q, q = D / n := ⟨_, rfl⟩
  rw [← hq] at hK
  have hdm := Nat.div_add_mod D n
  have hlt := Nat.mod_lt D hn
  rw [← hq] at hdm
  have hq53 : 2 ^ 53 ≤ q := by
    rw [hq]
    exact (Nat.le_div_iff_mul_le hn).2 (by rw [Nat.mul_comm]; exact h0)
  have big : pw (i - j - more - 1 + 54) ≤ ((2 * q : Nat) : Rat) * U := by
    rw [show i - j - more - 1 + 54 = (i - j - more - 1) + ((54 : Nat) : Int) by omega, pw_add, pw_nat, ← hU, Rat.mul_comm]
    exact Rat.mul_le_mul_of_nonneg_right (Rat.natCast_le_natCast.2 (by omega)) (Rat.le_of_lt hUpos)
  have lowq : 2 * (q * n) ≤ 2 * D := by rw [Nat.mul_comm q n]; omega
  have upq : 2 * D < (2 * q + 2) * n := by
    have : (2 * q + 2) * n = 2 * (n * q) + 2 * n := by rw [Nat.add_mul, Nat.mul_assoc, Nat.mul_comm q n]
    omega
  have kappa_y : κ * val y = ((2 * D : Nat) : Rat) * P := by rw [hκ]; exact hxP
  have hlow : ((2 * q : Nat) : Rat) * U ≤ κ := by
    refine le_of_mul hy0 ?_
    rw [kappa_y, Rat.mul_assoc, hUy, ← Rat.mul_assoc, ← Rat.natCast_mul]
    exact Rat.mul_le_mul_of_nonneg_right (Rat.natCast_le_natCast.2 (by rw [Nat.mul_assoc]; exact lowq)) (Rat.le_of_lt hPpos)
  have hup : κ < ((2 * q + 2 : Nat) : Rat) * U := by
    rcases rat_lt_or_le κ (((2 * q + 2 : Nat) : Rat) * U) with l | l
    · exact l
    · exfalso
      have e := Rat.mul_le_mul_of_nonneg_right l (Rat.le_of_lt hy0)
      rw [kappa_y, Rat.mul_assoc, hUy, ← Rat.mul_assoc, ← Rat.natCast_mul] at e
      have e2 := Rat.mul_lt_mul_of_pos_right (Rat.natCast_lt_natCast.2 upq) hPpos
      grind
  have gap : ((2 * q : Nat) : Rat) * U < val z → ((2 * q + 2 : Nat) : Rat) * U ≤ val z := fun hz => by
    obtain ⟨c, k, hc⟩ := pairs_of (z := z) (u := i - j - more - 1) (Rat.le_trans big (Rat.le_of_lt hz))
    rw [← hU] at hc
    exact even_gap hUpos hc hz
  cases hb : (D % n != 0)
  · have hD0 : D % n = 0 := by simpa using hb
    have hK2 : K = 2 * q := by rw [hK, hb]; simp
    have eqv : V = κ := by
      have a1 : V ≤ κ := by rw [hV, hK2]; exact hlow
      have a2 : κ ≤ V := by
        refine le_of_mul hy0 ?_
        rw [kappa_y, hVy]
        refine Rat.mul_le_mul_of_nonneg_right (Rat.natCast_le_natCast.2 ?_) (Rat.le_of_lt hPpos)
        rw [hK2, Nat.mul_assoc, Nat.mul_comm q n]; omega
      grind
    rw [eqv] at w3
    exact w3
  · have hK2 : K = 2 * q + 1 := by rw [hK, hb]; rfl
    have hVq : V = ((2 * q + 1 : Nat) : Rat) * U := by rw [hV, hK2]
    have l1 : V ≤ ((2 * q + 2 : Nat) : Rat) * U := by rw [hVq]; exact Rat.mul_le_mul_of_nonneg_right (Rat.natCast_le_natCast.2 (by omega)) (Rat.le_of_lt hUpos)
    have l2 : ((2 * q : Nat) : Rat) * U ≤ V := by rw [hVq]; exact Rat.mul_le_mul_of_nonneg_right (Rat.natCast_le_natCast.2 (by omega)) (Rat.le_of_lt hUpos)
    have strict : ((2 * q : Nat) : Rat) * U < κ := by
      rcases rat_lt_or_le (((2 * q : Nat) : Rat) * U) κ with l | l
      · exact l
      · exfalso
        have e := Rat.mul_le_mul_of_nonneg_right l (Rat.le_of_lt hy0)
        rw [kappa_y, Rat.mul_assoc, hUy, ← Rat.mul_assoc, ← Rat.natCast_mul] at e
        have hlt2 : 2 * q * n < 2 * D := by
          have : D % n ≠ 0 := by simpa using hb
          rw [Nat.mul_assoc, Nat.mul_comm q n]; omega
        have e2 := Rat.mul_lt_mul_of_pos_right (Rat.natCast_lt_natCast.2 hlt2) hPpos
        grind
    constructor
    · intro hz
      have := gap (by grind)
      exact w3.1 (Rat.le_trans l1 this)
    · intro hz
      rcases rat_lt_or_le (((2 * q : Nat) : Rat) * U) (val z) with l | l
      · exfalso
        have := gap l
        grind
      · exact w3.2 (Rat.le_trans l l2)
end Go.Proofs.Ytcgbmcnefolgcaa
