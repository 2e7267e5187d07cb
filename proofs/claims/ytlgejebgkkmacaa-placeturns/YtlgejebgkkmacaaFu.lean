/- Quotients and roots, with bounds; products, sums and differences keep an order. No program is spoken of here. -/
import Derived.Test.YtlgejebgkkmacaaFt
namespace Go.Fl
open Ieee Go.RowKit

theorem mul_mono {x y r : Nat} (hx : Fnt x) (hy : Fnt y) (h : bin .mul (some x) (some y) = some r) (hB : val x * val y ≤ pw 1000) (hB' : -pw 1000 ≤ val x * val y) {z : Nat} : (val x * val y ≤ val z → val r ≤ val z) ∧ (val z ≤ val x * val y → val z ≤ val r) := by
  obtain ⟨s, m, i, ex⟩ := fin_read hx
  obtain ⟨t, n, j, ey⟩ := fin_read hy
  have hr : r = double.write (.number (s ^^ t) (m * n) (i + j)) := by
    have h' : double.mul x y = some r := h
    unfold Format.mul at h'
    rw [ex, ey] at h'
    simp only [Datum.product, Option.map_some, Option.some.injEq] at h'
    exact h'.symm
  have hv : val x * val y = dv (s ^^ t) (m * n) (i + j) := by
    rw [val_read ex, val_read ey]
    cases s <;> cases t <;> simp only [dv_false, dv_true, Bool.xor_false, Bool.xor_true, Bool.not_false, Bool.not_true, Rat.natCast_mul, pw_add] <;> grind
  have hb : ((m * n : Nat) : Rat) * pw (i + j) ≤ pw 1000 := by
    rw [hv] at hB hB'
    cases hst : (s ^^ t)
    · rw [hst, dv_false] at hB; exact hB
    · rw [hst, dv_true] at hB'; grind
  rw [hr, hv]
  exact write_mono _ _ _ hb
theorem add_mono {x y r : Nat} (hx : Fnt x) (hy : Fnt y) (h : bin .add (some x) (some y) = some r) (hB : val x + val y ≤ pw 1000) (hB' : -pw 1000 ≤ val x + val y) {z : Nat} : (val x + val y ≤ val z → val r ≤ val z) ∧ (val z ≤ val x + val y → val z ≤ val r) := by
  obtain ⟨s, m, i, ex⟩ := fin_read hx
  obtain ⟨t, n, j, ey⟩ := fin_read hy
  obtain ⟨g, k, e1, e2⟩ := sum_val (s := s) (t := t) (m := m) (n := n) (i := i) (j := j)
  have hr : r = double.write (.number g k (min i j)) := by
    have h' : double.add x y = some r := h
    unfold Format.add at h'
    rw [ex, ey, e1] at h'
    simp only [Option.map_some, Option.some.injEq] at h'
    exact h'.symm
  have hv : val x + val y = dv g k (min i j) := by rw [val_read ex, val_read ey, e2]
  have hb : (k : Rat) * pw (min i j) ≤ pw 1000 := by
    rw [hv] at hB hB'
    cases g
    · rw [dv_false] at hB; exact hB
    · rw [dv_true] at hB'; grind
  rw [hr, hv]
  exact write_mono _ _ _ hb
theorem sub_mono {x y r : Nat} (hx : Fnt x) (hy : Fnt y) (h : bin .sub (some x) (some y) = some r) (hB : val x - val y ≤ pw 1000) (hB' : -pw 1000 ≤ val x - val y) {z : Nat} : (val x - val y ≤ val z → val r ≤ val z) ∧ (val z ≤ val x - val y → val z ≤ val r) := by
  obtain ⟨s, m, i, ex⟩ := fin_read hx
  obtain ⟨t, n, j, ey⟩ := fin_read hy
  obtain ⟨g, k, e1, e2⟩ := sum_val (s := s) (t := !t) (m := m) (n := n) (i := i) (j := j)
  have hr : r = double.write (.number g k (min i j)) := by
    have h' : double.sub x y = some r := h
    unfold Format.sub at h'
    rw [ex, ey] at h'
    simp only [Datum.opposite] at h'
    rw [e1] at h'
    simp only [Option.map_some, Option.some.injEq] at h'
    exact h'.symm
  have hv : val x - val y = dv g k (min i j) := by rw [val_read ex, val_read ey, e2, dv_not, Rat.sub_eq_add_neg]
  have hb : (k : Rat) * pw (min i j) ≤ pw 1000 := by
    rw [hv] at hB hB'
    cases g
    · rw [dv_false] at hB; exact hB
    · rw [dv_true] at hB'; grind
  rw [hr, hv]
  exact write_mono _ _ _ hb
theorem read_lt {x : Nat} {s : Bool} {m : Nat} {e : Int} (h : double.read x = .number s m e) : m < 2 ^ 53 := by
  unfold Format.read at h
  have e1 : double.signWeight = 2 ^ 63 := rfl
  have e2 : double.binade = 2 ^ 52 := rfl
  have e3 : double.infRung = 0x7ff0000000000000 := rfl
  simp only [e1, e2, e3] at h
  split at h
  · injection h with _ hm _
    rename_i h1
    rw [← hm]; omega
  · split at h
    · injection h with _ hm _
      rw [← hm]
      have := Nat.mod_lt (x % 2 ^ 63) (show 0 < 2 ^ 52 by omega)
      omega
    · split at h <;> cases h
theorem pw52 : pw (-52) = 1 / 4503599627370496 := by decide +kernel
theorem pw53 : pw (-53) = 1 / 9007199254740992 := by decide +kernel
theorem pw54 : pw (-54) = 1 / 18014398509481984 := by decide +kernel
theorem le_of_mul {a b c : Rat} (hc : 0 < c) (h : a * c ≤ b * c) : a ≤ b := by
  rcases Rat.le_total (a := a) (b := b) with h1 | h1
  · exact h1
  · by_cases he : a = b
    · rw [he]; exact Rat.le_refl
    · have := Rat.mul_lt_mul_of_pos_right (show b < a by grind) hc
      grind
theorem val0 : val 0 = 0 := by decide +kernel
/-- x divided by y, both from 0 on. -/
theorem quo_near {x y r : Nat} (hx : Fnt x) (hy : Fnt y) (hx0 : 0 ≤ val x) (hy0 : 0 < val y) (h : bin .quo (some x) (some y) = some r) {κ B : Rat} (hκ : κ * val y = val x) (hB : κ ≤ B) (hB2 : B ≤ pw 990) :
    Fnt r ∧ Near (val r) κ (pw (-52) * B + pw (-1075)) ∧ 0 ≤ val r := by
  have HB2 : Hid (B ≤ pw 990) := hB2
  clear hB2
  obtain ⟨s, m, i, ex⟩ := fin_read hx
  obtain ⟨t, n, j, ey⟩ := fin_read hy
  have vx := val_read ex
  have vy := val_read ey
  have hpi := pw_pos i
  have hpj := pw_pos j
  have hm0 : 0 ≤ (m : Rat) * pw i := Rat.mul_nonneg Rat.natCast_nonneg (Rat.le_of_lt hpi)
  have hn0 : 0 ≤ (n : Rat) * pw j := Rat.mul_nonneg Rat.natCast_nonneg (Rat.le_of_lt hpj)
  have ht : t = false := by
    cases t
    · rfl
    · rw [dv_true] at vy; grind
  subst ht
  rw [dv_false] at vy
  have hn : 0 < n := by
    rcases Nat.eq_zero_or_pos n with h0 | h0
    · subst h0; simp at vy; grind
    · exact h0
  have vx' : val x = (m : Rat) * pw i := by
    cases s
    · rw [vx, dv_false]
    · rw [dv_true] at vx; grind
  have hsm : s = true → m = 0 := by
    intro hs
    subst hs
    rw [dv_true] at vx
    have h0 : (m : Rat) * pw i = 0 := by grind
    rcases Nat.eq_zero_or_pos m with h1 | h1
    · exact h1
    · have := Rat.mul_pos (Rat.natCast_pos.2 h1) hpi
      grind
  obtain ⟨more, hmore⟩ : ∃ more, more = 54 + n.log2 - m.log2 := ⟨_, rfl⟩
  obtain ⟨D, hD⟩ : ∃ D, D = m * 2 ^ more := ⟨_, rfl⟩
  obtain ⟨K, hK⟩ : ∃ K, K = 2 * (D / n) + (D % n != 0).toNat := ⟨_, rfl⟩
  have hr : r = double.write (.number s K (i - j - more - 1)) := by
    have h' : double.div x y = some r := h
    unfold Format.div at h'
    rw [ex, ey] at h'
    have e4 : double.fractionBits + 2 = 54 := rfl
    simp only [Datum.quotient, e4, shl, if_neg (show ¬ n = 0 by omega), Option.map_some, Option.some.injEq, Bool.xor_false, ← hmore, ← hD, ← hK] at h'
    exact h'.symm
  -- how far K is from twice the quotient
  have hKn : K * n ≤ 2 * D + n ∧ 2 * D ≤ K * n + n ∧ (m = 0 → K = 0) := by
    have hdm := Nat.div_add_mod D n
    have hlt := Nat.mod_lt D hn
    have e1 : K * n = 2 * (n * (D / n)) + (D % n != 0).toNat * n := by
      rw [hK, Nat.add_mul, Nat.mul_assoc, Nat.mul_comm (D / n)]
    refine ⟨?_, ?_, fun h0 => by rw [hK, hD, h0]; simp⟩
    · rw [e1]
      cases hb : (D % n != 0)
      · simp; omega
      · simp; omega
    · rw [e1]
      cases hb : (D % n != 0)
      · simp at hb; simp; omega
      · simp; omega
  have hDn : m = 0 ∨ n * 2 ^ 53 ≤ D := by
    rcases Nat.eq_zero_or_pos m with h0 | h0
    · exact Or.inl h0
    · right
      have a1 : 2 ^ m.log2 ≤ m := Nat.log2_self_le (by omega)
      have a2 : n < 2 ^ (n.log2 + 1) := Nat.lt_log2_self
      have a3 : m.log2 ≤ 52 := by
        have := read_lt ex
        rcases Nat.lt_or_ge 52 m.log2 with h1 | h1
        · have := Nat.pow_le_pow_right (show 0 < 2 by omega) (show 53 ≤ m.log2 by omega)
          omega
        · exact h1
      have a4 : 2 ^ m.log2 * 2 ^ more = 2 ^ (n.log2 + 1) * 2 ^ 53 := by
        rw [← Nat.pow_add, ← Nat.pow_add]
        exact congrArg (fun k => 2 ^ k) (by omega)
      have a5 := Nat.mul_le_mul_right (2 ^ more) a1
      have a6 := Nat.mul_le_mul_right (2 ^ 53) (Nat.le_of_lt a2)
      rw [hD]; omega
  -- the number that is rounded
  obtain ⟨V, hV⟩ : ∃ V : Rat, V = (K : Rat) * pw (i - j - more - 1) := ⟨_, rfl⟩
  have hdv : dv s K (i - j - more - 1) = V := by
    cases hs : s
    · rw [dv_false, hV]
    · rw [dv_true, hV, hKn.2.2 (hsm hs)]
      simp
  obtain ⟨P, hP⟩ : ∃ P : Rat, P = pw (i - more - 1) := ⟨_, rfl⟩
  have hPpos : 0 < P := by rw [hP]; exact pw_pos _
  have hVy : V * val y = ((K * n : Nat) : Rat) * P := by
    rw [hV, vy, hP, Rat.natCast_mul]
    have : pw (i - j - more - 1) * pw j = pw (i - more - 1) := by rw [← pw_add]; exact congrArg pw (by omega)
    grind
  have hxP : val x = ((2 * D : Nat) : Rat) * P := by
    rw [vx', hP, hD, Rat.natCast_mul, Rat.natCast_mul, ← pw_nat]
    have : pw (i - more - 1) * pw (more : Int) = pw (i - 1) := by rw [← pw_add]; exact congrArg pw (by omega)
    have h2 := pw_half i
    have e2 : ((2 : Nat) : Rat) = 2 := rfl
    rw [e2]
    grind
  have c1 := Rat.mul_le_mul_of_nonneg_right (Rat.natCast_le_natCast.2 hKn.1) (Rat.le_of_lt hPpos)
  have c2 := Rat.mul_le_mul_of_nonneg_right (Rat.natCast_le_natCast.2 hKn.2.1) (Rat.le_of_lt hPpos)
  rw [Rat.natCast_add, Rat.add_mul] at c1 c2
  have hnP : (n : Rat) * P ≤ pw (-54) * val x ∨ m = 0 := by
    rcases hDn with h0 | h0
    · exact Or.inr h0
    · left
      have := Rat.mul_le_mul_of_nonneg_right (Rat.natCast_le_natCast.2 h0) (Rat.le_of_lt hPpos)
      rw [Rat.natCast_mul, show ((2 ^ 53 : Nat) : Rat) = 9007199254740992 by decide +kernel] at this
      rw [hxP, pw54, Rat.natCast_mul]
      have e2 : ((2 : Nat) : Rat) = 2 := rfl
      rw [e2]
      grind
  have hκ0 : 0 ≤ κ := by
    have := le_of_mul (a := 0) (b := κ) hy0 (by grind)
    exact this
  have hVκ : V ≤ κ + pw (-54) * κ ∧ κ ≤ V + pw (-54) * κ := by
    rcases hnP with h0 | h0
    · have e1 : (κ + pw (-54) * κ) * val y = val x + pw (-54) * val x := by rw [← hκ]; grind
      have e2 : (V + pw (-54) * κ) * val y = V * val y + pw (-54) * val x := by rw [← hκ]; grind
      constructor
      · refine le_of_mul hy0 ?_
        rw [e1, hVy]
        grind
      · refine le_of_mul hy0 ?_
        rw [e2, hVy, hκ]
        grind
    · have hK0 := hKn.2.2 h0
      have hx00 : val x = 0 := by rw [vx', h0]; simp
      have hκ00 : κ = 0 := by
        have h1 := le_of_mul (a := κ) (b := 0) hy0 (by grind)
        grind
      have hV00 : V = 0 := by
        rw [hV, hK0]
        exact Rat.zero_mul _
      rw [hV00, hκ00]
      constructor <;> grind
  have hV0 : 0 ≤ V := by rw [hV]; exact Rat.mul_nonneg Rat.natCast_nonneg (Rat.le_of_lt (pw_pos _))
  rw [pw54] at hVκ
  have hB1 : (K : Rat) * pw (i - j - more - 1) ≤ B + B * (1 / 18014398509481984) := by rw [← hV]; grind
  have hBig : B + B * (1 / 18014398509481984) ≤ pw 1000 := by
    have h1 : pw 990 + pw 990 ≤ pw 1000 := by
      have a := pw_half 991
      have b := pw_mono (show (991 : Int) ≤ 1000 by omega)
      rw [show (991 : Int) - 1 = 990 by omega] at a
      grind
    have hB2 := HB2.out
    generalize pw 990 = W at *
    generalize pw 1000 = W2 at *
    grind
  obtain ⟨w1, w2, _⟩ := write_near s K (i - j - more - 1) hB1 hBig
  have w3 := write_mono s K (i - j - more - 1) (Rat.le_trans hB1 hBig) (y := 0)
  rw [← hr, hdv] at w2 w3
  rw [← hr] at w1
  refine ⟨w1, ?_, ?_⟩
  · unfold Near at *
    rw [pw53] at w2
    rw [pw52]
    constructor <;> grind
  · have := w3.2 (by rw [val0]; exact hV0)
    rw [val0] at this
    exact this
theorem root_spec (n : Nat) : ∀ todo root, root * root ≤ n → n < (root + 2 ^ todo) * (root + 2 ^ todo) → Datum.rootFrom n todo root * Datum.rootFrom n todo root ≤ n ∧ n < (Datum.rootFrom n todo root + 1) * (Datum.rootFrom n todo root + 1)
  | 0, root, h1, h2 => ⟨h1, by simpa [Datum.rootFrom] using h2⟩
  | todo + 1, root, h1, h2 => by
    unfold Datum.rootFrom
    simp only [Nat.one_shiftLeft]
    split
    · rename_i h
      refine root_spec n todo _ h ?_
      rw [show root + 2 ^ todo + 2 ^ todo = root + 2 ^ (todo + 1) by rw [Nat.pow_succ]; omega]
      exact h2
    · rename_i h
      exact root_spec n todo root h1 (by omega)

/-- The root of a number from 1 to 2.01. -/
theorem sqrt_near {x r : Nat} (hx : Fnt x) (h1 : 1 ≤ val x) (h2 : val x ≤ 201 / 100) (h : double.sqrt x = some r) :
    Fnt r ∧ 0 ≤ val r ∧ val r ≤ 3 / 2 ∧ Near (val r * val r) (val x) (7 * pw (-53)) := by
  obtain ⟨s, m, i, ex⟩ := fin_read hx
  have vx := val_read ex
  have hpi := pw_pos i
  have hm0 : 0 ≤ (m : Rat) * pw i := Rat.mul_nonneg Rat.natCast_nonneg (Rat.le_of_lt hpi)
  have hs : s = false := by
    cases s
    · rfl
    · rw [dv_true] at vx; grind
  subst hs
  rw [dv_false] at vx
  have hm : 0 < m := by
    rcases Nat.eq_zero_or_pos m with h0 | h0
    · subst h0
      have : ((0 : Nat) : Rat) * pw i = 0 := Rat.zero_mul _
      grind
    · exact h0
  obtain ⟨m0, hm00⟩ : ∃ m0, m0 = 2 * 54 - m.log2 := ⟨_, rfl⟩
  obtain ⟨more, hmore⟩ : ∃ more, more = m0 + ((i - m0) % 2).toNat := ⟨_, rfl⟩
  obtain ⟨n, hn⟩ : ∃ n, n = m * 2 ^ more := ⟨_, rfl⟩
  obtain ⟨w, hw⟩ : ∃ w, w = Datum.rootFrom n (n.log2 / 2 + 1) 0 := ⟨_, rfl⟩
  obtain ⟨K, hK⟩ : ∃ K, K = 2 * w + (w * w != n).toNat := ⟨_, rfl⟩
  have hr : r = double.write (.number false K ((i - more) / 2 - 1)) := by
    unfold Format.sqrt at h
    rw [ex] at h
    have e4 : double.fractionBits + 2 = 54 := rfl
    simp only [Datum.root, e4, shl, if_neg (show ¬ m = 0 by omega), Bool.false_eq_true, if_false, Option.map_some, Option.some.injEq, ← hm00, ← hmore, ← hn, ← hw, ← hK] at h
    exact h.symm
  obtain ⟨q1, q2⟩ := root_spec n (n.log2 / 2 + 1) 0 (by omega) (by
    have a : n < 2 ^ (n.log2 + 1) := Nat.lt_log2_self
    rw [Nat.zero_add, ← Nat.pow_add]
    exact Nat.lt_of_lt_of_le a (Nat.pow_le_pow_right (by omega) (by omega)))
  rw [← hw] at q1 q2
  -- n is great, so w is
  have hbig : 2 ^ 108 ≤ n := by
    have a1 : 2 ^ m.log2 ≤ m := Nat.log2_self_le (by omega)
    have a2 := Nat.mul_le_mul_right (2 ^ more) a1
    rw [← Nat.pow_add] at a2
    rw [hn]
    exact Nat.le_trans (Nat.pow_le_pow_right (by omega) (by omega)) a2
  have hw54 : 2 ^ 54 ≤ w := by
    rcases Nat.lt_or_ge w (2 ^ 54) with h0 | h0
    · exfalso
      have : (w + 1) * (w + 1) ≤ 2 ^ 54 * 2 ^ 54 := Nat.mul_le_mul h0 h0
      have e : 2 ^ 54 * 2 ^ 54 = 2 ^ 108 := by rw [← Nat.pow_add]
      omega
    · exact h0
  -- K K against 4 n
  have hww : 2 ^ 54 * w ≤ w * w := Nat.mul_le_mul_right w hw54
  have e1 : (w + 1) * (w + 1) = w * w + 2 * w + 1 := by rw [Nat.mul_add, Nat.add_mul]; omega
  have hKK : K * K * 2 ^ 53 ≤ 4 * n * 2 ^ 53 + 4 * n ∧ 4 * n * 2 ^ 53 ≤ K * K * 2 ^ 53 + 4 * n := by
    cases hb : (w * w != n)
    · have hwn : w * w = n := by simpa using hb
      have e2 : K * K = 4 * n := by
        rw [hK, hb, ← hwn]
        simp only [Bool.toNat_false, Nat.add_zero]
        rw [Nat.mul_mul_mul_comm]
      rw [e2]; omega
    · have hwn : w * w ≠ n := by simpa using hb
      have e2 : K * K = 4 * (w * w) + 4 * w + 1 := by
        rw [hK, hb]
        simp only [Bool.toNat_true]
        rw [Nat.mul_add, Nat.add_mul, Nat.mul_mul_mul_comm]; omega
      rw [e2]
      rw [e1] at q2
      generalize w * w = W at *
      omega
  -- as numbers
  obtain ⟨p, hp⟩ : ∃ p : Int, p = (i - more) / 2 - 1 := ⟨_, rfl⟩
  rw [← hp] at hr
  have hpar : (i - more : Int) = 2 * p + 2 := by omega
  obtain ⟨V, hV⟩ : ∃ V : Rat, V = (K : Rat) * pw p := ⟨_, rfl⟩
  have hV0 : 0 ≤ V := by rw [hV]; exact Rat.mul_nonneg Rat.natCast_nonneg (Rat.le_of_lt (pw_pos _))
  obtain ⟨P, hP⟩ : ∃ P : Rat, P = pw p * pw p := ⟨_, rfl⟩
  have hPpos : 0 < P := by rw [hP]; exact Rat.mul_pos (pw_pos _) (pw_pos _)
  have hVV : V * V = ((K * K : Nat) : Rat) * P := by rw [hV, hP, Rat.natCast_mul]; grind
  have hxP : val x = ((4 * n : Nat) : Rat) * P := by
    rw [vx, hn, Rat.natCast_mul, Rat.natCast_mul, ← pw_nat, hP]
    have a : pw i = pw (more : Int) * (pw 2 * (pw p * pw p)) := by
      rw [← pw_add, ← pw_add, ← pw_add]; exact congrArg pw (by omega)
    have b : pw 2 = 4 := by decide +kernel
    have e4 : ((4 : Nat) : Rat) = 4 := rfl
    rw [a, b, e4]
    grind
  have c1 := Rat.mul_le_mul_of_nonneg_right (Rat.natCast_le_natCast.2 hKK.1) (Rat.le_of_lt hPpos)
  have c2 := Rat.mul_le_mul_of_nonneg_right (Rat.natCast_le_natCast.2 hKK.2) (Rat.le_of_lt hPpos)
  rw [Rat.natCast_add, Rat.add_mul, Rat.natCast_mul (K * K) (2 ^ 53), Rat.natCast_mul (4 * n) (2 ^ 53), show ((2 ^ 53 : Nat) : Rat) = 9007199254740992 by decide +kernel] at c1 c2
  have d1 : V * V ≤ val x + val x * (1 / 9007199254740992) := by rw [hVV, hxP]; grind
  have d2 : val x ≤ V * V + val x * (1 / 9007199254740992) := by rw [hVV, hxP]; grind
  have hV15 : V ≤ 149 / 100 := by
    rcases Rat.le_total (a := V) (b := 149 / 100) with h0 | h0
    · exact h0
    · exfalso
      have a1 := Rat.mul_le_mul_of_nonneg_left h0 hV0
      have a2 := Rat.mul_le_mul_of_nonneg_right h0 (show (0 : Rat) ≤ 149 / 100 by decide +kernel)
      grind
  obtain ⟨k1, k2, _⟩ := write_near false K p (B := 149 / 100) (by rw [← hV]; exact hV15) (by
    have := pw_mono (show (1 : Int) ≤ 1000 by omega)
    have b : pw 1 = 2 := by decide +kernel
    generalize pw 1000 = W at *
    grind)
  have k3 := write_mono false K p (y := 0) (by
    rw [← hV]
    have := pw_mono (show (1 : Int) ≤ 1000 by omega)
    have b : pw 1 = 2 := by decide +kernel
    generalize pw 1000 = W at *
    grind)
  rw [dv_false, ← hV, ← hr] at k2 k3
  rw [← hr] at k1
  have k4 : 0 ≤ val r := by
    have := k3.2 (by rw [val0]; exact hV0)
    rw [val0] at this; exact this
  have hη : pw (-1075) ≤ 1 / 1208925819614629174706176 := by
    have := pw_mono (show (-1075 : Int) ≤ -80 by omega)
    have b : pw (-80) = 1 / 1208925819614629174706176 := by decide +kernel
    generalize pw (-1075) = W at *
    grind
  unfold Near at k2
  rw [pw53] at k2
  generalize pw (-1075) = η at *
  obtain ⟨k2a, k2b⟩ := k2
  have r15 : val r ≤ 3 / 2 := by grind
  refine ⟨k1, k4, r15, ?_⟩
  rw [pw53]
  obtain ⟨D, hD⟩ : ∃ D : Rat, D = val r - V := ⟨_, rfl⟩
  have rr : val r * val r = V * V + D * (val r + V) := by rw [hD]; grind
  have D1 : D ≤ 15 / 10 * (1 / 9007199254740992) := by grind
  have D2 : -D ≤ 15 / 10 * (1 / 9007199254740992) := by grind
  have s0 : 0 ≤ val r + V := by grind
  have s1 := Rat.mul_le_mul_of_nonneg_right D1 s0
  have s2 := Rat.mul_le_mul_of_nonneg_right D2 s0
  unfold Near
  rw [rr]
  constructor <;> grind
end Go.Fl
