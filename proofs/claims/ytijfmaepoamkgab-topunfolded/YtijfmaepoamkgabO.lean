/- The order of floats by their bits: a key that rises as the number does, -0 ahead of +0, NaN behind all. No program is spoken of here. -/
import Derived.Test.YtijfmaepoamkgabFl
namespace Go.Fl
open Ieee Go.RowKit

/-- A rung's number, in units of the least place. -/
def mag (r : Nat) : Nat := if r < 2 ^ 52 then r else (2 ^ 52 + r % 2 ^ 52) * 2 ^ (r / 2 ^ 52 - 1)
theorem mag_lt {a b : Nat} (h : a < b) : mag a < mag b := by
  unfold mag
  have pa : 0 < 2 ^ (a / 2 ^ 52 - 1) := Nat.two_pow_pos _
  by_cases hb : b < 2 ^ 52
  · rw [if_pos (by omega), if_pos hb]; exact h
  · rw [if_neg hb]
    have hb1 : 1 ≤ b / 2 ^ 52 := by omega
    have pb : 0 < 2 ^ (b / 2 ^ 52 - 1) := Nat.two_pow_pos _
    have hbm : 2 ^ 52 * 2 ^ (b / 2 ^ 52 - 1) ≤ (2 ^ 52 + b % 2 ^ 52) * 2 ^ (b / 2 ^ 52 - 1) := Nat.mul_le_mul_right _ (Nat.le_add_right _ _)
    by_cases ha : a < 2 ^ 52
    · rw [if_pos ha]
      have : 2 ^ 52 * 1 ≤ 2 ^ 52 * 2 ^ (b / 2 ^ 52 - 1) := Nat.mul_le_mul_left _ pb
      omega
    · rw [if_neg ha]
      have hq : a / 2 ^ 52 ≤ b / 2 ^ 52 := Nat.div_le_div_right (by omega)
      rcases Nat.lt_or_ge (a / 2 ^ 52) (b / 2 ^ 52) with hlt | hge
      · have h1 : (2 ^ 52 + a % 2 ^ 52) * 2 ^ (a / 2 ^ 52 - 1) < 2 ^ 53 * 2 ^ (a / 2 ^ 52 - 1) := Nat.mul_lt_mul_of_pos_right (by omega) pa
        have h2 : 2 ^ 53 * 2 ^ (a / 2 ^ 52 - 1) = 2 ^ 52 * 2 ^ (a / 2 ^ 52) := by
          obtain ⟨q, hq⟩ : ∃ q, a / 2 ^ 52 = q + 1 := ⟨a / 2 ^ 52 - 1, by omega⟩
          rw [hq]; simp only [Nat.add_sub_cancel]; rw [Nat.pow_succ 2 q]; omega
        have h3 : 2 ^ 52 * 2 ^ (a / 2 ^ 52) ≤ 2 ^ 52 * 2 ^ (b / 2 ^ 52 - 1) := Nat.mul_le_mul_left _ (Nat.pow_le_pow_right (by omega) (by omega))
        omega
      · have he : a / 2 ^ 52 = b / 2 ^ 52 := by omega
        rw [he]
        exact Nat.mul_lt_mul_of_pos_right (by omega) pb
theorem mag_zero (r : Nat) (h : mag r = 0) : r = 0 := by
  rcases Nat.eq_zero_or_pos r with h0 | h0
  · exact h0
  · have := mag_lt h0; omega

def sgn (s : Bool) (m : Nat) : Int := if s then -(m : Int) else m
/-- A number's datum, in one unit. -/
theorem read_num {x : Nat} {s : Bool} {m : Nat} {e : Int} (h : double.read x = .number s m e) :
    s = (x / 2 ^ 63 % 2 == 1) ∧ x % 2 ^ 63 < 0x7ff0000000000000 ∧ -1074 ≤ e ∧ m * 2 ^ (e + 1074).toNat = mag (x % 2 ^ 63) := by
  unfold Format.read at h
  have e1 : double.signWeight = 2 ^ 63 := rfl
  have e2 : double.binade = 2 ^ 52 := rfl
  have e3 : double.infRung = 0x7ff0000000000000 := rfl
  have e4 : double.leastPlace = -1074 := rfl
  simp only [e1, e2, e3, e4] at h
  unfold mag
  split at h
  · rename_i h1
    injection h with hs hm he
    subst hs; subst hm; subst he
    rw [if_pos h1]
    exact ⟨rfl, by omega, by omega, by simp⟩
  · rename_i h1
    split at h
    · rename_i h2
      injection h with hs hm he
      subst hs; subst hm; subst he
      rw [if_neg h1]
      refine ⟨rfl, h2, by omega, ?_⟩
      congr 2
      omega
    · split at h <;> cases h

theorem read_inf {x : Nat} {s : Bool} (h : double.read x = .infinity s) : s = (x / 2 ^ 63 % 2 == 1) ∧ x % 2 ^ 63 = 0x7ff0000000000000 := by
  unfold Format.read at h
  have e1 : double.signWeight = 2 ^ 63 := rfl
  have e2 : double.binade = 2 ^ 52 := rfl
  have e3 : double.infRung = 0x7ff0000000000000 := rfl
  simp only [e1, e2, e3] at h
  split at h
  · cases h
  · split at h
    · cases h
    · split at h
      · injection h with hs; exact ⟨hs.symm, by assumption⟩
      · cases h

/-- Where a float stands, by sign and rung. -/
def lin (x : Nat) : Int := sgn (x / 2 ^ 63 % 2 == 1) (x % 2 ^ 63)

theorem signed_scale (s : Bool) (m a b : Nat) : signed s m a * (2 ^ b : Nat) = sgn s (m * 2 ^ (a + b)) := by
  unfold signed sgn
  rw [Nat.shiftLeft_eq, Nat.pow_add]
  cases s <;> simp [Int.mul_assoc, Int.neg_mul]

theorem compare_scale (x y : Int) (k : Nat) (hk : 0 < k) : compare x y = compare (x * k) (y * k) := by
  rcases Int.lt_trichotomy x y with h | h | h
  · rw [Int.compare_eq_lt.2 h, Int.compare_eq_lt.2 (Int.mul_lt_mul_of_pos_right h (by omega))]
  · subst h; simp
  · rw [Int.compare_eq_gt.2 h, Int.compare_eq_gt.2 (Int.mul_lt_mul_of_pos_right h (by omega))]

theorem sgn_mono (s t : Bool) (a b : Nat) : compare (sgn s (mag a)) (sgn t (mag b)) = compare (sgn s a) (sgn t b) := by
  have h0 : mag 0 = 0 := rfl
  have za : mag a = 0 → a = 0 := mag_zero a
  have zb : mag b = 0 → b = 0 := mag_zero b
  have tri : (a < b ∧ mag a < mag b) ∨ (a = b ∧ mag a = mag b) ∨ (b < a ∧ mag b < mag a) := by
    rcases Nat.lt_trichotomy a b with h | h | h
    · exact Or.inl ⟨h, mag_lt h⟩
    · exact Or.inr (Or.inl ⟨h, by rw [h]⟩)
    · exact Or.inr (Or.inr ⟨h, mag_lt h⟩)
  have za' : a = 0 → mag a = 0 := fun h => by rw [h]; rfl
  have zb' : b = 0 → mag b = 0 := fun h => by rw [h]; rfl
  generalize mag a = A at *
  generalize mag b = B at *
  have key : ∀ (p q p' q' : Int), (p < q ↔ p' < q') → (q < p ↔ q' < p') → compare p q = compare p' q' := by
    intro p q p' q' h1 h2
    rcases Int.lt_trichotomy p q with h | h | h
    · rw [Int.compare_eq_lt.2 h, Int.compare_eq_lt.2 (h1.1 h)]
    · have : p' = q' := by
        rcases Int.lt_trichotomy p' q' with h' | h' | h'
        · exact absurd (h1.2 h') (by omega)
        · exact h'
        · exact absurd (h2.2 h') (by omega)
      rw [Int.compare_eq_eq.2 h, Int.compare_eq_eq.2 this]
    · rw [Int.compare_eq_gt.2 h, Int.compare_eq_gt.2 (h2.1 h)]
  apply key <;> cases s <;> cases t <;> simp only [sgn, if_true, if_false, Bool.false_eq_true] <;> omega

/-- THE ORDER OF NUMBERS IS THAT OF THEIR SIGNS AND RUNGS. -/
theorem order_lin {x y : Nat} (hx : isN x = false) (hy : isN y = false) : double.order x y = some (compare (lin x) (lin y)) := by
  have hi : ∀ s : Bool, sgn s 0x7ff0000000000000 = if s then (-0x7ff0000000000000 : Int) else 0x7ff0000000000000 := fun s => by cases s <;> rfl
  unfold Format.order lin
  rcases not_nan hx with ⟨s, m, i, ex⟩ | ⟨s, ex⟩ <;> rcases not_nan hy with ⟨t, n, j, ey⟩ | ⟨t, ey⟩
  · obtain ⟨hs, _, hi1, hm⟩ := read_num ex
    obtain ⟨ht, _, hj1, hn⟩ := read_num ey
    rw [ex, ey, ← hs, ← ht]
    simp only [Datum.order]
    rw [← sgn_mono, ← hm, ← hn]
    congr 1
    generalize hb : min i j = base
    have hb1 : -1074 ≤ base := by omega
    rw [compare_scale _ _ (2 ^ (base + 1074).toNat) (Nat.two_pow_pos _), signed_scale, signed_scale]
    congr 3 <;> congr 1 <;> omega
  · obtain ⟨hs, hr, _, _⟩ := read_num ex
    obtain ⟨ht, hq⟩ := read_inf ey
    rw [ex, ey, ← hs, ← ht, hq]
    simp only [Datum.order]
    congr 1
    clear hs
    cases t <;> cases s <;> simp only [Bool.false_eq_true, if_false, if_true, sgn] <;> first | (rw [Int.compare_eq_lt.2]; omega) | (rw [Int.compare_eq_gt.2]; omega)
  · obtain ⟨hs, hq⟩ := read_inf ex
    obtain ⟨ht, hr, _, _⟩ := read_num ey
    rw [ex, ey, ← hs, ← ht, hq]
    simp only [Datum.order]
    congr 1
    clear hs
    cases t <;> cases s <;> simp only [Bool.false_eq_true, if_false, if_true, sgn] <;> first | (rw [Int.compare_eq_lt.2]; omega) | (rw [Int.compare_eq_gt.2]; omega)
  · obtain ⟨hs, hq⟩ := read_inf ex
    obtain ⟨ht, hr⟩ := read_inf ey
    rw [ex, ey, ← hs, ← ht, hq, hr]
    simp only [Datum.order]
    cases s <;> cases t <;> rfl

/-- THE KEY: NaN last; else by sign and rung, -0 ahead of +0. -/
def key (x : Nat) : Nat := if isN x then 2 ^ 64 - 1 else if x < 2 ^ 63 then x + 2 ^ 63 else 2 ^ 64 - 1 - x
theorem key_lt {x : Nat} (h : x < 2 ^ 64) : key x < 2 ^ 64 := by
  unfold key; split <;> (try split) <;> omega
theorem num_mod {x : Nat} (h : isN x = false) : x % 2 ^ 63 ≤ 0x7ff0000000000000 := by
  rw [isN_mod] at h; simpa using h
theorem key_inj {x y : Nat} (hx : x < 2 ^ 64) (hy : y < 2 ^ 64) (h : key x = key y) : ab x = ab y := by
  unfold key at h
  unfold ab
  cases ex : isN x <;> cases ey : isN y <;> simp only [ex, ey, if_true, if_false, Bool.false_eq_true] at h ⊢
  · congr 1
    split at h <;> split at h <;> omega
  · have := num_mod ex
    exfalso
    split at h <;> omega
  · have := num_mod ey
    exfalso
    split at h <;> omega
theorem lin_low {x : Nat} (h : x < 2 ^ 63) : lin x = x := by
  unfold lin sgn
  have h1 : x / 2 ^ 63 % 2 = 0 := by omega
  have h2 : x % 2 ^ 63 = x := by omega
  rw [h1, h2]; rfl
theorem lin_high {x : Nat} (h : 2 ^ 63 ≤ x) (h' : x < 2 ^ 64) : lin x = -((x : Int) - 2 ^ 63) := by
  unfold lin sgn
  have h1 : x / 2 ^ 63 % 2 = 1 := by omega
  have h2 : x % 2 ^ 63 = x - 2 ^ 63 := by omega
  rw [h1, h2]
  simp; omega
/-- Less, as numbers or NaN: less by the key. -/
theorem key_of_lt {x y : Nat} (hx : x < 2 ^ 64) (hy : y < 2 ^ 64) (h : ltF (ab x) (ab y) = true) : key x < key y := by
  unfold ltF at h
  rw [← order_ab] at h
  change (double.order x y == some .lt) = true at h
  cases ex : isN x
  · cases ey : isN y
    · rw [order_lin ex ey] at h
      have hc : compare (lin x) (lin y) = .lt := by simpa using h
      rw [Int.compare_eq_lt] at hc
      unfold key
      rw [ex, ey]
      simp only [Bool.false_eq_true, if_false]
      rcases Nat.lt_or_ge x (2 ^ 63) with h1 | h1 <;> rcases Nat.lt_or_ge y (2 ^ 63) with h2 | h2
      · rw [lin_low h1, lin_low h2] at hc; rw [if_pos h1, if_pos h2]; omega
      · rw [lin_low h1, lin_high h2 hy] at hc; omega
      · rw [if_neg (by omega), if_pos h2]; omega
      · rw [lin_high h1 hx, lin_high h2 hy] at hc; rw [if_neg (by omega), if_neg (by omega)]; omega
    · rw [order_nanR ey] at h; cases h
  · rw [order_nanL ex] at h; cases h
/-- Neither less, no NaN: one and the same, or the two noughts. -/
theorem zeros_of {x y : Nat} (hx : x < 2 ^ 64) (hy : y < 2 ^ 64) (ex : isN x = false) (ey : isN y = false) (h1 : ltF (ab x) (ab y) = false) (h2 : ltF (ab y) (ab x) = false) (hne : x ≠ y) :
    x % 2 ^ 63 = 0 ∧ y % 2 ^ 63 = 0 := by
  unfold ltF at h1 h2
  rw [← order_ab] at h1 h2
  change (double.order x y == some .lt) = false at h1
  change (double.order y x == some .lt) = false at h2
  rw [order_lin ex ey] at h1
  rw [order_lin ey ex] at h2
  have c1 : ¬ lin x < lin y := fun hc => by rw [Int.compare_eq_lt.2 hc] at h1; cases h1
  have c2 : ¬ lin y < lin x := fun hc => by rw [Int.compare_eq_lt.2 hc] at h2; cases h2
  rcases Nat.lt_or_ge x (2 ^ 63) with k1 | k1 <;> rcases Nat.lt_or_ge y (2 ^ 63) with k2 | k2
  · rw [lin_low k1, lin_low k2] at c1 c2; omega
  · rw [lin_low k1, lin_high k2 hy] at c1 c2; omega
  · rw [lin_high k1 hx, lin_low k2] at c1 c2; omega
  · rw [lin_high k1 hx, lin_high k2 hy] at c1 c2; omega

/-- The order as a number: -1, 0, 1. -/
def cmpK (x y : Nat) : Int := if key x < key y then -1 else if key y < key x then 1 else 0
/-- What the reference's chain of tests comes to. -/
def placeF (x y : Nat) : Int := if ab x == ab y then 0 else if isN x then 1 else if isN y || ltF (ab x) (ab y) then -1 else if ltF (ab y) (ab x) then 1 else if 2 ^ 63 ≤ x then -1 else 1
theorem key_nan {x : Nat} (h : isN x = true) : key x = 2 ^ 64 - 1 := by unfold key; rw [if_pos h]
theorem key_num {x : Nat} (h : isN x = false) (hx : x < 2 ^ 64) : key x < 2 ^ 64 - 1 := by
  have := num_mod h
  unfold key; rw [h]; simp only [Bool.false_eq_true, if_false]; split <;> omega
theorem placeF_eq {x y : Nat} (hx : x < 2 ^ 64) (hy : y < 2 ^ 64) : placeF x y = cmpK x y := by
  unfold placeF cmpK
  split
  · rename_i h
    have h' : ab x = ab y := by simpa using h
    have : key x = key y := by
      unfold ab at h'
      cases ex : isN x <;> cases ey : isN y <;> simp only [ex, ey, if_true, if_false, Bool.false_eq_true] at h'
      · injection h' with h'; rw [h']
      · cases h'
      · cases h'
      · rw [key_nan ex, key_nan ey]
    rw [this]; simp
  · rename_i h
    have h' : ab x ≠ ab y := by simpa using h
    have hk : key x ≠ key y := fun e => h' (key_inj hx hy e)
    split
    · rename_i ex
      have ey : isN y = false := by
        cases ey : isN y
        · rfl
        · exact absurd (by rw [ab_none ex, ab_none ey]) h'
      have := key_num ey hy
      rw [key_nan ex, if_neg (by omega), if_pos (by omega)]
    · rename_i ex
      have ex : isN x = false := by simpa using ex
      cases ey : isN y
      · simp only [Bool.false_or]
        split
        · rename_i hl
          rw [if_pos (key_of_lt hx hy hl)]
        · rename_i hl
          split
          · rename_i hg
            have := key_of_lt hy hx hg
            rw [if_neg (by omega), if_pos this]
          · rename_i hg
            have hne : x ≠ y := fun e => h' (by rw [e])
            obtain ⟨zx, zy⟩ := zeros_of hx hy ex ey (by simpa using hl) (by simpa using hg) hne
            unfold key
            rw [ex, ey]
            simp only [Bool.false_eq_true, if_false]
            split
            · rw [if_neg (show ¬ x < 2 ^ 63 by omega), if_pos (show y < 2 ^ 63 by omega), if_pos (by omega)]
            · rw [if_pos (show x < 2 ^ 63 by omega), if_neg (show ¬ y < 2 ^ 63 by omega), if_neg (by omega), if_pos (by omega)]
      · have := key_num ex hx
        simp only [Bool.true_or, if_true]
        rw [key_nan ey, if_pos (by omega)]
def ltK (x y : Nat) : Bool := decide (key x < key y)
end Go.Fl
