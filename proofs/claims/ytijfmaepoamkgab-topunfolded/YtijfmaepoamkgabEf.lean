/- One more modulus, however it is reckoned. No program. -/
import Derived.Test.YtijfmaepoamkgabEa
namespace Go.Proofs.Ytijfmaepoamkgab

theorem gc_same {A A' B g x y g' x' y' : Int} (h : Gc A B g x y) (h' : Gc A' B g' x' y') (hd : ∀ d, d ∣ B → (d ∣ A ↔ d ∣ A')) : g' = g := by
  have d1 : g ∣ g' := (h'.dvd g).1 (by have := (h.dvd g).2 (Int.dvd_refl g); exact ⟨(hd g this.2).1 this.1, this.2⟩)
  have d2 : g' ∣ g := (h.dvd g').1 (by have := (h'.dvd g').2 (Int.dvd_refl g'); exact ⟨(hd g' this.2).2 this.1, this.2⟩)
  exact Int.dvd_antisymm h'.nn h.nn d2 d1
theorem gc_mod {A B g x y g' x' y' : Int} (h : Gc A B g x y) (h' : Gc (A % B) B g' x' y') : g' = g :=
  gc_same h h' fun d hd => by
    have e := Int.mul_ediv_add_emod A B
    have hk : d ∣ B * (A / B) := Int.dvd_mul_of_dvd_left hd
    constructor
    · intro k
      have : A % B = A - B * (A / B) := by omega
      rw [this]; exact Int.dvd_sub k hk
    · intro k
      rw [← e]; exact Int.dvd_add hk k
theorem dvd_small {M z : Int} (h : M ∣ z) (h1 : -M < z) (h2 : z < M) : z = 0 := by
  obtain ⟨q, rfl⟩ := h
  have hM : 0 < M := by omega
  rcases (show q ≤ -1 ∨ q = 0 ∨ 1 ≤ q by omega) with k | k | k
  · have := Int.mul_le_mul_of_nonneg_left k (show 0 ≤ M by omega)
    omega
  · rw [k]; omega
  · have := Int.mul_le_mul_of_nonneg_left k (show 0 ≤ M by omega)
    omega
theorem step_any {a mm g p y x rr c b t : Int} (h : Gc a mm g p y) (ha : 1 ≤ a) (hm : 1 ≤ mm) (hx : 0 ≤ x ∧ x < a) (hc : mm ∣ c * g - (rr - x)) (hb : mm ∣ b * a - g) (ht : t = c * b % (mm / g)) : x + t * a = nextX a mm g p x rr ∧ 0 ≤ t ∧ t < mm / g := by
  obtain ⟨hg, e1, k1, e2, k2⟩ := h.parts ha hm
  have hgm : g ∣ mm := ⟨mm / g, by rw [Int.mul_comm]; exact e1.symm⟩
  have hd : g ∣ rr - x := by
    have u1 : g ∣ c * g - (rr - x) := Int.dvd_trans hgm hc
    have u2 : g ∣ c * g := ⟨c, Int.mul_comm _ _⟩
    have : rr - x = c * g - (c * g - (rr - x)) := by omega
    rw [this]; exact Int.dvd_sub u2 u1
  obtain ⟨n1, n2, n3, n4⟩ := next_ok h ha hm hx hd
  have t0 : 0 ≤ t := by rw [ht]; exact Int.emod_nonneg _ (by omega)
  have t1 : t < mm / g := by rw [ht]; exact Int.emod_lt_of_pos _ (by omega)
  have hX : mm ∣ x + t * a - rr := by
    obtain ⟨z1, hz1⟩ := hc
    obtain ⟨z2, hz2⟩ := hb
    have et := Int.mul_ediv_add_emod (c * b) (mm / g)
    rw [← ht] at et
    refine ⟨z1 + c * z2 - a / g * (c * b / (mm / g)), ?_⟩
    generalize c * b / (mm / g) = q at *
    generalize hpp : mm / g = part at *
    generalize hag : a / g = ag at *
    have w1 : t = c * b - part * q := by omega
    rw [w1]
    have w2 : part * a = mm * ag := by rw [← e2, ← e1]; grind
    have w3 : (c * b - part * q) * a = c * (b * a) - (part * a) * q := by grind
    have w4 : b * a = g + mm * z2 := by omega
    rw [show x + (c * b - part * q) * a - rr = (c * b - part * q) * a - (rr - x) by omega, w3, w4, w2]
    have w5 : rr - x = c * g - mm * z1 := by omega
    rw [w5]; grind
  have hA : a ∣ x + t * a - x := ⟨t, by rw [Int.mul_comm]; omega⟩
  have hN : a * (mm / g) ∣ (x + t * a) - nextX a mm g p x rr := by
    refine h.lcm ha hm ?_ ?_
    · have : x + t * a - nextX a mm g p x rr = (x + t * a - x) - (nextX a mm g p x rr - x) := by omega
      rw [this]; exact Int.dvd_sub hA n3
    · have : x + t * a - nextX a mm g p x rr = (x + t * a - rr) - (nextX a mm g p x rr - rr) := by omega
      rw [this]; exact Int.dvd_sub hX n4
  have r0 : 0 ≤ t * a := Int.mul_nonneg t0 (by omega)
  have r1 : (t + 1) * a ≤ mm / g * a := Int.mul_le_mul_of_nonneg_right (by omega) (by omega)
  have r2 : x + t * a < a * (mm / g) := by grind
  refine ⟨?_, t0, t1⟩
  have hz : (x + t * a - nextX a mm g p x rr) = 0 := dvd_small hN (by omega) (by omega)
  omega
/-- What a step tells. -/
def stepF (x a rr mm : Int) : Int × Int × Int :=
  if (rr - x) % (eucl a 1 0 mm 0 1).1 ≠ 0 then (0, 0, 100)
  else if 4611686018427387904 < a * (mm / (eucl a 1 0 mm 0 1).1) then (0, 0, 3)
  else (nextX a mm (eucl a 1 0 mm 0 1).1 (eucl a 1 0 mm 0 1).2.1 x rr, a * (mm / (eucl a 1 0 mm 0 1).1), 0)
theorem joinF_next (r m : Nat → Int) (i : Nat) (h0 : (joinF r m i).2.2 = 0) (hm : 1 ≤ m i ∧ m i ≤ 1099511627776) : joinF r m (i + 1) = stepF (joinF r m i).1 (joinF r m i).2.1 (r i) (m i) := by
  rw [joinF, if_neg (by simp [h0]), if_neg (by omega)]
  rfl
theorem joinF_bad (r m : Nat → Int) (i : Nat) (h0 : (joinF r m i).2.2 = 0) (hm : ¬ (1 ≤ m i ∧ m i ≤ 1099511627776)) : joinF r m (i + 1) = (0, 0, 2) := by
  rw [joinF, if_neg (by simp [h0]), if_pos (by omega)]
theorem joinF_over (r m : Nat → Int) (i : Nat) (h0 : (joinF r m i).2.2 ≠ 0) : ∀ n, joinF r m (i + n) = joinF r m i
  | 0 => rfl
  | n + 1 => by
    have ih := joinF_over r m i h0 n
    rw [← Nat.add_assoc, joinF, ih, if_pos h0]
theorem step_mod {x a rr mm : Int} (ha : 1 ≤ a) (hm : 1 ≤ mm) (hx : 0 ≤ x ∧ x < a) : stepF x a (rr % mm) mm = stepF x a rr mm := by
  have hg := eucl_told (A := a) (B := mm) (by omega) (by omega)
  unfold stepF
  generalize eucl a 1 0 mm 0 1 = E at *
  obtain ⟨g1, e1, k1, e2, k2⟩ := hg.parts ha hm
  have hgm : E.1 ∣ mm := ⟨mm / E.1, by rw [Int.mul_comm]; exact e1.symm⟩
  have e := Int.mul_ediv_add_emod rr mm
  have hs : (rr % mm - x) % E.1 = (rr - x) % E.1 := by
    have : rr - x = (rr % mm - x) + mm * (rr / mm) := by omega
    rw [this, Int.add_emod, Int.emod_eq_zero_of_dvd (Int.dvd_mul_of_dvd_left hgm), Int.add_zero, Int.emod_emod]
  rw [hs]
  by_cases h1 : (rr - x) % E.1 ≠ 0
  · rw [if_pos h1, if_pos h1]
  · rw [if_neg h1, if_neg h1]
    by_cases h2 : 4611686018427387904 < a * (mm / E.1)
    · rw [if_pos h2, if_pos h2]
    · rw [if_neg h2, if_neg h2]
      have hd : E.1 ∣ rr % mm - x := Int.dvd_of_emod_eq_zero (by omega)
      obtain ⟨c, hc⟩ := hd
      have hb : mm ∣ E.2.1 * a - E.1 := ⟨-E.2.2, by have := hg.make; grind⟩
      have s1 := step_any (rr := rr) (c := c) (b := E.2.1) hg ha hm hx ⟨-(rr / mm), by rw [Int.mul_comm c, ← hc]; grind⟩ hb rfl
      have s2 := step_any (rr := rr % mm) (c := c) (b := E.2.1) hg ha hm hx ⟨0, by rw [Int.mul_comm c, ← hc]; omega⟩ hb rfl
      rw [← s1.1, ← s2.1]
end Go.Proofs.Ytijfmaepoamkgab
