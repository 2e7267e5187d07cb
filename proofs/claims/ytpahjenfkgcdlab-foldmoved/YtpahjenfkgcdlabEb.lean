/- Numbers that are told by their remainders: one more modulus, and lists of them. No program. -/
import Derived.Test.YtpahjenfkgcdlabEa
namespace Go.Proofs.Ytpahjenfkgcdlab

theorem Gc.parts {A B g x y : Int} (h : Gc A B g x y) (hA : 1 ≤ A) (hB : 1 ≤ B) : 1 ≤ g ∧ B / g * g = B ∧ 1 ≤ B / g ∧ A / g * g = A ∧ 1 ≤ A / g := by
  obtain ⟨d1, d2⟩ := (h.dvd g).2 (Int.dvd_refl g)
  have hg : 1 ≤ g := by
    have h0 := h.nn
    rcases Int.lt_or_eq_of_le h0 with h | h
    · omega
    · subst h
      have := Int.zero_dvd.1 d1
      omega
  have e1 := Int.ediv_mul_cancel d2
  have e2 := Int.ediv_mul_cancel d1
  refine ⟨hg, e1, ?_, e2, ?_⟩
  · rcases Int.lt_or_le (B / g) 1 with k | k
    · have : B / g * g ≤ 0 := Int.mul_nonpos_of_nonpos_of_nonneg (by omega) (by omega)
      omega
    · exact k
  · rcases Int.lt_or_le (A / g) 1 with k | k
    · have : A / g * g ≤ 0 := Int.mul_nonpos_of_nonpos_of_nonneg (by omega) (by omega)
      omega
    · exact k
/-- What both divide, A times B's part divides. -/
theorem Gc.lcm {A B g x y : Int} (h : Gc A B g x y) (hA : 1 ≤ A) (hB : 1 ≤ B) {Z : Int} (h1 : A ∣ Z) (h2 : B ∣ Z) : A * (B / g) ∣ Z := by
  obtain ⟨hg, e1, k1, e2, k2⟩ := h.parts hA hB
  have hm := h.make
  obtain ⟨z, rfl⟩ := h1
  obtain ⟨w, hw⟩ := h2
  generalize B / g = b at *
  generalize A / g = a at *
  subst e1 e2
  have hne : g ≠ 0 := by omega
  -- a z = b w, and a x + b y = 1
  have f1 : a * z = b * w := Int.eq_of_mul_eq_mul_left hne (by grind)
  have f2 : a * x + b * y = 1 := Int.eq_of_mul_eq_mul_left hne (by grind)
  refine ⟨w * x + y * z, ?_⟩
  have : z = b * (w * x + y * z) := by
    have : z = z * (a * x + b * y) := by rw [f2]; grind
    grind
  have e : a * g * b * (w * x + y * z) = a * g * (b * (w * x + y * z)) := by grind
  rw [e, ← this]
theorem dvd_both {A B g x y : Int} (h : Gc A B g x y) (hA : 1 ≤ A) (hB : 1 ≤ B) : A ∣ A * (B / g) ∧ B ∣ A * (B / g) := by
  obtain ⟨hg, e1, k1, e2, k2⟩ := h.parts hA hB
  refine ⟨⟨_, rfl⟩, ⟨A / g, ?_⟩⟩
  generalize B / g = b at *
  generalize A / g = a at *
  subst e1 e2
  grind
/-- One more modulus: the next number. -/
def nextX (A B g p x r : Int) : Int := x + A * ((r - x) / g * p % (B / g))
theorem next_ok {A B g p y x r : Int} (h : Gc A B g p y) (hA : 1 ≤ A) (hB : 1 ≤ B) (hx : 0 ≤ x ∧ x < A) (hd : g ∣ r - x) :
    0 ≤ nextX A B g p x r ∧ nextX A B g p x r < A * (B / g) ∧ A ∣ nextX A B g p x r - x ∧ B ∣ nextX A B g p x r - r := by
  obtain ⟨hg, e1, k1, e2, k2⟩ := h.parts hA hB
  have hm := h.make
  unfold nextX
  obtain ⟨d, hd⟩ := hd
  have hdg : (r - x) / g = d := by rw [hd]; exact Int.mul_ediv_cancel_left d (by omega)
  rw [hdg]
  have t0 := Int.emod_nonneg (d * p) (show B / g ≠ 0 by omega)
  have t1 := Int.emod_lt_of_pos (d * p) (show 0 < B / g by omega)
  have hq := Int.mul_ediv_add_emod (d * p) (B / g)
  generalize (d * p) % (B / g) = t at *
  generalize (d * p) / (B / g) = q at *
  generalize B / g = b at *
  generalize A / g = a at *
  have m0 : 0 ≤ A * t := Int.mul_nonneg (by omega) t0
  have m1 : A * t ≤ A * (b - 1) := Int.mul_le_mul_of_nonneg_left (by omega) (by omega)
  have m2 : A * (b - 1) = A * b - A := by grind
  refine ⟨by omega, by omega, ⟨t, by omega⟩, ⟨-(a * q) - d * y, ?_⟩⟩
  -- x + A t - r = A t - g d, A t = A d p - A b q, A p = g - B y
  have f1 : A * t = A * (d * p) - A * (b * q) := by grind
  have f2 : A * (d * p) = d * g - d * (B * y) := by grind
  have f3 : A * (b * q) = B * (a * q) := by subst e1 e2; grind
  grind
theorem next_need {A B g p y x r X : Int} (h : Gc A B g p y) (h1 : A ∣ X - x) (h2 : B ∣ X - r) : g ∣ r - x := by
  obtain ⟨d1, d2⟩ := (h.dvd g).2 (Int.dvd_refl g)
  have e : r - x = (X - x) - (X - r) := by omega
  rw [e]
  exact Int.dvd_sub (Int.dvd_trans d1 h1) (Int.dvd_trans d2 h2)
/-- What a list of remainders and moduli tells so far. -/
structure JI (r m : Nat → Int) (i : Nat) (x all : Int) : Prop where
  one : 1 ≤ all
  lo : 0 ≤ x
  hi : x < all
  pos : ∀ j, j < i → 1 ≤ m j
  dv : ∀ j, j < i → m j ∣ all
  re : ∀ j, j < i → m j ∣ x - r j
  least : ∀ Z, (∀ j, j < i → m j ∣ Z) → all ∣ Z
theorem JI.zero (r m : Nat → Int) : JI r m 0 0 1 := ⟨by omega, by omega, by omega, fun j hj => by omega, fun j hj => by omega, fun j hj => by omega, fun Z _ => Int.one_dvd Z⟩
theorem JI.uniq {r m : Nat → Int} {i : Nat} {x all X : Int} (h : JI r m i x all) (hX : ∀ j, j < i → m j ∣ X - r j) : X % all = x := by
  have d : all ∣ X - x := h.least _ fun j hj => by
    have e : X - x = (X - r j) - (x - r j) := by omega
    rw [e]
    exact Int.dvd_sub (hX j hj) (h.re j hj)
  have e1 := Int.emod_emod_of_dvd X (Int.dvd_refl all)
  have e2 : X % all = x % all := Int.emod_eq_emod_iff_emod_sub_eq_zero.2 (Int.emod_eq_zero_of_dvd d)
  rw [e2]
  exact Int.emod_eq_of_lt h.lo h.hi
theorem JI.same {r m : Nat → Int} {i : Nat} {x all x' all' : Int} (h : JI r m i x all) (h' : JI r m i x' all') : x = x' ∧ all = all' := by
  have d1 := h.least _ h'.dv
  have d2 := h'.least _ h.dv
  have l1 := Int.le_of_dvd (by have := h'.one; omega) d1
  have l2 := Int.le_of_dvd (by have := h.one; omega) d2
  obtain rfl : all = all' := by omega
  have := h.uniq h'.re
  rw [Int.emod_eq_of_lt h'.lo h'.hi] at this
  exact ⟨this.symm, rfl⟩
theorem JI.next {r m : Nat → Int} {i : Nat} {x all g p y : Int} (h : JI r m i x all) (hm : 1 ≤ m i) (hg : Gc all (m i) g p y) (hd : g ∣ r i - x) : JI r m (i + 1) (nextX all (m i) g p x (r i)) (all * (m i / g)) := by
  obtain ⟨n1, n2, n3, n4⟩ := next_ok hg h.one hm ⟨h.lo, h.hi⟩ hd
  obtain ⟨v1, v2⟩ := dvd_both hg h.one hm
  refine ⟨by omega, n1, n2, fun j hj => ?_, fun j hj => ?_, fun j hj => ?_, fun Z hZ => ?_⟩
  · by_cases e : j = i
    · subst e; exact hm
    · exact h.pos j (by omega)
  · by_cases e : j = i
    · subst e; exact v2
    · exact Int.dvd_trans (h.dv j (by omega)) v1
  · by_cases e : j = i
    · subst e; exact n4
    · have e2 : nextX all (m i) g p x (r i) - r j = (nextX all (m i) g p x (r i) - x) + (x - r j) := by omega
      rw [e2]
      exact Int.dvd_add (Int.dvd_trans (h.dv j (by omega)) n3) (h.re j (by omega))
  · exact hg.lcm h.one hm (h.least Z fun j hj => hZ j (by omega)) (hZ i (by omega))
/-- Any other number that has these remainders and is below is the next one. -/
theorem JI.next' {r m : Nat → Int} {i : Nat} {x all g p y X : Int} (h : JI r m i x all) (hm : 1 ≤ m i) (hg : Gc all (m i) g p y) (h0 : 0 ≤ X) (h1 : X < all * (m i / g)) (h2 : all ∣ X - x) (h3 : m i ∣ X - r i) : JI r m (i + 1) X (all * (m i / g)) := by
  have hn := h.next hm hg (next_need hg h2 h3)
  have e := hn.uniq (X := X) fun j hj => by
    by_cases e : j = i
    · subst e; exact h3
    · have e2 : X - r j = (X - x) + (x - r j) := by omega
      rw [e2]
      exact Int.dvd_add (Int.dvd_trans (h.dv j (by omega)) h2) (h.re j (by omega))
  rw [Int.emod_eq_of_lt h0 h1] at e
  rw [e]; exact hn
/-- Join, step by step: x, all and the code. -/
def joinF (r m : Nat → Int) : Nat → Int × Int × Int
  | 0 => (0, 1, 0)
  | i + 1 =>
    if (joinF r m i).2.2 ≠ 0 then joinF r m i
    else if m i < 1 ∨ 1099511627776 < m i then (0, 0, 2)
    else if (r i - (joinF r m i).1) % (eucl (joinF r m i).2.1 1 0 (m i) 0 1).1 ≠ 0 then (0, 0, 100)
    else if 4611686018427387904 < (joinF r m i).2.1 * (m i / (eucl (joinF r m i).2.1 1 0 (m i) 0 1).1) then (0, 0, 3)
    else (nextX (joinF r m i).2.1 (m i) (eucl (joinF r m i).2.1 1 0 (m i) 0 1).1 (eucl (joinF r m i).2.1 1 0 (m i) 0 1).2.1 (joinF r m i).1 (r i), (joinF r m i).2.1 * (m i / (eucl (joinF r m i).2.1 1 0 (m i) 0 1).1), 0)
theorem join_inv (r m : Nat → Int) : ∀ i x all, joinF r m i = (x, all, 0) → JI r m i x all ∧ all ≤ 4611686018427387904 := by
  intro i
  induction i with
  | zero =>
    intro x all h
    simp only [joinF, Prod.mk.injEq] at h
    obtain ⟨rfl, rfl, _⟩ := h
    exact ⟨JI.zero r m, by omega⟩
  | succ i ih =>
    intro x all h
    obtain ⟨x0, a0, c0, hs⟩ : ∃ x0 a0 c0, joinF r m i = (x0, a0, c0) := ⟨_, _, _, rfl⟩
    rw [joinF] at h
    simp only [hs] at h
    by_cases hc : c0 = 0
    · subst hc
      obtain ⟨hJ, hb⟩ := ih _ _ hs
      rw [if_neg (by simp)] at h
      by_cases h1 : m i < 1 ∨ 1099511627776 < m i
      · rw [if_pos h1] at h; simp at h
      · rw [if_neg h1] at h
        have hg := eucl_told (A := a0) (B := m i) (by have := hJ.one; omega) (by omega)
        generalize eucl a0 1 0 (m i) 0 1 = E at *
        by_cases h2 : (r i - x0) % E.1 ≠ 0
        · rw [if_pos h2] at h; simp at h
        · rw [if_neg h2] at h
          by_cases h3 : 4611686018427387904 < a0 * (m i / E.1)
          · rw [if_pos h3] at h; simp at h
          · rw [if_neg h3] at h
            simp only [Prod.mk.injEq, and_true] at h
            obtain ⟨rfl, rfl⟩ := h
            exact ⟨hJ.next (by omega) hg (Int.dvd_of_emod_eq_zero (by omega)), by omega⟩
    · rw [if_pos hc] at h
      simp only [Prod.mk.injEq] at h
      omega
/-- Where a number has all remainders, and all common multiples are small enough, Join tells it. -/
theorem join_of (r m : Nat → Int) (X : Int) : ∀ i, (∀ j, j < i → 1 ≤ m j ∧ m j ≤ 4096) → i ≤ 5 → (∀ j, j < i → m j ∣ X - r j) → ∃ all, joinF r m i = (X % all, all, 0) ∧ all ≤ 4096 ^ i := by
  intro i
  induction i with
  | zero => intro _ _ _; exact ⟨1, by simp [joinF, Int.emod_one], by omega⟩
  | succ i ih =>
    intro hm hi hX
    obtain ⟨a0, hs, hb⟩ := ih (fun j hj => hm j (by omega)) (by omega) (fun j hj => hX j (by omega))
    obtain ⟨hJ, _⟩ := join_inv r m i _ _ hs
    have hmi := hm i (by omega)
    have hg := eucl_told (A := a0) (B := m i) (by have := hJ.one; omega) (by omega)
    rw [joinF]
    simp only [hs]
    generalize eucl a0 1 0 (m i) 0 1 = E at *
    have hd : E.1 ∣ r i - X % a0 := next_need hg (X := X) (by
      rw [Int.emod_def]
      exact ⟨X / a0, by omega⟩) (hX i (by omega))
    have hn := hJ.next (by omega) hg hd
    obtain ⟨q1, q2, q3, q4, q5⟩ := hg.parts hJ.one (by omega)
    have hle : m i / E.1 ≤ 4096 := by
      have : m i / E.1 * 1 ≤ m i / E.1 * E.1 := Int.mul_le_mul_of_nonneg_left q1 (by omega)
      omega
    have hbn : a0 * (m i / E.1) ≤ 4096 ^ i * 4096 := Int.mul_le_mul hb hle (by omega) (Int.pow_nonneg (by omega))
    have hpow : (4096 : Int) ^ (i + 1) = 4096 ^ i * 4096 := Int.pow_succ 4096 i
    have hbig : (4096 : Int) ^ i * 4096 ≤ 4611686018427387904 := by
      obtain rfl | rfl | rfl | rfl | rfl : i = 0 ∨ i = 1 ∨ i = 2 ∨ i = 3 ∨ i = 4 := by omega
      all_goals decide
    refine ⟨a0 * (m i / E.1), ?_, by omega⟩
    rw [if_neg (by simp), if_neg (by omega), if_neg (by have := Int.emod_eq_zero_of_dvd hd; omega), if_neg (by omega)]
    rw [hn.uniq hX]
/-- What is refused as unlike has no number. -/
theorem join_none (r m : Nat → Int) (X : Int) : ∀ i, (∀ j, j < i → m j ∣ X - r j) → (joinF r m i).2.2 ≠ 100 := by
  intro i
  induction i with
  | zero => intro _; simp [joinF]
  | succ i ih =>
    intro hX
    have ih2 := ih fun j hj => hX j (by omega)
    obtain ⟨x0, a0, c0, hs⟩ : ∃ x0 a0 c0, joinF r m i = (x0, a0, c0) := ⟨_, _, _, rfl⟩
    rw [joinF]
    simp only [hs] at ih2 ⊢
    by_cases hc : c0 = 0
    · subst hc
      obtain ⟨hJ, hb⟩ := join_inv r m i _ _ hs
      rw [if_neg (by simp)]
      by_cases h1 : m i < 1 ∨ 1099511627776 < m i
      · rw [if_pos h1]; simp
      · rw [if_neg h1]
        have hg := eucl_told (A := a0) (B := m i) (by have := hJ.one; omega) (by omega)
        generalize eucl a0 1 0 (m i) 0 1 = E at *
        have hd : E.1 ∣ r i - x0 := next_need hg (X := X) (by
          have e := hJ.uniq (X := X) fun j hj => hX j (by omega)
          rw [Int.emod_def] at e
          exact ⟨X / a0, by omega⟩) (hX i (by omega))
        rw [if_neg (by have := Int.emod_eq_zero_of_dvd hd; omega)]
        by_cases h3 : 4611686018427387904 < a0 * (m i / E.1)
        · rw [if_pos h3]; simp
        · rw [if_neg h3]; simp
    · rw [if_pos hc]; exact ih2
end Go.Proofs.Ytpahjenfkgcdlab
