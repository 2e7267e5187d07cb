/- Euclid's steps over rows of three numbers; what they tell, and how great their numbers may be. No program. -/
import Derived.KernelRfl
namespace Go.Proofs.Ytpahjenfkgcdlab

/-- The state of the steps: two rows, of A and B; s is 1 or -1, by the place. -/
structure Eu (A B a x y b u v s : Int) : Prop where
  ha : a = x * A + y * B
  hb : b = u * A + v * B
  det : x * v - y * u = s
  a0 : 0 ≤ a
  b0 : 0 ≤ b
  sg : s = 1 ∧ 0 ≤ x ∧ u ≤ 0 ∧ y ≤ 0 ∧ 0 ≤ v ∨ s = -1 ∧ x ≤ 0 ∧ 0 ≤ u ∧ 0 ≤ y ∧ v ≤ 0
theorem Eu.start {A B : Int} (hA : 0 ≤ A) (hB : 0 ≤ B) : Eu A B A 1 0 B 0 1 1 := ⟨by grind, by grind, by grind, hA, hB, Or.inl (by omega)⟩
theorem Eu.step {A B a x y b u v s : Int} (h : Eu A B a x y b u v s) (hb : 0 < b) : Eu A B b u v (a - a / b * b) (x - a / b * u) (y - a / b * v) (-s) := by
  obtain ⟨h1, h2, h3, h4, h5, h6⟩ := h
  have hq : 0 ≤ a / b := Int.ediv_nonneg h4 h5
  generalize hqq : a / b = q at *
  have hr : 0 ≤ a - q * b := by
    have := Int.emod_nonneg a (show b ≠ 0 by omega)
    have e := Int.mul_ediv_add_emod a b
    rw [hqq] at e
    grind
  refine ⟨h2, by grind, by grind, h5, hr, ?_⟩
  rcases h6 with ⟨rfl, k1, k2, k3, k4⟩ | ⟨rfl, k1, k2, k3, k4⟩
  · have e1 : q * u ≤ 0 := Int.mul_nonpos_of_nonneg_of_nonpos hq k2
    have e2 : 0 ≤ q * v := Int.mul_nonneg hq k4
    exact Or.inr ⟨rfl, k2, by omega, k4, by omega⟩
  · have e1 : 0 ≤ q * u := Int.mul_nonneg hq k2
    have e2 : q * v ≤ 0 := Int.mul_nonpos_of_nonneg_of_nonpos hq k4
    exact Or.inl ⟨by omega, k2, by omega, k4, by omega⟩
theorem Eu.less (a : Int) {b : Int} (hb : 0 < b) : a - a / b * b < b ∧ 0 ≤ a - a / b * b := by
  have e := Int.mul_ediv_add_emod a b
  have h1 := Int.emod_nonneg a (show b ≠ 0 by omega)
  have h2 := Int.emod_lt_of_pos a hb
  have : a - a / b * b = a % b := by grind
  omega
/-- a times |v| and b times |y| are A together; b times |x| and a times |u| are B together. -/
theorem Eu.sums {A B a x y b u v s : Int} (h : Eu A B a x y b u v s) : a * v - b * y = s * A ∧ b * x - a * u = s * B := by
  obtain ⟨h1, h2, h3, h4, h5, h6⟩ := h
  subst h1 h2 h3
  constructor <;> grind
theorem le_of_mul {a k N : Int} (ha : 1 ≤ a) (hk : 0 ≤ k) (h : a * k ≤ N) : k ≤ N := by
  have : 1 * k ≤ a * k := Int.mul_le_mul_of_nonneg_right ha hk
  omega
/-- The second row's numbers, where the first row's first is not 0. -/
theorem Eu.bound {A B a x y b u v s : Int} (h : Eu A B a x y b u v s) (ha : 1 ≤ a) : -B ≤ u ∧ u ≤ B ∧ -A ≤ v ∧ v ≤ A := by
  obtain ⟨e1, e2⟩ := h.sums
  obtain ⟨h1, h2, h3, h4, h5, h6⟩ := h
  rcases h6 with ⟨rfl, k1, k2, k3, k4⟩ | ⟨rfl, k1, k2, k3, k4⟩
  · have m1 : 0 ≤ b * -y := Int.mul_nonneg h5 (by omega)
    have m2 : 0 ≤ b * x := Int.mul_nonneg h5 k1
    have m3 : 0 ≤ a * v := Int.mul_nonneg h4 k4
    have m4 : 0 ≤ a * -u := Int.mul_nonneg h4 (by omega)
    have f1 : a * v ≤ A := by grind
    have f2 : a * -u ≤ B := by grind
    have g1 := le_of_mul ha k4 f1
    have g2 := le_of_mul ha (by omega) f2
    omega
  · have m1 : 0 ≤ b * y := Int.mul_nonneg h5 k3
    have m2 : 0 ≤ b * -x := Int.mul_nonneg h5 (by omega)
    have f1 : a * -v ≤ A := by grind
    have f2 : a * u ≤ B := by grind
    have g1 := le_of_mul ha (by omega) f1
    have g2 := le_of_mul ha k2 f2
    omega
/-- The common divisors of the two first numbers are those of A and B. -/
theorem Eu.dvd {A B a x y b u v s : Int} (h : Eu A B a x y b u v s) (d : Int) : (d ∣ A ∧ d ∣ B) ↔ (d ∣ a ∧ d ∣ b) := by
  obtain ⟨e1, e2⟩ := h.sums
  obtain ⟨h1, h2, h3, h4, h5, h6⟩ := h
  constructor
  · rintro ⟨⟨p, rfl⟩, ⟨q, rfl⟩⟩
    exact ⟨⟨x * p + y * q, by rw [h1]; grind⟩, ⟨u * p + v * q, by rw [h2]; grind⟩⟩
  · rintro ⟨⟨p, hp⟩, ⟨q, hq⟩⟩
    have hs : s * s = 1 := by rcases h6 with ⟨rfl, _⟩ | ⟨rfl, _⟩ <;> rfl
    refine ⟨⟨s * (p * v - q * y), ?_⟩, ⟨s * (q * x - p * u), ?_⟩⟩
    · have : s * (s * A) = s * (a * v - b * y) := by rw [e1]
      rw [hp, hq] at this
      grind
    · have : s * (s * B) = s * (b * x - a * u) := by rw [e2]
      rw [hp, hq] at this
      grind
/-- The steps: told is the first row. -/
def eucl (a x y b u v : Int) : Int × Int × Int :=
  if 0 < b then eucl b u v (a - a / b * b) (x - a / b * u) (y - a / b * v) else (a, x, y)
  termination_by b.toNat
  decreasing_by
    have := Eu.less a ‹_›
    omega
theorem eucl_zero (a x y u v : Int) : eucl a x y 0 u v = (a, x, y) := by
  unfold eucl
  simp
theorem eucl_step {a x y b u v : Int} (hb : 0 < b) : eucl a x y b u v = eucl b u v (a - a / b * b) (x - a / b * u) (y - a / b * v) := by
  rw [eucl]
  simp [hb]
/-- What the steps tell: the greatest common divisor, made out of A and B. -/
structure Gc (A B g x y : Int) : Prop where
  make : A * x + B * y = g
  nn : 0 ≤ g
  dvd : ∀ d, (d ∣ A ∧ d ∣ B) ↔ d ∣ g
  bx : -(max B 1) ≤ x ∧ x ≤ max B 1
  bY : -(max A 1) ≤ y ∧ y ≤ max A 1
theorem eucl_gc {A B : Int} : ∀ (n : Nat) {a x y b u v s : Int}, b.toNat ≤ n → Eu A B a x y b u v s → (-(max B 1) ≤ x ∧ x ≤ max B 1 ∧ -(max A 1) ≤ y ∧ y ≤ max A 1) → (-(max B 1) ≤ u ∧ u ≤ max B 1 ∧ -(max A 1) ≤ v ∧ v ≤ max A 1) → Gc A B (eucl a x y b u v).1 (eucl a x y b u v).2.1 (eucl a x y b u v).2.2 := by
  intro n
  induction n with
  | zero =>
    intro a x y b u v s hn h hx hu
    have b0 := h.b0
    obtain rfl : b = 0 := by omega
    rw [eucl_zero]
    refine ⟨?_, h.a0, fun d => ?_, ⟨hx.1, hx.2.1⟩, hx.2.2⟩
    · show A * x + B * y = a
      have := h.ha; grind
    · rw [h.dvd d]
      exact ⟨fun k => k.1, fun k => ⟨k, Int.dvd_zero d⟩⟩
  | succ n ih =>
    intro a x y b u v s hn h hx hu
    have b0 := h.b0
    by_cases hb : b = 0
    · subst hb
      rw [eucl_zero]
      refine ⟨?_, h.a0, fun d => ?_, ⟨hx.1, hx.2.1⟩, hx.2.2⟩
      · show A * x + B * y = a
        have := h.ha; grind
      · rw [h.dvd d]
        exact ⟨fun k => k.1, fun k => ⟨k, Int.dvd_zero d⟩⟩
    · have hb' : 0 < b := by omega
      rw [eucl_step hb']
      have hl := Eu.less a hb'
      have hs := h.step hb'
      have hbd := hs.bound (by omega)
      exact ih (by omega) hs hu (by omega)
theorem eucl_told {A B : Int} (hA : 0 ≤ A) (hB : 0 ≤ B) : Gc A B (eucl A 1 0 B 0 1).1 (eucl A 1 0 B 0 1).2.1 (eucl A 1 0 B 0 1).2.2 :=
  eucl_gc B.toNat (Nat.le_refl _) (Eu.start hA hB) (by omega) (by omega)
end Go.Proofs.Ytpahjenfkgcdlab
