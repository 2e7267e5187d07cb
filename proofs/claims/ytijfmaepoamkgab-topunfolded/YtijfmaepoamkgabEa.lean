/- Euclid's steps over rows of three numbers; what they tell, and how great their numbers may be. No program. -/
import Derived.KernelRfl
namespace Go.Proofs.Ytijfmaepoamkgab

/-- The state of the steps: two rows, of A and B; s is 1 or -1, by the place. -/
structure Eu (A B a x y b u v s : Int) : Prop where
  ha : a = x * A + y * B
  hb : b = u * A + v * B
  det : x * v - y * u = s
  a0 : 0 ≤ a
  b0 : 0 ≤ b
  sg : s = 1 ∧ 0 ≤ x ∧ u ≤ 0 ∧ y ≤ 0 ∧ 0 ≤ v ∨ s = -1 ∧ x ≤ 0 ∧ 0 ≤ u ∧ 0 ≤ y ∧ v ≤ 0
theorem Eu.start {A B : Int} (hA : 0 ≤ A) (hB : 0 ≤ B) : Eu A B A 1 0 B 0 1 1 := ⟨by grind, by grind, by grind, hA, hB, Or.inl (by omega)⟩
theorem Eu.step {A B a x y b u v s : Int} (h : Eu A B a x y b u v s) (hb : 0 < b) : Eu A B b u v (a - a / b * b) (x - a / b * u) (y - a / b * v) (-s) := by
  obtain ⟨h1, h2, h3, h4, h5, h6⟩ := h
  have hq : 0 ≤ a / b := Int.ediv_nonneg h4 h5
  generalize hqq : a / b = q at *
  have hr : 0 ≤ a - q * b := by
    have := Int.emod_nonneg a (show b ≠ 0 by omega)
    have e := Int.mul_ediv_add_emod a b
    rw [hqq] at e
    grind
  refine ⟨h2, by grind, by grind, h5, hr, ?_⟩
  rcases h6 with ⟨rfl, k1, k2, k3, k4⟩ | ⟨rfl, k1, k2, k3, k4⟩
  · have e1 : q * u ≤ 0 := Int.mul_nonpos_of_nonneg_of_nonpos hq k2
    have e2 : 0 ≤ q * v := Int.mul_nonneg hq k4
    exact Or.inr ⟨rfl, k2, by omega, k4, by omega⟩
  · have e1 : 0 ≤ q * u := Int.mul_nonneg hq k2
    have e2 : q * v ≤ 0 := Int.mul_nonpos_of_nonneg_of_nonpos hq k4
    exact Or.inl ⟨by omega, k2, by omega, k4, by omega⟩
theorem Eu.less (a : Int) {b : Int} (hb : 0 < b) : a - a / b * b < b ∧ 0 ≤ a - a / b * b := by
  have e := Int.mul_ediv_add_emod a b
  have h1 := Int.emod_nonneg a (show b ≠ 0 by omega)
  have h2 := Int.emod_lt_of_pos a hb
  have : a - a / b * b = a % b := by grind
  omega
/-- a times |v| and b times |y| are A together; b times |x| and a times |u| are B together. -/
theorem Eu.sums {A B a x y b u v s : Int} (h : Eu A B a x y b u v s) : a * v - b * y = s * A ∧ b * x - a * u = s * B := by
  obtain ⟨h1, h2, h3, h4, h5, h6⟩ := h
  subst h1 h2 h3
  constructor <;> grind
theorem le_of_mul {a k N : Int} (ha : 1 ≤ a) (hk : 0 ≤ k) (h : a * k ≤ N) : k ≤ N := by
  have : 1 * k ≤ a * k := Int.mul_le_mul_of_nonneg_right ha hk
  omega
/-- The second row's numbers, where the first row's first is not 0. -/
theorem Eu.bound {A B a x y b u v s : Int} (h : Eu A B a x y b u v s) (ha : 1 ≤ a) : -B ≤ u ∧ u ≤ B ∧ -A ≤ v ∧ v ≤ A := by
  obtain ⟨e1, e2⟩ := h.sums
  obtain ⟨h1, h2, h3, h4, h5, h6⟩ := h
  rcases h6 with ⟨rfl, k1, k2, k3, k4⟩ | ⟨rfl, k1, k2, k3, k4⟩
  · have m1 : 0 ≤ b * -y := Int.mul_nonneg h5 (by omega)
    have m2 : 0 ≤ b * x := Int.mul_nonneg h5 k1
    have m3 : 0 ≤ a * v := Int.mul_nonneg h4 k4
    have m4 : 0 ≤ a * -u := Int.mul_nonneg h4 (by omega)
    have f1 : a * v ≤ A := by grind
    have f2 : a * -u ≤ B := by grind
    have g1 := le_of_mul ha k4 f1
    have g2 := le_of_mul ha (by omega) f2
    omega
  · have m1 : 0 ≤ b * y := Int.mul_nonneg h5 k3
    have m2 : 0 ≤ b * -x := Int.mul_nonneg h5 (by omega)
    have f1 : a * -v ≤ A := by grind
    have f2 : a * u ≤ B := by grind
    have g1 := le_of_mul ha (by omega) f1
    have g2 := le_of_mul ha k2 f2
    omega
/-- The common divisors of the two first numbers are those of A and B. -/
theorem Eu.dvd {A B a x y b u v s : Int} (h : Eu A B a x y b u v s) (d : Int) : (d ∣ A ∧ d ∣ B) ↔ (d ∣ a ∧ d ∣ b) := by
  obtain ⟨e1, e2⟩ := h.sums
  obtain ⟨h1, h2, h3, h4, h5, h6⟩ := h
  constructor
  · rintro ⟨⟨p, rfl⟩, ⟨q, rfl⟩⟩
    exact ⟨⟨x * p + y * q, by rw [h1]; grind⟩, ⟨u * p + v * q, by rw [h2]; grind⟩⟩
  · rintro ⟨⟨p, hp⟩, ⟨q, hq⟩⟩
    have hs : s * s = 1 := by rcases h6 with ⟨rfl, _⟩ | ⟨rfl, _⟩ <;> rfl
    refine ⟨⟨s * (p * v - q * y), ?_⟩, ⟨s * (q * x - p * u), ?_⟩⟩
    · have : s * (s * A) = s * (a * v - b * y) := by rw [e1]
      rw [hp, hq] at this
      grind
    · have : s * (s * B) = s * (b * x - a * u) := by rw [e2]
      rw [hp, hq] at this
      grind
/-- The steps, at most so many. -/
def euclF : Nat → Int → Int → Int → Int → Int → Int → Int × Int × Int
  | 0, a, x, y, _, _, _ => (a, x, y)
  | n + 1, a, x, y, b, u, v => if 0 < b then euclF n b u v (a - a / b * b) (x - a / b * u) (y - a / b * v) else (a, x, y)
theorem euclF_enough : ∀ (n m : Nat) (a x y b u v : Int), b.toNat ≤ n → b.toNat ≤ m → euclF n a x y b u v = euclF m a x y b u v
  | 0, 0, a, x, y, b, u, v, _, _ => rfl
  | 0, m + 1, a, x, y, b, u, v, h, _ => by
    unfold euclF
    rw [if_neg (by omega)]
  | n + 1, 0, a, x, y, b, u, v, _, h => by
    unfold euclF
    rw [if_neg (by omega)]
  | n + 1, m + 1, a, x, y, b, u, v, h, k => by
    unfold euclF
    by_cases hb : 0 < b
    · have := Eu.less a hb
      rw [if_pos hb, if_pos hb]
      exact euclF_enough n m _ _ _ _ _ _ (by omega) (by omega)
    · rw [if_neg hb, if_neg hb]
/-- The steps: told is the first row. -/
def eucl (a x y b u v : Int) : Int × Int × Int := euclF b.toNat a x y b u v
theorem eucl_zero (a x y u v : Int) : eucl a x y 0 u v = (a, x, y) := rfl
theorem eucl_step {a x y b u v : Int} (hb : 0 < b) : eucl a x y b u v = eucl b u v (a - a / b * b) (x - a / b * u) (y - a / b * v) := by
  unfold eucl
  obtain ⟨k, hk⟩ : ∃ k, b.toNat = k + 1 := ⟨b.toNat - 1, by omega⟩
  have := Eu.less a hb
  rw [hk]
  show (if 0 < b then euclF k b u v (a - a / b * b) (x - a / b * u) (y - a / b * v) else (a, x, y)) = _
  rw [if_pos hb]
  exact euclF_enough _ _ _ _ _ _ _ _ (by omega) (by omega)
/-- What the steps tell: the greatest common divisor, made out of A and B. -/
structure Gc (A B g x y : Int) : Prop where
  make : A * x + B * y = g
  nn : 0 ≤ g
  dvd : ∀ d, (d ∣ A ∧ d ∣ B) ↔ d ∣ g
  bx : -(max B 1) ≤ x ∧ x ≤ max B 1
  bY : -(max A 1) ≤ y ∧ y ≤ max A 1
theorem eucl_gc {A B : Int} : ∀ (n : Nat) {a x y b u v s : Int}, b.toNat ≤ n → Eu A B a x y b u v s → (-(max B 1) ≤ x ∧ x ≤ max B 1 ∧ -(max A 1) ≤ y ∧ y ≤ max A 1) → (-(max B 1) ≤ u ∧ u ≤ max B 1 ∧ -(max A 1) ≤ v ∧ v ≤ max A 1) → Gc A B (eucl a x y b u v).1 (eucl a x y b u v).2.1 (eucl a x y b u v).2.2 := by
  intro n
  induction n with
  | zero =>
    intro a x y b u v s hn h hx hu
    have b0 := h.b0
    obtain rfl : b = 0 := by omega
    rw [eucl_zero]
    refine ⟨?_, h.a0, fun d => ?_, ⟨hx.1, hx.2.1⟩, hx.2.2⟩
    · show A * x + B * y = a
      have := h.ha; grind
    · rw [h.dvd d]
      exact ⟨fun k => k.1, fun k => ⟨k, Int.dvd_zero d⟩⟩
  | succ n ih =>
    intro a x y b u v s hn h hx hu
    have b0 := h.b0
    by_cases hb : b = 0
    · subst hb
      rw [eucl_zero]
      refine ⟨?_, h.a0, fun d => ?_, ⟨hx.1, hx.2.1⟩, hx.2.2⟩
      · show A * x + B * y = a
        have := h.ha; grind
      · rw [h.dvd d]
        exact ⟨fun k => k.1, fun k => ⟨k, Int.dvd_zero d⟩⟩
    · have hb' : 0 < b := by omega
      rw [eucl_step hb']
      have hl := Eu.less a hb'
      have hs := h.step hb'
      have hbd := hs.bound (by omega)
      exact ih (by omega) hs hu (by omega)
theorem eucl_told {A B : Int} (hA : 0 ≤ A) (hB : 0 ≤ B) : Gc A B (eucl A 1 0 B 0 1).1 (eucl A 1 0 B 0 1).2.1 (eucl A 1 0 B 0 1).2.2 :=
  eucl_gc B.toNat (Nat.le_refl _) (Eu.start hA hB) (by omega) (by omega)
end Go.Proofs.Ytijfmaepoamkgab
/- Numbers that are told by their remainders: one more modulus, and lists of them. No program. -/
namespace Go.Proofs.Ytijfmaepoamkgab

theorem Gc.parts {A B g x y : Int} (h : Gc A B g x y) (hA : 1 ≤ A) (hB : 1 ≤ B) : 1 ≤ g ∧ B / g * g = B ∧ 1 ≤ B / g ∧ A / g * g = A ∧ 1 ≤ A / g := by
  obtain ⟨d1, d2⟩ := (h.dvd g).2 (Int.dvd_refl g)
  have hg : 1 ≤ g := by
    have h0 := h.nn
    rcases Int.lt_or_eq_of_le h0 with h | h
    · omega
    · subst h
      have := Int.zero_dvd.1 d1
      omega
  have e1 := Int.ediv_mul_cancel d2
  have e2 := Int.ediv_mul_cancel d1
  refine ⟨hg, e1, ?_, e2, ?_⟩
  · rcases Int.lt_or_le (B / g) 1 with k | k
    · have : B / g * g ≤ 0 := Int.mul_nonpos_of_nonpos_of_nonneg (by omega) (by omega)
      omega
    · exact k
  · rcases Int.lt_or_le (A / g) 1 with k | k
    · have : A / g * g ≤ 0 := Int.mul_nonpos_of_nonpos_of_nonneg (by omega) (by omega)
      omega
    · exact k
/-- What both divide, A times B's part divides. -/
theorem Gc.lcm {A B g x y : Int} (h : Gc A B g x y) (hA : 1 ≤ A) (hB : 1 ≤ B) {Z : Int} (h1 : A ∣ Z) (h2 : B ∣ Z) : A * (B / g) ∣ Z := by
  obtain ⟨hg, e1, k1, e2, k2⟩ := h.parts hA hB
  have hm := h.make
  obtain ⟨z, rfl⟩ := h1
  obtain ⟨w, hw⟩ := h2
  generalize B / g = b at *
  generalize A / g = a at *
  subst e1 e2
  have hne : g ≠ 0 := by omega
  -- a z = b w, and a x + b y = 1
  have f1 : a * z = b * w := Int.eq_of_mul_eq_mul_left hne (by grind)
  have f2 : a * x + b * y = 1 := Int.eq_of_mul_eq_mul_left hne (by grind)
  refine ⟨w * x + y * z, ?_⟩
  have : z = b * (w * x + y * z) := by
    have : z = z * (a * x + b * y) := by rw [f2]; grind
    grind
  have e : a * g * b * (w * x + y * z) = a * g * (b * (w * x + y * z)) := by grind
  rw [e, ← this]
theorem dvd_both {A B g x y : Int} (h : Gc A B g x y) (hA : 1 ≤ A) (hB : 1 ≤ B) : A ∣ A * (B / g) ∧ B ∣ A * (B / g) := by
  obtain ⟨hg, e1, k1, e2, k2⟩ := h.parts hA hB
  refine ⟨⟨_, rfl⟩, ⟨A / g, ?_⟩⟩
  generalize B / g = b at *
  generalize A / g = a at *
  subst e1 e2
  grind
/-- One more modulus: the next number. -/
def nextX (A B g p x r : Int) : Int := x + A * ((r - x) / g * p % (B / g))
theorem next_ok {A B g p y x r : Int} (h : Gc A B g p y) (hA : 1 ≤ A) (hB : 1 ≤ B) (hx : 0 ≤ x ∧ x < A) (hd : g ∣ r - x) :
    0 ≤ nextX A B g p x r ∧ nextX A B g p x r < A * (B / g) ∧ A ∣ nextX A B g p x r - x ∧ B ∣ nextX A B g p x r - r := by
  obtain ⟨hg, e1, k1, e2, k2⟩ := h.parts hA hB
  have hm := h.make
  unfold nextX
  obtain ⟨d, hd⟩ := hd
  have hdg : (r - x) / g = d := by rw [hd]; exact Int.mul_ediv_cancel_left d (by omega)
  rw [hdg]
  have t0 := Int.emod_nonneg (d * p) (show B / g ≠ 0 by omega)
  have t1 := Int.emod_lt_of_pos (d * p) (show 0 < B / g by omega)
  have hq := Int.mul_ediv_add_emod (d * p) (B / g)
  generalize (d * p) % (B / g) = t at *
  generalize (d * p) / (B / g) = q at *
  generalize B / g = b at *
  generalize A / g = a at *
  have m0 : 0 ≤ A * t := Int.mul_nonneg (by omega) t0
  have m1 : A * t ≤ A * (b - 1) := Int.mul_le_mul_of_nonneg_left (by omega) (by omega)
  have m2 : A * (b - 1) = A * b - A := by grind
  refine ⟨by omega, by omega, ⟨t, by omega⟩, ⟨-(a * q) - d * y, ?_⟩⟩
  -- x + A t - r = A t - g d, A t = A d p - A b q, A p = g - B y
  have f1 : A * t = A * (d * p) - A * (b * q) := by grind
  have f2 : A * (d * p) = d * g - d * (B * y) := by grind
  have f3 : A * (b * q) = B * (a * q) := by subst e1 e2; grind
  grind
theorem next_need {A B g p y x r X : Int} (h : Gc A B g p y) (h1 : A ∣ X - x) (h2 : B ∣ X - r) : g ∣ r - x := by
  obtain ⟨d1, d2⟩ := (h.dvd g).2 (Int.dvd_refl g)
  have e : r - x = (X - x) - (X - r) := by omega
  rw [e]
  exact Int.dvd_sub (Int.dvd_trans d1 h1) (Int.dvd_trans d2 h2)
/-- What a list of remainders and moduli tells so far. -/
structure JI (r m : Nat → Int) (i : Nat) (x all : Int) : Prop where
  one : 1 ≤ all
  lo : 0 ≤ x
  hi : x < all
  pos : ∀ j, j < i → 1 ≤ m j
  dv : ∀ j, j < i → m j ∣ all
  re : ∀ j, j < i → m j ∣ x - r j
  least : ∀ Z, (∀ j, j < i → m j ∣ Z) → all ∣ Z
theorem JI.zero (r m : Nat → Int) : JI r m 0 0 1 := ⟨by omega, by omega, by omega, fun j hj => by omega, fun j hj => by omega, fun j hj => by omega, fun Z _ => Int.one_dvd Z⟩
theorem JI.uniq {r m : Nat → Int} {i : Nat} {x all X : Int} (h : JI r m i x all) (hX : ∀ j, j < i → m j ∣ X - r j) : X % all = x := by
  have d : all ∣ X - x := h.least _ fun j hj => by
    have e : X - x = (X - r j) - (x - r j) := by omega
    rw [e]
    exact Int.dvd_sub (hX j hj) (h.re j hj)
  have e1 := Int.emod_emod_of_dvd X (Int.dvd_refl all)
  have e2 : X % all = x % all := Int.emod_eq_emod_iff_emod_sub_eq_zero.2 (Int.emod_eq_zero_of_dvd d)
  rw [e2]
  exact Int.emod_eq_of_lt h.lo h.hi
theorem JI.same {r m : Nat → Int} {i : Nat} {x all x' all' : Int} (h : JI r m i x all) (h' : JI r m i x' all') : x = x' ∧ all = all' := by
  have d1 := h.least _ h'.dv
  have d2 := h'.least _ h.dv
  have l1 := Int.le_of_dvd (by have := h'.one; omega) d1
  have l2 := Int.le_of_dvd (by have := h.one; omega) d2
  obtain rfl : all = all' := by omega
  have := h.uniq h'.re
  rw [Int.emod_eq_of_lt h'.lo h'.hi] at this
  exact ⟨this.symm, rfl⟩
theorem JI.next {r m : Nat → Int} {i : Nat} {x all g p y : Int} (h : JI r m i x all) (hm : 1 ≤ m i) (hg : Gc all (m i) g p y) (hd : g ∣ r i - x) : JI r m (i + 1) (nextX all (m i) g p x (r i)) (all * (m i / g)) := by
  obtain ⟨n1, n2, n3, n4⟩ := next_ok hg h.one hm ⟨h.lo, h.hi⟩ hd
  obtain ⟨v1, v2⟩ := dvd_both hg h.one hm
  refine ⟨by omega, n1, n2, fun j hj => ?_, fun j hj => ?_, fun j hj => ?_, fun Z hZ => ?_⟩
  · by_cases e : j = i
    · subst e; exact hm
    · exact h.pos j (by omega)
  · by_cases e : j = i
    · subst e; exact v2
    · exact Int.dvd_trans (h.dv j (by omega)) v1
  · by_cases e : j = i
    · subst e; exact n4
    · have e2 : nextX all (m i) g p x (r i) - r j = (nextX all (m i) g p x (r i) - x) + (x - r j) := by omega
      rw [e2]
      exact Int.dvd_add (Int.dvd_trans (h.dv j (by omega)) n3) (h.re j (by omega))
  · exact hg.lcm h.one hm (h.least Z fun j hj => hZ j (by omega)) (hZ i (by omega))
/-- Any other number that has these remainders and is below is the next one. -/
theorem JI.next' {r m : Nat → Int} {i : Nat} {x all g p y X : Int} (h : JI r m i x all) (hm : 1 ≤ m i) (hg : Gc all (m i) g p y) (h0 : 0 ≤ X) (h1 : X < all * (m i / g)) (h2 : all ∣ X - x) (h3 : m i ∣ X - r i) : JI r m (i + 1) X (all * (m i / g)) := by
  have hn := h.next hm hg (next_need hg h2 h3)
  have e := hn.uniq (X := X) fun j hj => by
    by_cases e : j = i
    · subst e; exact h3
    · have e2 : X - r j = (X - x) + (x - r j) := by omega
      rw [e2]
      exact Int.dvd_add (Int.dvd_trans (h.dv j (by omega)) h2) (h.re j (by omega))
  rw [Int.emod_eq_of_lt h0 h1] at e
  rw [e]; exact hn
/-- Join, step by step: x, all and the code. -/
def joinF (r m : Nat → Int) : Nat → Int × Int × Int
  | 0 => (0, 1, 0)
  | i + 1 =>
    if (joinF r m i).2.2 ≠ 0 then joinF r m i
    else if m i < 1 ∨ 1099511627776 < m i then (0, 0, 2)
    else if (r i - (joinF r m i).1) % (eucl (joinF r m i).2.1 1 0 (m i) 0 1).1 ≠ 0 then (0, 0, 100)
    else if 4611686018427387904 < (joinF r m i).2.1 * (m i / (eucl (joinF r m i).2.1 1 0 (m i) 0 1).1) then (0, 0, 3)
    else (nextX (joinF r m i).2.1 (m i) (eucl (joinF r m i).2.1 1 0 (m i) 0 1).1 (eucl (joinF r m i).2.1 1 0 (m i) 0 1).2.1 (joinF r m i).1 (r i), (joinF r m i).2.1 * (m i / (eucl (joinF r m i).2.1 1 0 (m i) 0 1).1), 0)
theorem join_inv (r m : Nat → Int) : ∀ i x all, joinF r m i = (x, all, 0) → JI r m i x all ∧ all ≤ 4611686018427387904 := by
  intro i
  induction i with
  | zero =>
    intro x all h
    simp only [joinF, Prod.mk.injEq] at h
    obtain ⟨rfl, rfl, _⟩ := h
    exact ⟨JI.zero r m, by omega⟩
  | succ i ih =>
    intro x all h
    obtain ⟨x0, a0, c0, hs⟩ : ∃ x0 a0 c0, joinF r m i = (x0, a0, c0) := ⟨_, _, _, rfl⟩
    rw [joinF] at h
    simp only [hs] at h
    by_cases hc : c0 = 0
    · subst hc
      obtain ⟨hJ, hb⟩ := ih _ _ hs
      rw [if_neg (by simp)] at h
      by_cases h1 : m i < 1 ∨ 1099511627776 < m i
      · rw [if_pos h1] at h; simp at h
      · rw [if_neg h1] at h
        have hg := eucl_told (A := a0) (B := m i) (by have := hJ.one; omega) (by omega)
        generalize eucl a0 1 0 (m i) 0 1 = E at *
        by_cases h2 : (r i - x0) % E.1 ≠ 0
        · rw [if_pos h2] at h; simp at h
        · rw [if_neg h2] at h
          by_cases h3 : 4611686018427387904 < a0 * (m i / E.1)
          · rw [if_pos h3] at h; simp at h
          · rw [if_neg h3] at h
            simp only [Prod.mk.injEq, and_true] at h
            obtain ⟨rfl, rfl⟩ := h
            exact ⟨hJ.next (by omega) hg (Int.dvd_of_emod_eq_zero (by omega)), by omega⟩
    · rw [if_pos hc] at h
      simp only [Prod.mk.injEq] at h
      omega
/-- Where a number has all remainders, and all common multiples are small enough, Join tells it. -/
theorem join_of (r m : Nat → Int) (X : Int) : ∀ i, (∀ j, j < i → 1 ≤ m j ∧ m j ≤ 4096) → i ≤ 5 → (∀ j, j < i → m j ∣ X - r j) → ∃ all, joinF r m i = (X % all, all, 0) ∧ all ≤ 4096 ^ i := by
  intro i
  induction i with
  | zero => intro _ _ _; exact ⟨1, by simp [joinF, Int.emod_one], by omega⟩
  | succ i ih =>
    intro hm hi hX
    obtain ⟨a0, hs, hb⟩ := ih (fun j hj => hm j (by omega)) (by omega) (fun j hj => hX j (by omega))
    obtain ⟨hJ, _⟩ := join_inv r m i _ _ hs
    have hmi := hm i (by omega)
    have hg := eucl_told (A := a0) (B := m i) (by have := hJ.one; omega) (by omega)
    rw [joinF]
    simp only [hs]
    generalize eucl a0 1 0 (m i) 0 1 = E at *
    have hd : E.1 ∣ r i - X % a0 := next_need hg (X := X) (by
      rw [Int.emod_def]
      exact ⟨X / a0, by omega⟩) (hX i (by omega))
    have hn := hJ.next (by omega) hg hd
    obtain ⟨q1, q2, q3, q4, q5⟩ := hg.parts hJ.one (by omega)
    have hle : m i / E.1 ≤ 4096 := by
      have : m i / E.1 * 1 ≤ m i / E.1 * E.1 := Int.mul_le_mul_of_nonneg_left q1 (by omega)
      omega
    have hbn : a0 * (m i / E.1) ≤ 4096 ^ i * 4096 := Int.mul_le_mul hb hle (by omega) (Int.pow_nonneg (by omega))
    have hpow : (4096 : Int) ^ (i + 1) = 4096 ^ i * 4096 := Int.pow_succ 4096 i
    have hbig : (4096 : Int) ^ i * 4096 ≤ 4611686018427387904 := by
      obtain rfl | rfl | rfl | rfl | rfl : i = 0 ∨ i = 1 ∨ i = 2 ∨ i = 3 ∨ i = 4 := by omega
      all_goals decide
    refine ⟨a0 * (m i / E.1), ?_, by omega⟩
    rw [if_neg (by simp), if_neg (by omega), if_neg (by have := Int.emod_eq_zero_of_dvd hd; omega), if_neg (by omega)]
    rw [hn.uniq hX]
/-- What is refused as unlike has no number. -/
theorem join_none (r m : Nat → Int) (X : Int) : ∀ i, (∀ j, j < i → m j ∣ X - r j) → (joinF r m i).2.2 ≠ 100 := by
  intro i
  induction i with
  | zero => intro _; simp [joinF]
  | succ i ih =>
    intro hX
    have ih2 := ih fun j hj => hX j (by omega)
    obtain ⟨x0, a0, c0, hs⟩ : ∃ x0 a0 c0, joinF r m i = (x0, a0, c0) := ⟨_, _, _, rfl⟩
    rw [joinF]
    simp only [hs] at ih2 ⊢
    by_cases hc : c0 = 0
    · subst hc
      obtain ⟨hJ, hb⟩ := join_inv r m i _ _ hs
      rw [if_neg (by simp)]
      by_cases h1 : m i < 1 ∨ 1099511627776 < m i
      · rw [if_pos h1]; simp
      · rw [if_neg h1]
        have hg := eucl_told (A := a0) (B := m i) (by have := hJ.one; omega) (by omega)
        generalize eucl a0 1 0 (m i) 0 1 = E at *
        have hd : E.1 ∣ r i - x0 := next_need hg (X := X) (by
          have e := hJ.uniq (X := X) fun j hj => hX j (by omega)
          rw [Int.emod_def] at e
          exact ⟨X / a0, by omega⟩) (hX i (by omega))
        rw [if_neg (by have := Int.emod_eq_zero_of_dvd hd; omega)]
        by_cases h3 : 4611686018427387904 < a0 * (m i / E.1)
        · rw [if_pos h3]; simp
        · rw [if_neg h3]; simp
    · rw [if_pos hc]; exact ih2
end Go.Proofs.Ytijfmaepoamkgab
/- Products by doubling; how far numbers are round a modulus; the near ones and the best one. No program. -/
namespace Go.Proofs.Ytijfmaepoamkgab

theorem plus_mod {a b m : Int} (ha : 0 ≤ a ∧ a < m) (hb : 0 ≤ b ∧ b < m) : (if m - b ≤ a then a - (m - b) else a + b) = (a + b) % m := by
  split
  · rw [show a + b = (a - (m - b)) + m by omega, Int.add_emod_right, Int.emod_eq_of_lt (by omega) (by omega)]
  · rw [Int.emod_eq_of_lt (by omega) (by omega)]
theorem dbl_step {s a b m : Int} : ((if b % 2 = 1 then (s + a) % m else s) + (a + a) % m * (b / 2)) % m = (s + a * b) % m := by
  have e : b = 2 * (b / 2) + b % 2 := by omega
  have e2 : ((a + a) % m * (b / 2)) % m = ((a + a) * (b / 2)) % m := by rw [Int.mul_emod, Int.emod_emod, ← Int.mul_emod]
  split
  · rename_i h
    rw [Int.add_emod, e2, Int.emod_emod, ← Int.add_emod]
    congr 1
    rw [h] at e
    generalize b / 2 = q at *
    subst e
    grind
  · rw [Int.add_emod, e2, ← Int.add_emod]
    congr 1
    have h : b % 2 = 0 := by omega
    rw [h] at e
    generalize b / 2 = q at *
    subst e
    grind
/-- How far x is from r round m. -/
def far (x r m : Int) : Int := min ((x - r) % m) ((r - x) % m)
theorem far_sub {x r m : Int} (_hm : 1 ≤ m) : (x % m - r % m) % m = (x - r) % m := by rw [← Int.sub_emod]
theorem opp_mod {z m : Int} (hm : 1 ≤ m) : (-z) % m = if z % m = 0 then 0 else m - z % m := by
  have h0 := Int.emod_nonneg z (show m ≠ 0 by omega)
  have h1 := Int.emod_lt_of_pos z (show 0 < m by omega)
  have e := Int.mul_ediv_add_emod z m
  split
  · rename_i h
    rw [h, Int.add_zero] at e
    rw [← e, show -(m * (z / m)) = m * -(z / m) by grind]
    exact Int.mul_emod_right _ _
  · generalize z % m = d at *
    generalize z / m = q at *
    subst e
    rw [show -(m * q + d) = (m - d) + m * (-q - 1) by grind, Int.add_mul_emod_self_left, Int.emod_eq_of_lt (by omega) (by omega)]
theorem far_min {x r m : Int} (hm : 1 ≤ m) : min ((x - r) % m) (m - (x - r) % m) = far x r m := by
  unfold far
  have h0 := Int.emod_nonneg (x - r) (show m ≠ 0 by omega)
  have h1 := Int.emod_lt_of_pos (x - r) (show 0 < m by omega)
  rw [show r - x = -(x - r) by omega, opp_mod hm]
  split <;> omega
theorem far_nn {x r m : Int} (hm : 1 ≤ m) : 0 ≤ far x r m ∧ far x r m < m := by
  unfold far
  have h0 := Int.emod_nonneg (x - r) (show m ≠ 0 by omega)
  have h1 := Int.emod_lt_of_pos (x - r) (show 0 < m by omega)
  have h2 := Int.emod_nonneg (r - x) (show m ≠ 0 by omega)
  omega
theorem mod_le {z m : Int} (hz : 0 ≤ z) (hm : 1 ≤ m) : z % m ≤ z := by
  rw [Int.emod_def]
  have : 0 ≤ m * (z / m) := Int.mul_nonneg (by omega) (Int.ediv_nonneg hz (by omega))
  omega
/-- A remainder that was moved by at most off is at most off far. -/
theorem far_moved {x v m off : Int} (hm : 1 ≤ m) (h : -off ≤ v ∧ v ≤ off) : far x (x + v) m ≤ off := by
  unfold far
  by_cases hv : 0 ≤ v
  · have := mod_le hv hm
    rw [show x + v - x = v by omega]
    omega
  · have := mod_le (show 0 ≤ -v by omega) hm
    rw [show x - (x + v) = -v by omega]
    omega
/-- The farthest of n. -/
def worst (r m : Nat → Int) (x : Int) : Nat → Int
  | 0 => 0
  | n + 1 => max (worst r m x n) (far x (r n) (m n))
theorem worst_nn (r m : Nat → Int) (x : Int) : ∀ n, 0 ≤ worst r m x n
  | 0 => Int.le_refl _
  | n + 1 => by have := worst_nn r m x n; unfold worst; omega
theorem worst_le (r m : Nat → Int) (x off : Int) (ho : 0 ≤ off) : ∀ n, worst r m x n ≤ off ↔ ∀ i, i < n → far x (r i) (m i) ≤ off
  | 0 => ⟨fun _ i hi => by omega, fun _ => ho⟩
  | n + 1 => by
    have ih := worst_le r m x off ho n
    unfold worst
    constructor
    · intro h i hi
      by_cases e : i = n
      · subst e; omega
      · exact ih.1 (by omega) i (by omega)
    · intro h
      have h1 := ih.2 fun i hi => h i (by omega)
      have h2 := h n (by omega)
      omega
theorem worst_lt (r m : Nat → Int) (x N : Int) (hN : 0 < N) : ∀ n, (∀ i, i < n → 1 ≤ m i ∧ m i ≤ N) → worst r m x n < N
  | 0, _ => hN
  | n + 1, h => by
    have h1 := worst_lt r m x N hN n fun i hi => h i (by omega)
    have h2 := far_nn (x := x) (r := r n) (h n (by omega)).1
    have h3 := (h n (by omega)).2
    unfold worst
    omega
/-- The numbers below k that are near. -/
def nearL (W : Nat → Int) (off : Int) (k : Nat) : List Int := ((List.range k).filter fun x => decide (W x ≤ off)).map fun (x : Nat) => (x : Int)
theorem nearL_zero (W : Nat → Int) (off : Int) : nearL W off 0 = [] := rfl
theorem nearL_succ (W : Nat → Int) (off : Int) (k : Nat) : nearL W off (k + 1) = if W k ≤ off then nearL W off k ++ [(k : Int)] else nearL W off k := by
  unfold nearL
  rw [List.range_succ, List.filter_append, List.map_append]
  by_cases h : W k ≤ off <;> simp [h]
theorem nearL_len (W : Nat → Int) (off : Int) : ∀ k, (nearL W off k).length ≤ k
  | 0 => Nat.le_refl _
  | k + 1 => by
    have := nearL_len W off k
    rw [nearL_succ]
    split <;> simp <;> omega
theorem nearL_mem {W : Nat → Int} {off : Int} {k x : Nat} : (x : Int) ∈ nearL W off k ↔ x < k ∧ W x ≤ off := by
  unfold nearL
  simp
  constructor
  · rintro ⟨a, ⟨h1, h2⟩, h3⟩
    obtain rfl : a = x := by omega
    exact ⟨h1, h2⟩
  · rintro ⟨h1, h2⟩
    exact ⟨x, ⟨h1, h2⟩, rfl⟩
theorem nearL_form {W : Nat → Int} {off : Int} {k : Nat} {z : Int} (h : z ∈ nearL W off k) : ∃ x : Nat, z = x ∧ x < k ∧ W x ≤ off := by
  unfold nearL at h
  simp at h
  obtain ⟨a, ⟨h1, h2⟩, h3⟩ := h
  exact ⟨a, h3.symm, h1, h2⟩
theorem nearL_sorted (W : Nat → Int) (off : Int) (k : Nat) : (nearL W off k).Pairwise (· < ·) := by
  unfold nearL
  rw [List.pairwise_map]
  exact List.Pairwise.imp_of_mem (fun _ _ h => by omega) (List.Pairwise.filter _ List.pairwise_lt_range)
/-- The best so far: which, and how far. -/
def bestF (W : Nat → Int) : Nat → Int × Int
  | 0 => (0, 9223372036854775807)
  | k + 1 => if W k < (bestF W k).2 then ((k : Int), W k) else bestF W k
theorem best_inv (W : Nat → Int) (hW : ∀ k, W k < 9223372036854775807) : ∀ k, 0 < k → ∃ y : Nat, (bestF W k).1 = y ∧ (bestF W k).2 = W y ∧ y < k ∧ (∀ j, j < k → W y ≤ W j) ∧ ∀ j, j < y → W y < W j
  | 0, h => by omega
  | 1, _ => by
    have h0 := hW 0
    refine ⟨0, ?_, ?_, by omega, fun j hj => ?_, fun j hj => by omega⟩
    · simp [bestF, h0]
    · simp [bestF, h0]
    · obtain rfl : j = 0 := by omega
      exact Int.le_refl _
  | k + 2, _ => by
    obtain ⟨y, h1, h2, h3, h4, h5⟩ := best_inv W hW (k + 1) (by omega)
    rw [bestF]
    by_cases h : W (k + 1) < (bestF W (k + 1)).2
    · rw [if_pos h]
      rw [h2] at h
      refine ⟨k + 1, rfl, rfl, by omega, fun j hj => ?_, fun j hj => ?_⟩
      · by_cases e : j = k + 1
        · subst e; exact Int.le_refl _
        · have := h4 j (by omega); omega
      · have := h4 j (by omega); omega
    · rw [if_neg h]
      rw [h2] at h
      refine ⟨y, h1, h2, by omega, fun j hj => ?_, h5⟩
      by_cases e : j = k + 1
      · subst e; omega
      · exact h4 j (by omega)
/-- The first of the near ones, with the best one's bound; with one less there is none. -/
theorem near_first {W : Nat → Int} {k y : Nat} (h1 : y < k) (h4 : ∀ j, j < y → W y < W j) : ∃ t, nearL W (W y) k = (y : Int) :: t := by
  have hm : (y : Int) ∈ nearL W (W y) k := nearL_mem.2 ⟨h1, Int.le_refl _⟩
  have hs := nearL_sorted W (W y) k
  cases hl : nearL W (W y) k with
  | nil => rw [hl] at hm; cases hm
  | cons a t =>
    rw [hl] at hm hs
    obtain ⟨x, rfl, hx1, hx2⟩ := nearL_form (W := W) (off := W y) (k := k) (z := a) (by rw [hl]; exact List.mem_cons_self)
    refine ⟨t, ?_⟩
    have hxy : ¬ x < y := fun h => by have := h4 x h; omega
    rcases List.mem_cons.1 hm with e | e
    · rw [e]
    · have := List.rel_of_pairwise_cons hs e
      omega
theorem near_none {W : Nat → Int} {k : Nat} {o : Int} (h : ∀ j, j < k → o < W j) : nearL W o k = [] := by
  rw [List.eq_nil_iff_forall_not_mem]
  intro z hz
  obtain ⟨x, _, h1, h2⟩ := nearL_form hz
  have := h x h1
  omega
end Go.Proofs.Ytijfmaepoamkgab
