/- ScenePeak, as whole numbers: a pulse held against itself; sums and products of complex numbers whose parts are whole; where the greatest is. -/
import Derived.Test.YthifemkbemhmnaaJa
import Derived.Test.YthifemkbemhmnaaWi
import Derived.Test.YthifemkbemhmnaaGc
namespace Go.Proofs.Ythifemkbemhmnaa
open Go.ChangeShapes Go.WideShapes Go.ChangeAt Go.RowKit Go.Fl Ieee

/-- A pulse against itself, some places on. -/
def ownZ (w : Nat → Int) (n k : Nat) : Int := dotZ (fun i => w (i + k)) w (n - k)
/-- A row in which the pulse stands. -/
def sampZ (w : Nat → Int) (d n j : Nat) : Int := if d ≤ j ∧ j < d + n then w (j - d) else 0
def corrZ (w : Nat → Int) (d n g : Nat) : Int := dotZ (fun i => sampZ w d n (i + g)) w n
theorem dotZ_zero {F G : Nat → Int} : ∀ {n : Nat}, (∀ i, i < n → F i = 0) → dotZ F G n = 0
  | 0, _ => rfl
  | n + 1, h => by rw [dotZ, dotZ_zero (n := n) fun i hi => h i (by omega), h n (by omega)]; simp
theorem dotZ_split {F G : Nat → Int} {k : Nat} : ∀ {m : Nat}, dotZ F G (k + m) = dotZ F G k + dotZ (fun i => F (i + k)) (fun i => G (i + k)) m
  | 0 => by simp [dotZ]
  | m + 1 => by
    rw [show k + (m + 1) = (k + m) + 1 by omega, dotZ, dotZ_split (m := m), dotZ, show m + k = k + m by omega]
    omega
theorem dotZ_scale {F G : Nat → Int} {a : Int} : ∀ {n : Nat}, dotZ (fun i => a * F i) G n = a * dotZ F G n
  | 0 => by simp [dotZ]
  | n + 1 => by rw [dotZ, dotZ, dotZ_scale (n := n), Int.mul_add, Int.mul_assoc]
theorem corr_high {w : Nat → Int} {d n g : Nat} (h : d ≤ g) : corrZ w d n g = ownZ w n (g - d) := by
  unfold corrZ ownZ
  have e := dotZ_cut (F := fun i => sampZ w d n (i + g)) (G := w) (t := n - (g - d)) (n := n) (fun i h1 h2 => by
    show sampZ w d n (i + g) = 0
    unfold sampZ; rw [if_neg (by omega)])
  rw [← e, Nat.min_eq_left (by omega)]
  refine dotZ_congr fun i hi => ?_
  show sampZ w d n (i + g) * w i = _
  unfold sampZ
  rw [if_pos (by omega), show i + g - d = i + (g - d) by omega]
theorem corr_low {w : Nat → Int} {d n g : Nat} (h : g < d) : corrZ w d n g = ownZ w n (d - g) := by
  unfold corrZ ownZ
  by_cases hk : n ≤ d - g
  · rw [show n - (d - g) = 0 by omega, dotZ]
    refine dotZ_zero fun i hi => ?_
    unfold sampZ; rw [if_neg (by omega)]
  · obtain ⟨m, hm⟩ : ∃ m, n = (d - g) + m := ⟨n - (d - g), by omega⟩
    obtain ⟨k, hk⟩ : ∃ k, k = d - g := ⟨_, rfl⟩
    rw [← hk] at hm ⊢
    rw [hm, show k + m - k = m by omega, dotZ_split, dotZ_zero (F := fun i => sampZ w d (k + m) (i + g)) (n := k) (fun i hi => by
      show sampZ w d (k + m) (i + g) = 0
      unfold sampZ; rw [if_neg (by omega)]), Int.zero_add]
    refine dotZ_congr fun i hi => ?_
    show sampZ w d (k + m) (i + k + g) * w (i + k) = w (i + k) * w i
    unfold sampZ
    rw [if_pos (by omega), show i + k + g - d = i by omega, Int.mul_comm]
theorem corr_at {w : Nat → Int} {d n : Nat} : corrZ w d n d = ownZ w n 0 := by rw [corr_high (Nat.le_refl _), Nat.sub_self]
/-- All of a pulse's numbers are at most so great. -/
def Sm (w : Nat → Int) (n : Nat) : Prop := ∀ i, i < n → -128 ≤ w i ∧ w i ≤ 128
theorem sq_bd {a b : Int} (ha : -128 ≤ a ∧ a ≤ 128) (hb : -128 ≤ b ∧ b ≤ 128) : -16384 ≤ a * b ∧ a * b ≤ 16384 := by
  have h1 : (a * b).natAbs ≤ 16384 := by
    rw [Int.natAbs_mul]
    exact Nat.le_trans (Nat.mul_le_mul (show a.natAbs ≤ 128 by omega) (show b.natAbs ≤ 128 by omega)) (by omega)
  omega
theorem own_bd {w : Nat → Int} {n k : Nat} (h : Sm w n) (hn : n ≤ 60) : -983040 ≤ ownZ w n k ∧ ownZ w n k ≤ 983040 := by
  have hb : Bd (fun i => w (i + k)) w (n - k) 16384 := fun i hi => sq_bd (h (i + k) (by omega)) (h i (by omega))
  have := dotZ_bound hb
  unfold ownZ
  have h2 : (n - k) * 16384 ≤ 983040 := by omega
  omega
theorem own_nn {w : Nat → Int} : ∀ {n : Nat}, 0 ≤ ownZ w n 0
  | 0 => by simp [ownZ, dotZ]
  | n + 1 => by
    have h := own_nn (w := w) (n := n)
    unfold ownZ at *
    simp only [Nat.sub_zero, Nat.add_zero] at *
    rw [dotZ]
    have : 0 ≤ w n * w n := by
      rcases Int.le_total 0 (w n) with h0 | h0
      · exact Int.mul_nonneg h0 h0
      · exact Int.mul_nonneg_of_nonpos_of_nonpos h0 h0
    omega
theorem int_sq {a : Int} (h : -983040 ≤ a ∧ a ≤ 983040) : 0 ≤ a * a ∧ a * a ≤ 966367641600 := by
  have h1 : (a * a).natAbs ≤ 966367641600 := by
    rw [Int.natAbs_mul]
    exact Nat.le_trans (Nat.mul_le_mul (show a.natAbs ≤ 983040 by omega) (show a.natAbs ≤ 983040 by omega)) (by omega)
  have h2 : 0 ≤ a * a := by
    rcases Int.le_total 0 a with h0 | h0
    · exact Int.mul_nonneg h0 h0
    · exact Int.mul_nonneg_of_nonpos_of_nonpos h0 h0
  omega
/-- Everywhere but where it stands it is less. -/
theorem corr_less {w : Nat → Int} {d n g : Nat} (hP : 0 < ownZ w n 0) (hs : ∀ k, 1 ≤ k → k < n → ownZ w n k * ownZ w n k < ownZ w n 0 * ownZ w n 0) (hg : g ≠ d) : corrZ w d n g * corrZ w d n g < ownZ w n 0 * ownZ w n 0 := by
  have key : ∀ k, 1 ≤ k → ownZ w n k * ownZ w n k < ownZ w n 0 * ownZ w n 0 := by
    intro k hk
    rcases Nat.lt_or_ge k n with h | h
    · exact hs k hk h
    · have e : ownZ w n k = 0 := by unfold ownZ; rw [show n - k = 0 by omega, dotZ]
      rw [e]
      have := Int.mul_pos hP hP
      simpa using this
  rcases Nat.lt_or_gt_of_ne hg with h | h
  · rw [corr_low h]; exact key _ (by omega)
  · rw [corr_high (by omega)]; exact key _ (by omega)
/-- A complex number whose parts are whole. -/
def WC (p : C2) (x y : Int) : Prop := WH p.1 x ∧ WH p.2 y
theorem WC.cast {p : C2} {x y x' y' : Int} (h : WC p x y) (h1 : x = x') (h2 : y = y') : WC p x' y' := by subst h1 h2; exact h
theorem WC.mul {p q : C2} {x y u v : Int} (hp : WC p x y) (hq : WC q u v) (h1 : -1000000000000 ≤ x * u ∧ x * u ≤ 1000000000000) (h2 : -1000000000000 ≤ y * v ∧ y * v ≤ 1000000000000) (h3 : -1000000000000 ≤ x * v ∧ x * v ≤ 1000000000000) (h4 : -1000000000000 ≤ y * u ∧ y * u ≤ 1000000000000) : WC (mulC p q) (x * u - y * v) (x * v + y * u) := by
  constructor
  · exact (hp.1.mul hq.1 (by unfold P53; omega) (by unfold P53; omega)).sub (hp.2.mul hq.2 (by unfold P53; omega) (by unfold P53; omega)) (by unfold P53; omega) (by unfold P53; omega)
  · exact (hp.1.mul hq.2 (by unfold P53; omega) (by unfold P53; omega)).add (hp.2.mul hq.1 (by unfold P53; omega) (by unfold P53; omega)) (by unfold P53; omega) (by unfold P53; omega)
theorem WC.conj {p : C2} {x y : Int} (h : WC p x y) : WC (p.1, p.2.map neg) x (-y) := ⟨h.1, h.2.neg⟩
theorem wc_zero : WC (some 0, some 0) 0 0 := ⟨WH.zero, WH.zero⟩
theorem WC.add {p q : C2} {x y u v : Int} (hp : WC p x y) (hq : WC q u v) (h1 : -1000000000000 ≤ x + u ∧ x + u ≤ 1000000000000) (h2 : -1000000000000 ≤ y + v ∧ y + v ≤ 1000000000000) : WC (addC p q) (x + u) (y + v) :=
  ⟨hp.1.add hq.1 (by unfold P53; omega) (by unfold P53; omega), hp.2.add hq.2 (by unfold P53; omega) (by unfold P53; omega)⟩
/-- A quarter's turns. -/
structure Un (a b : Int) : Prop where
  ra : -1 ≤ a ∧ a ≤ 1
  rb : -1 ≤ b ∧ b ≤ 1
  sq : a * a + b * b = 1
theorem tri {a : Int} (h : -1 ≤ a ∧ a ≤ 1) : a = -1 ∨ a = 0 ∨ a = 1 := by omega
theorem scale_bd {a s K : Int} (h : -1 ≤ a ∧ a ≤ 1) (hs : -K ≤ s ∧ s ≤ K) : -K ≤ a * s ∧ a * s ≤ K := by
  rcases tri h with e | e | e <;> subst e <;> omega
theorem samp_bd {w : Nat → Int} {d n j : Nat} (h : Sm w n) : -128 ≤ sampZ w d n j ∧ sampZ w d n j ≤ 128 := by
  unfold sampZ
  split
  · exact h _ (by omega)
  · omega
/-- The sample of a row: the pulse's, turned by quarters. -/
theorem line_wc {A : C2} {P : Nat → C2} {w : Nat → Int} {a b : Int} {d n j : Nat} (hu : Un a b) (hA : WC A a b) (hP : ∀ i, i < n → WC (P i) (w i) 0) (hw : Sm w n) : WC (lineV A P d n j) (a * sampZ w d n j) (b * sampZ w d n j) := by
  unfold lineV sampZ
  split
  · have hi := hw (j - d) (by omega)
    have h1 := scale_bd (K := 128) hu.ra hi
    have h2 := scale_bd (K := 128) hu.rb hi
    have m := hA.mul (hP (j - d) (by omega)) (by omega) (by omega) (by omega) (by omega)
    exact (wc_zero.add m (by omega) (by omega)).cast (by omega) (by omega)
  · exact wc_zero.cast (by simp) (by simp)
/-- A sum of whole numbers. -/
theorem sum_wh1 {G : Nat → Option Nat} {F H : Nat → Int} {K : Nat} (n : Nat) (h : ∀ i, i < n + 1 → WH (G i) (F i * H i)) (hb : Bd F H (n + 1) K) (hK : (((n + 1) * K + K : Nat) : Int) < P53) : WH (sumN G (n + 1)) (dotZ F H (n + 1)) := by
  induction n with
  | zero => exact (h 0 (by omega)).cast (by simp [dotZ])
  | succ n ih =>
    have e : (n + 1 + 1) * K = (n + 1) * K + K := Nat.succ_mul (n + 1) K
    rw [e] at hK
    have ih := ih (fun i hi => h i (by omega)) (hb.le (by omega)) (by omega)
    have b1 := dotZ_bound (n := n + 1) (hb.le (by omega))
    have b2 := hb (n + 1) (by omega)
    rw [sumN_step]
    exact ih.add (h (n + 1) (by omega)) (by unfold P53 at *; omega) (by unfold P53 at *; omega)
theorem sum_wh {G : Nat → Option Nat} {F H : Nat → Int} {K n : Nat} (h : ∀ i, i < n → WH (G i) (F i * H i)) (hb : Bd F H n K) (hK : ((n * K + K : Nat) : Int) < P53) : WH (sumN G n) (dotZ F H n) := by
  cases n with
  | zero => exact WH.zero
  | succ n => exact sum_wh1 n h hb hK
/-- THE MATCH OF A ROW: the pulse against itself, turned. -/
theorem held_wc {f fp : Nat → Nat × Nat} {A : C2} {P : Nat → C2} {w : Nat → Int} {a b : Int} {d n E g : Nat} (hu : Un a b) (hA : WC A a b) (hP : ∀ i, i < n → WC (P i) (w i) 0) (hw : Sm w n) (hf : ∀ i, i < E → ab2 (f i) = lineV A P d n i) (hp : ∀ i, i < n → ab2 (fp i) = P i) (hE : d + n ≤ E) (hn : n ≤ 60) (hg : g < E) :
    WC (heldF f E fp n g) (a * corrZ w d n g) (b * corrZ w d n g) := by
  have key : ∀ i, i < n → g + i < E → WC (dotR (fun i => f (i + g)) fp i, dotI (fun i => f (i + g)) fp i) (a * sampZ w d n (i + g) * w i) (b * sampZ w d n (i + g) * w i) := by
    intro i hi hgi
    have h1 : WC (ab2 (f (i + g))) (a * sampZ w d n (i + g)) (b * sampZ w d n (i + g)) := by rw [hf _ (by omega)]; exact line_wc hu hA hP hw
    have h2 : WC (ab2 (fp i)) (w i) 0 := by rw [hp i hi]; exact hP i hi
    have s := samp_bd (w := w) (d := d) (n := n) (j := i + g) hw
    have s1 := scale_bd (K := 128) hu.ra s
    have s2 := scale_bd (K := 128) hu.rb s
    have q1 := sq_bd s1 (hw i hi)
    have q2 := sq_bd s2 (hw i hi)
    exact (h1.mul h2.conj (by omega) (by omega) (by omega) (by omega)).cast (by omega) (by omega)
  have bd : ∀ c : Int, -1 ≤ c ∧ c ≤ 1 → Bd (fun i => c * sampZ w d n (i + g)) w n 16384 := fun c hc i hi => sq_bd (scale_bd (K := 128) hc (samp_bd hw)) (hw i hi)
  have cut : ∀ c : Int, dotZ (fun i => c * sampZ w d n (i + g)) w (min (E - g) n) = c * corrZ w d n g := by
    intro c
    rw [dotZ_cut (F := fun i => c * sampZ w d n (i + g)) (G := w) (t := E - g) (n := n) (fun i h1 h2 => by
      show c * sampZ w d n (i + g) = 0
      unfold sampZ; rw [if_neg (by omega)]; simp), dotZ_scale]
    rfl
  have hK : (((min (E - g) n) * 16384 + 16384 : Nat) : Int) < P53 := by unfold P53; omega
  constructor
  · exact (sum_wh (G := dotR (fun i => f (i + g)) fp) (F := fun i => a * sampZ w d n (i + g)) (H := w) (K := 16384) (fun i hi => (key i (by omega) (by omega)).1) ((bd a hu.ra).le (by omega)) hK).cast (cut a)
  · exact (sum_wh (G := dotI (fun i => f (i + g)) fp) (F := fun i => b * sampZ w d n (i + g)) (H := w) (K := 16384) (fun i hi => (key i (by omega) (by omega)).2) ((bd b hu.rb).le (by omega)) hK).cast (cut b)
/-- The squared magnitude. -/
theorem abs2_wh {p : C2} {a b c : Int} (hu : Un a b) (h : WC p (a * c) (b * c)) (hc : -983040 ≤ c ∧ c ≤ 983040) : WH (abs2F p.1 p.2) (c * c) := by
  have s1 := int_sq (scale_bd (K := 983040) hu.ra hc)
  have s2 := int_sq (scale_bd (K := 983040) hu.rb hc)
  have q := (h.1.mul h.1 (by unfold P53; omega) (by unfold P53; omega)).add (h.2.mul h.2 (by unfold P53; omega) (by unfold P53; omega)) (by unfold P53; omega) (by unfold P53; omega)
  refine q.cast ?_
  have e1 : a * c * (a * c) = a * a * (c * c) := by rw [Int.mul_assoc, Int.mul_assoc, Int.mul_left_comm c a c]
  have e2 : b * c * (b * c) = b * b * (c * c) := by rw [Int.mul_assoc, Int.mul_assoc, Int.mul_left_comm c b c]
  rw [e1, e2, ← Int.add_mul, hu.sq, Int.one_mul]
theorem un_one : Un 1 0 := ⟨by omega, by omega, by omega⟩
/-- Where the greatest is. -/
theorem pk_at {F : Nat → Option Nat} {z : Nat → Int} {d E : Nat} (hF : ∀ i, i < E → WH (F i) (z i)) (hz : ∀ i, i < E → i ≠ d → z i < z d) (hd : d < E) : ∀ k, k ≤ E → (k ≤ d → k = 0 ∨ ∃ j, j < k ∧ pk F k = ((j : Int), F j)) ∧ (d < k → pk F k = ((d : Int), F d))
  | 0, _ => ⟨fun _ => Or.inl rfl, fun h => by omega⟩
  | k + 1, hk => by
    obtain ⟨i1, i2⟩ := pk_at hF hz hd k (by omega)
    have above : ∀ i j, i < E → j < E → aboveF (F i) (F j) = decide (z j < z i) := by
      intro i j hi hj
      have h1 := hF i hi
      have h2 := hF j hj
      unfold aboveF
      rw [h1.gt h2]
      obtain ⟨y, e, _⟩ := h2
      rw [e]; simp
    constructor
    · intro hkd
      right
      rcases i1 (by omega) with h0 | ⟨j, hj, e⟩
      · subst h0
        exact ⟨0, by omega, by rw [pk]; simp [pk]⟩
      · rw [pk, e]
        split
        · exact ⟨k, by omega, rfl⟩
        · exact ⟨j, by omega, rfl⟩
    · intro hdk
      rcases Nat.lt_or_ge d k with h | h
      · rw [pk, i2 h]
        have : ((decide (((d : Int), F d).1 < 0)) || aboveF (F k) ((d : Int), F d).2) = false := by
          simp only [Bool.or_eq_false_iff, decide_eq_false_iff_not]
          refine ⟨by omega, ?_⟩
          rw [above k d (by omega) hd]
          have := hz k (by omega) (by omega)
          simp; omega
        rw [if_neg (by rw [this]; simp)]
      · obtain rfl : k = d := by omega
        rcases i1 (Nat.le_refl _) with h0 | ⟨j, hj, e⟩
        · subst h0
          rw [pk]; simp [pk]
        · rw [pk, e]
          have : aboveF (F k) (F j) = true := by
            rw [above k j hd (by omega)]
            have := hz j (by omega) (by omega)
            simpa using this
          rw [if_pos (by simp [this])]
end Go.Proofs.Ythifemkbemhmnaa
