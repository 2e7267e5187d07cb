/- Match of whole numbers. -/
import Derived.Test.YthifemkbemhmnaaWh
import Derived.Test.YthifemkbemhmnaaMa
namespace Go.Proofs.Ythifemkbemhmnaa
open Go.Fl Ieee Go.RowKit

/-- A number that is whole, with an imaginary part of nought. -/
def W2 (p : Option Nat × Option Nat) (z : Int) : Prop := WH p.1 z ∧ WH p.2 0
def dotZ (F G : Nat → Int) : Nat → Int
  | 0 => 0
  | n + 1 => dotZ F G n + F n * G n
/-- All products of two rows are at most K in magnitude. -/
def Bd (F G : Nat → Int) (n K : Nat) : Prop := ∀ i, i < n → -(K : Int) ≤ F i * G i ∧ F i * G i ≤ K
theorem Bd.le {F G : Nat → Int} {n m K : Nat} (h : Bd F G n K) (hm : m ≤ n) : Bd F G m K := fun i hi => h i (by omega)
theorem dotZ_bound {F G : Nat → Int} {K : Nat} : ∀ {n : Nat}, Bd F G n K → -((n * K : Nat) : Int) ≤ dotZ F G n ∧ dotZ F G n ≤ ((n * K : Nat) : Int)
  | 0, _ => by simp [dotZ]
  | n + 1, h => by
    have h1 := dotZ_bound (n := n) (h.le (by omega))
    have h2 := h n (by omega)
    have e : (n + 1) * K = n * K + K := Nat.succ_mul n K
    rw [e]
    unfold dotZ
    omega
theorem dotZ_less {F G : Nat → Int} {K i0 : Nat} : ∀ {n : Nat}, Bd F G n K → i0 < n → F i0 = 0 → -(((n - 1) * K : Nat) : Int) ≤ dotZ F G n ∧ dotZ F G n ≤ (((n - 1) * K : Nat) : Int)
  | 0, _, h, _ => by omega
  | n + 1, h, hi, h0 => by
    by_cases e : i0 = n
    · subst e
      have h1 := dotZ_bound (n := i0) (h.le (by omega))
      simp only [dotZ, h0, Int.zero_mul, Int.add_zero, Nat.add_sub_cancel]
      exact h1
    · have h1 := dotZ_less (n := n) (h.le (by omega)) (by omega) h0
      have h2 := h n (by omega)
      obtain ⟨m, rfl⟩ : ∃ m, n = m + 1 := ⟨n - 1, by omega⟩
      have e : (m + 1) * K = m * K + K := Nat.succ_mul m K
      simp only [Nat.add_sub_cancel] at h1 ⊢
      rw [e]
      rw [dotZ]
      omega
theorem dotZ_congr {F G F' G' : Nat → Int} : ∀ {n : Nat}, (∀ i, i < n → F i * G i = F' i * G' i) → dotZ F G n = dotZ F' G' n
  | 0, _ => rfl
  | n + 1, h => by rw [dotZ, dotZ, dotZ_congr (n := n) fun i hi => h i (by omega), h n (by omega)]
/-- Behind the last that is not nought nothing is added. -/
theorem dotZ_cut {F G : Nat → Int} {t : Nat} : ∀ {n : Nat}, (∀ i, t ≤ i → i < n → F i = 0) → dotZ F G (min t n) = dotZ F G n
  | 0, _ => by simp
  | n + 1, h => by
    by_cases e : n + 1 ≤ t
    · rw [Nat.min_eq_right e]
    · rw [dotZ, ← dotZ_cut (n := n) fun i h1 h2 => h i h1 (by omega), h n (by omega) (by omega), Int.zero_mul, Int.add_zero]
      rw [Nat.min_eq_left (by omega), Nat.min_eq_left (by omega)]
theorem W2.mul {p q : Option Nat × Option Nat} {a b : Int} (hp : W2 p a) (hq : W2 q b) (h1 : -P53 < a * b) (h2 : a * b < P53) : W2 (mulR p.1 p.2 q.1 q.2, mulI p.1 p.2 q.1 q.2) (a * b) := by
  unfold P53 at h1 h2
  constructor
  · have h := (hp.1.mul hq.1 (by unfold P53; omega) (by unfold P53; omega)).sub (hp.2.mul hq.2 (by unfold P53; omega) (by unfold P53; omega)) (by unfold P53; omega) (by unfold P53; omega)
    exact h.cast (by omega)
  · have h := (hp.1.mul hq.2 (by unfold P53; omega) (by unfold P53; omega)).add (hp.2.mul hq.1 (by unfold P53; omega) (by unfold P53; omega)) (by unfold P53; omega) (by unfold P53; omega)
    exact h.cast (by omega)
theorem W2.conj {p : Option Nat × Option Nat} {a : Int} (hp : W2 p a) : W2 (p.1, p.2.map neg) a := ⟨hp.1, hp.2.neg.cast (by omega)⟩
theorem dot_whole {f g : Nat → Nat × Nat} {i : Nat} {a b : Int} (hf : W2 (ab2 (f i)) a) (hg : W2 (ab2 (g i)) b) (h1 : -P53 < a * b) (h2 : a * b < P53) : WH (dotR f g i) (a * b) ∧ WH (dotI f g i) 0 := hf.mul hg.conj h1 h2
theorem sum_whole1 {f g : Nat → Nat × Nat} {F G : Nat → Int} {K : Nat} (n : Nat) (hf : ∀ i, i < n + 1 → W2 (ab2 (f i)) (F i)) (hg : ∀ i, i < n + 1 → W2 (ab2 (g i)) (G i)) (hb : Bd F G (n + 1) K) (hK : (((n + 1) * K + K : Nat) : Int) < P53) : WH (sumN (dotR f g) (n + 1)) (dotZ F G (n + 1)) ∧ WH (sumN (dotI f g) (n + 1)) 0 := by
  induction n with
  | zero =>
    have h := hb 0 (by omega)
    have d := dot_whole (hf 0 (by omega)) (hg 0 (by omega)) (by unfold P53 at *; omega) (by unfold P53 at *; omega)
    exact ⟨d.1.cast (by simp [dotZ]), d.2⟩
  | succ n ih =>
    have e : (n + 1 + 1) * K = (n + 1) * K + K := Nat.succ_mul (n + 1) K
    rw [e] at hK
    have ih := ih (fun i hi => hf i (by omega)) (fun i hi => hg i (by omega)) (hb.le (by omega)) (by omega)
    have h := hb (n + 1) (by omega)
    have bd := dotZ_bound (n := n + 1) (hb.le (by omega))
    have d := dot_whole (hf (n + 1) (by omega)) (hg (n + 1) (by omega)) (by unfold P53 at *; omega) (by unfold P53 at *; omega)
    refine ⟨?_, ?_⟩
    · rw [sumN_step]
      exact (ih.1.add d.1 (by unfold P53 at *; omega) (by unfold P53 at *; omega))
    · rw [sumN_step]
      exact (ih.2.add d.2 (by unfold P53; omega) (by unfold P53; omega)).cast (by omega)
theorem sum_whole {f g : Nat → Nat × Nat} {F G : Nat → Int} {K n : Nat} (hf : ∀ i, i < n → W2 (ab2 (f i)) (F i)) (hg : ∀ i, i < n → W2 (ab2 (g i)) (G i)) (hb : Bd F G n K) (hK : ((n * K + K : Nat) : Int) < P53) : WH (sumN (dotR f g) n) (dotZ F G n) ∧ WH (sumN (dotI f g) n) 0 := by
  cases n with
  | zero => exact ⟨WH.zero, WH.zero⟩
  | succ n => exact sum_whole1 n hf hg hb hK
/-- Match of whole numbers, at a place; behind 't' the samples are nought. -/
theorem held_whole {f g : Nat → Nat × Nat} {F G : Nat → Int} {n m d K : Nat} (hd : d < n) (hf : ∀ i, i < n → W2 (ab2 (f i)) (F i)) (hg : ∀ i, i < m → W2 (ab2 (g i)) (G i)) (hz : ∀ i, n ≤ i → F i = 0) (hb : Bd (fun i => F (i + d)) G m K) (hK : ((m * K + K : Nat) : Int) < P53) :
    W2 (heldF f n g m d) (dotZ (fun i => F (i + d)) G m) := by
  have hmn : min (n - d) m * K + K ≤ m * K + K := Nat.add_le_add_right (Nat.mul_le_mul_right K (Nat.min_le_right _ _)) K
  have h := sum_whole (f := fun i => f (i + d)) (g := g) (F := fun i => F (i + d)) (G := G) (K := K) (n := min (n - d) m) (fun i hi => hf (i + d) (by omega)) (fun i hi => hg i (by omega)) (hb.le (by omega)) (by omega)
  have e := dotZ_cut (F := fun i => F (i + d)) (G := G) (t := n - d) (n := m) (fun i h1 _ => hz (i + d) (by omega))
  rw [e] at h
  exact h
end Go.Proofs.Ythifemkbemhmnaa
