/- Form of whole numbers: exact, and so it adds up. -/
import Derived.Test.YtjnggbpifclpcabWh
import Derived.Test.YtjnggbpifclpcabVh
namespace Go.Proofs.Ytjnggbpifclpcab
open Go.ChangeShapes Go.WideShapes Go.ChangeAt Go.RowKit Go.Fl Ieee

/-- A number of whole parts. -/
def WW (p : CN) (a b : Int) : Prop := WH p.1 a ∧ WH p.2 b
def sumZ (F : Nat → Int) : Nat → Int
  | 0 => 0
  | n + 1 => sumZ F n + F n
theorem sumZ_add (F G : Nat → Int) : ∀ n, sumZ (fun k => F k + G k) n = sumZ F n + sumZ G n
  | 0 => rfl
  | n + 1 => by rw [sumZ, sumZ, sumZ, sumZ_add F G n]; omega
theorem sumZ_congr {F G : Nat → Int} : ∀ n, (∀ k, k < n → F k = G k) → sumZ F n = sumZ G n
  | 0, _ => rfl
  | n + 1, h => by rw [sumZ, sumZ, sumZ_congr n fun k hk => h k (by omega), h n (by omega)]
/-- At most 2^20 in magnitude. -/
def B20 (z : Int) : Prop := -1048576 ≤ z ∧ z ≤ 1048576
theorem prod_bd {a b : Int} (ha : B20 a) (hb : B20 b) : -1099511627776 ≤ a * b ∧ a * b ≤ 1099511627776 := by
  have h1 : (a * b).natAbs ≤ 1048576 * 1048576 := by
    rw [Int.natAbs_mul]
    exact Nat.mul_le_mul (by have := ha; unfold B20 at this; omega) (by have := hb; unfold B20 at this; omega)
  omega
theorem B20.neg {z : Int} (h : B20 z) : B20 (-z) := by unfold B20 at *; omega
theorem sum_wh {F : Nat → Option Nat} {Z : Nat → Int} : ∀ n, n < 64 → (∀ i, i < n + 1 → WH (F i) (Z i) ∧ -2199023255552 ≤ Z i ∧ Z i ≤ 2199023255552) → WH (sumN F (n + 1)) (sumZ Z (n + 1)) ∧ -(2199023255552 * ((n : Int) + 1)) ≤ sumZ Z (n + 1) ∧ sumZ Z (n + 1) ≤ 2199023255552 * ((n : Int) + 1)
  | 0, _, h => by
    obtain ⟨h1, h2, h3⟩ := h 0 (by omega)
    refine ⟨h1.cast (by show _ = 0 + Z 0; omega), ?_, ?_⟩
    · show _ ≤ 0 + Z 0; omega
    · show 0 + Z 0 ≤ _; omega
  | n + 1, hn, h => by
    obtain ⟨a1, a2, a3⟩ := sum_wh n (by omega) fun i hi => h i (by omega)
    obtain ⟨h1, h2, h3⟩ := h (n + 1) (by omega)
    have e : sumZ Z (n + 1 + 1) = sumZ Z (n + 1) + Z (n + 1) := rfl
    have hn' : (n : Int) ≤ 62 := by omega
    rw [e]
    refine ⟨?_, by omega, by omega⟩
    rw [sumN_step]
    exact a1.add h1 (by unfold P53; omega) (by unfold P53; omega)
theorem mul_ww {p q : CN} {a b c d : Int} (hp : WW p a b) (hq : WW q c d) (ha : B20 a) (hb : B20 b) (hc : B20 c) (hd : B20 d) : (WH (mulR p.1 p.2 q.1 (q.2.map neg)) (a * c - b * -d) ∧ -2199023255552 ≤ a * c - b * -d ∧ a * c - b * -d ≤ 2199023255552) ∧ (WH (mulI p.1 p.2 q.1 (q.2.map neg)) (a * -d + b * c) ∧ -2199023255552 ≤ a * -d + b * c ∧ a * -d + b * c ≤ 2199023255552) := by
  have k1 := prod_bd ha hc
  have k2 := prod_bd hb hd.neg
  have k3 := prod_bd ha hd.neg
  have k4 := prod_bd hb hc
  have hn := hq.2.neg
  have m1 := hp.1.mul hq.1 (by unfold P53; omega) (by unfold P53; omega)
  have m2 := hp.2.mul hn (by unfold P53; omega) (by unfold P53; omega)
  have m3 := hp.1.mul hn (by unfold P53; omega) (by unfold P53; omega)
  have m4 := hp.2.mul hq.1 (by unfold P53; omega) (by unfold P53; omega)
  exact ⟨⟨m1.sub m2 (by unfold P53; omega) (by unfold P53; omega), by omega, by omega⟩, ⟨m3.add m4 (by unfold P53; omega) (by unfold P53; omega), by omega, by omega⟩⟩
theorem form_ww {X Y : Nat → CN} {xr xi yr yi : Nat → Int} {n : Nat} (hn : n < 64) (hX : ∀ k, k < n + 1 → WW (X k) (xr k) (xi k) ∧ B20 (xr k) ∧ B20 (xi k)) (hY : ∀ k, k < n + 1 → WW (Y k) (yr k) (yi k) ∧ B20 (yr k) ∧ B20 (yi k)) :
    WW (formT X Y (n + 1)) (sumZ (fun k => xr k * yr k - xi k * -(yi k)) (n + 1)) (sumZ (fun k => xr k * -(yi k) + xi k * yr k) (n + 1)) ∧ (-140737488355328 ≤ sumZ (fun k => xr k * yr k - xi k * -(yi k)) (n + 1) ∧ sumZ (fun k => xr k * yr k - xi k * -(yi k)) (n + 1) ≤ 140737488355328) ∧ (-140737488355328 ≤ sumZ (fun k => xr k * -(yi k) + xi k * yr k) (n + 1) ∧ sumZ (fun k => xr k * -(yi k) + xi k * yr k) (n + 1) ≤ 140737488355328) := by
  obtain ⟨a1, a2, a3⟩ := sum_wh (F := fun k => mulR (X k).1 (X k).2 (Y k).1 ((Y k).2.map neg)) (Z := fun k => xr k * yr k - xi k * -(yi k)) n hn fun i hi => (mul_ww (hX i hi).1 (hY i hi).1 (hX i hi).2.1 (hX i hi).2.2 (hY i hi).2.1 (hY i hi).2.2).1
  obtain ⟨b1, b2, b3⟩ := sum_wh (F := fun k => mulI (X k).1 (X k).2 (Y k).1 ((Y k).2.map neg)) (Z := fun k => xr k * -(yi k) + xi k * yr k) n hn fun i hi => (mul_ww (hX i hi).1 (hY i hi).1 (hX i hi).2.1 (hX i hi).2.2 (hY i hi).2.1 (hY i hi).2.2).2
  have hn' : (n : Int) ≤ 63 := by omega
  exact ⟨⟨a1, b1⟩, ⟨by omega, by omega⟩, ⟨by omega, by omega⟩⟩
/-- What is formed of two tables together is what is formed of each, together: at one place. -/
theorem adds_ok {X1 X2 X3 Y : Nat → CN} {ar ai br bi yr yi : Nat → Int} {n : Nat} (hn : n < 64) (h1 : ∀ k, k < n + 1 → WW (X1 k) (ar k) (ai k) ∧ B20 (ar k) ∧ B20 (ai k)) (h2 : ∀ k, k < n + 1 → WW (X2 k) (br k) (bi k) ∧ B20 (br k) ∧ B20 (bi k)) (h3 : ∀ k, k < n + 1 → WW (X3 k) (ar k + br k) (ai k + bi k) ∧ B20 (ar k + br k) ∧ B20 (ai k + bi k)) (hY : ∀ k, k < n + 1 → WW (Y k) (yr k) (yi k) ∧ B20 (yr k) ∧ B20 (yi k)) :
    ∃ p1 q1 p2 q2 p3 q3 r s, formT X1 Y (n + 1) = (some p1, some q1) ∧ formT X2 Y (n + 1) = (some p2, some q2) ∧ formT X3 Y (n + 1) = (some p3, some q3) ∧ bin .add (ab p1) (ab p2) = some r ∧ bin .add (ab q1) (ab q2) = some s ∧ eqF (ab p3) (ab r) = true ∧ eqF (ab q3) (ab s) = true := by
  obtain ⟨⟨a1, a2⟩, a3, a4⟩ := form_ww hn h1 hY
  obtain ⟨⟨b1, b2⟩, b3, b4⟩ := form_ww hn h2 hY
  obtain ⟨⟨c1, c2⟩, c3, c4⟩ := form_ww hn h3 hY
  have e1 : sumZ (fun k => (ar k + br k) * yr k - (ai k + bi k) * -(yi k)) (n + 1) = sumZ (fun k => ar k * yr k - ai k * -(yi k)) (n + 1) + sumZ (fun k => br k * yr k - bi k * -(yi k)) (n + 1) := by
    rw [← sumZ_add]
    exact sumZ_congr _ fun k _ => by rw [Int.add_mul, Int.add_mul]; omega
  have e2 : sumZ (fun k => (ar k + br k) * -(yi k) + (ai k + bi k) * yr k) (n + 1) = sumZ (fun k => ar k * -(yi k) + ai k * yr k) (n + 1) + sumZ (fun k => br k * -(yi k) + bi k * yr k) (n + 1) := by
    rw [← sumZ_add]
    exact sumZ_congr _ fun k _ => by rw [Int.add_mul, Int.add_mul]; omega
  have s1 := a1.add b1 (by unfold P53; omega) (by unfold P53; omega)
  have s2 := a2.add b2 (by unfold P53; omega) (by unfold P53; omega)
  have q1 := c1.eq s1
  have q2 := c2.eq s2
  rw [e1] at q1
  rw [e2] at q2
  obtain ⟨x1, i1, f1, -⟩ := a1
  obtain ⟨x2, i2, f2, -⟩ := a2
  obtain ⟨x3, i3, f3, -⟩ := b1
  obtain ⟨x4, i4, f4, -⟩ := b2
  obtain ⟨x5, i5, f5, -⟩ := c1
  obtain ⟨x6, i6, f6, -⟩ := c2
  obtain ⟨x7, i7, f7, -⟩ := s1
  obtain ⟨x8, i8, f8, -⟩ := s2
  refine ⟨x1, x2, x3, x4, x5, x6, x7, x8, Prod.ext i1 i2, Prod.ext i3 i4, Prod.ext i5 i6, ?_, ?_, ?_, ?_⟩
  · rw [Fnt.ab f1, Fnt.ab f3, ← i1, ← i3]; exact i7
  · rw [Fnt.ab f2, Fnt.ab f4, ← i2, ← i4]; exact i8
  · rw [Fnt.ab f5, Fnt.ab f7, ← i5, ← i7, q1]; simp
  · rw [Fnt.ab f6, Fnt.ab f8, ← i6, ← i8, q2]; simp
end Go.Proofs.Ytjnggbpifclpcab
