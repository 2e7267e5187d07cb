/- StillWeighed as whole numbers: differences, weighed sums. -/
import Derived.Test.YtgalgnopjcpocaaDe
import Derived.Test.YtgalgnopjcpocaaQa
import Derived.Test.YtgalgnopjcpocaaWh
namespace Go.Proofs.Ytgalgnopjcpocaa
open Go.ChangeShapes Go.WideShapes Go.ChangeAt Go.RowKit Go.Fl Ieee

/-- Differences of whole numbers. -/
def zk (F : Nat → Int) : Nat → Nat → Int
  | 0, a => F a
  | k + 1, a => if k < a then zk F k a - zk F k (a - 1) else zk F k a
def bd (M : Int) : Nat → Int
  | 0 => M
  | k + 1 => bd M k + bd M k
theorem bd_le {M : Int} (hM : 0 ≤ M) : ∀ k, k ≤ 8 → 0 ≤ bd M k ∧ bd M k ≤ 256 * M
  | 0, _ => by simp only [bd]; omega
  | 1, _ => by simp only [bd]; omega
  | 2, _ => by simp only [bd]; omega
  | 3, _ => by simp only [bd]; omega
  | 4, _ => by simp only [bd]; omega
  | 5, _ => by simp only [bd]; omega
  | 6, _ => by simp only [bd]; omega
  | 7, _ => by simp only [bd]; omega
  | 8, _ => by simp only [bd]; omega
  | k + 9, h => by omega
theorem zk_le {F : Nat → Int} {M : Int} (hM : 0 ≤ M) (h : ∀ a, -M ≤ F a ∧ F a ≤ M) : ∀ k, k ≤ 8 → ∀ a, -bd M k ≤ zk F k a ∧ zk F k a ≤ bd M k
  | 0, _, a => h a
  | k + 1, hk, a => by
    have i1 := zk_le hM h k (by omega) a
    have i2 := zk_le hM h k (by omega) (a - 1)
    have b := (bd_le hM k (by omega)).1
    simp only [zk, bd]
    split <;> omega
/-- What is added to all rows goes. -/
theorem zk_more {F G : Nat → Int} {m : Int} (h : ∀ a, G a = F a + m) : ∀ k a, k ≤ a → zk G k a = zk F k a + (if k = 0 then m else 0)
  | 0, a, _ => by simp only [zk, if_true]; exact h a
  | k + 1, a, ha => by
    simp only [zk]
    rw [if_pos (by omega), if_pos (by omega), zk_more h k a (by omega), zk_more h k (a - 1) (by omega), if_neg (show ¬ k + 1 = 0 by omega)]
    generalize (if k = 0 then m else 0) = c
    omega
/-- A weighed sum of the first numbers. -/
def ws (f F : Nat → Int) (p : Nat) : Nat → Int
  | 0 => 0
  | n + 1 => ws f F p n + f n * F (p + n)
theorem ws_congr {f g F : Nat → Int} {p : Nat} : ∀ n, (∀ j, j < n → f j = g j) → ws f F p n = ws g F p n
  | 0, _ => rfl
  | n + 1, h => by rw [ws, ws, ws_congr n (fun j hj => h j (by omega)), h n (by omega)]
theorem ws_sub {f g F : Nat → Int} {p : Nat} : ∀ n, ws (fun j => f j - g j) F p n = ws f F p n - ws g F p n
  | 0 => rfl
  | n + 1 => by
    rw [ws, ws, ws, ws_sub n, Int.sub_mul]
    omega
theorem ws_shift {f F : Nat → Int} {p : Nat} : ∀ n, ws (fun j => if j = 0 then 0 else f (j - 1)) F p (n + 1) = ws f F (p + 1) n
  | 0 => by simp [ws]
  | n + 1 => by
    rw [ws, ws_shift n, if_neg (by omega), ws, show p + (n + 1) = p + 1 + n by omega, Nat.add_sub_cancel]
theorem ws_end {f F : Nat → Int} {p n : Nat} : ws (fun j => if j = n then 0 else f j) F p (n + 1) = ws f F p n := by
  rw [ws, if_pos rfl, Int.zero_mul, Int.add_zero]
  exact ws_congr n fun j hj => if_neg (by omega)
theorem wgt_next : ∀ o, o < 8 → ∀ j, j < o + 2 → wgt (o + 1) j = (if j = 0 then 0 else wgt o (j - 1)) - (if j = o + 1 then 0 else wgt o j) := by decide +kernel
/-- The differences are the weighed sum. -/
theorem zk_ws {F : Nat → Int} : ∀ o, o ≤ 8 → ∀ p, zk F o (p + o) = ws (wgt o) F p (o + 1)
  | 0, _, p => by
    have e : wgt 0 0 = 1 := by decide +kernel
    simp [zk, ws, e]
  | o + 1, h, p => by
    rw [ws_congr (g := fun j => (if j = 0 then 0 else wgt o (j - 1)) - (if j = o + 1 then 0 else wgt o j)) (o + 2) (fun j hj => wgt_next o (by omega) j hj), ws_sub, ws_shift, ws_end, ← zk_ws o (by omega), ← zk_ws o (by omega)]
    simp only [zk]
    rw [if_pos (by omega), show p + 1 + o = p + (o + 1) by omega, show p + (o + 1) - 1 = p + o by omega]
theorem ws_le {F : Nat → Int} {M : Nat} {o p : Nat} (ho : o < 9) (h : ∀ a, (F a).natAbs ≤ M) : ∀ n, n ≤ o + 1 → (ws (wgt o) F p n).natAbs ≤ n * (70 * M)
  | 0, _ => by simp [ws]
  | n + 1, hn => by
    have i := ws_le ho h n (by omega) (p := p)
    have b := wgt_small o ho n (by omega)
    have c : (wgt o n * F (p + n)).natAbs ≤ 70 * M := by
      rw [Int.natAbs_mul]
      exact Nat.mul_le_mul (by omega) (h (p + n))
    rw [ws, Nat.succ_mul]
    omega
/-- A pair of floats that are whole numbers. -/
def WH2 (p : C2) (z : Int × Int) : Prop := WH p.1 z.1 ∧ WH p.2 z.2
theorem dk_wh {G : Nat → Nat → C2} {F : Nat → Nat → Int × Int} {N g : Nat} {M : Int} (hM : 0 ≤ M) (hM2 : M ≤ 2199023255552) (hG : ∀ a, a < N → WH2 (G a g) (F a g)) (h1 : ∀ a, -M ≤ (F a g).1 ∧ (F a g).1 ≤ M) (h2 : ∀ a, -M ≤ (F a g).2 ∧ (F a g).2 ≤ M) :
    ∀ k, k ≤ 8 → ∀ a, a < N → WH2 (dk G k a g) (zk (fun b => (F b g).1) k a, zk (fun b => (F b g).2) k a)
  | 0, _, a, ha => hG a ha
  | k + 1, hk, a, ha => by
    have i1 := dk_wh hM hM2 hG h1 h2 k (by omega) a ha
    have i2 := dk_wh hM hM2 hG h1 h2 k (by omega) (a - 1) (by omega)
    have b := bd_le hM k (by omega)
    have l1 := zk_le hM h1 k (by omega) a
    have l2 := zk_le hM h1 k (by omega) (a - 1)
    have l3 := zk_le hM h2 k (by omega) a
    have l4 := zk_le hM h2 k (by omega) (a - 1)
    simp only [dk, zk]
    split
    · exact ⟨i1.1.sub i2.1 (by unfold P53; omega) (by unfold P53; omega), i1.2.sub i2.2 (by unfold P53; omega) (by unfold P53; omega)⟩
    · exact i1
/-- One more of the weighed sum. -/
theorem ws_next {o p n M : Nat} {F : Nat → Int} {s x : Option Nat} {t : Nat} (ho : o < 9) (hn : n < o + 1) (h : ∀ a, (F a).natAbs ≤ M) (hM : M ≤ 549755813888) (hs : WH s (ws (wgt o) F p n)) (ht : WH (ab t) (F (p + n))) (hx : x = bin .add s (bin .mul (ab (floatOfInt .f64 (wgt o n))) (ab t))) : WH x (ws (wgt o) F p (n + 1)) := by
  have b := wgt_small o ho n hn
  have c : (wgt o n * F (p + n)).natAbs ≤ 70 * M := by
    rw [Int.natAbs_mul]
    exact Nat.mul_le_mul (by omega) (h (p + n))
  have d := ws_le (p := p) ho h (n + 1) (by omega)
  have d2 : (n + 1) * (70 * M) ≤ 9 * (70 * M) := Nat.mul_le_mul_right _ (by omega)
  have e : WH (ab (floatOfInt .f64 (wgt o n))) (wgt o n) := WH.int (by unfold P53; omega) (by unfold P53; omega)
  have d3 : ws (wgt o) F p (n + 1) = ws (wgt o) F p n + wgt o n * F (p + n) := rfl
  rw [d3] at d ⊢
  rw [hx]
  exact hs.add (e.mul ht (by unfold P53; omega) (by unfold P53; omega)) (by unfold P53; omega) (by unfold P53; omega)
end Go.Proofs.Ytgalgnopjcpocaa
