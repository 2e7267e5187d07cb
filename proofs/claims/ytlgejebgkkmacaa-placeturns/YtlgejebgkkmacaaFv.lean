/- Rows of floats, folded: how far the outcome is from the polynomial. No program is spoken of here. -/
import Derived.Test.YtlgejebgkkmacaaFu
namespace Go.Fl
open Ieee Go.RowKit

/-- A polynomial's value. -/
def evalP : List Rat → Rat → Rat
  | [], _ => 0
  | a :: l, z => a + z * evalP l z
def addP : List Rat → List Rat → List Rat
  | [], m => m
  | l, [] => l
  | a :: l, b :: m => (a + b) :: addP l m
def mulP : List Rat → List Rat → List Rat
  | [], _ => []
  | a :: l, m => addP (m.map (a * ·)) (0 :: mulP l m)
theorem eval_add (z : Rat) : ∀ l m, evalP (addP l m) z = evalP l z + evalP m z
  | [], m => by simp [addP, evalP, Rat.zero_add]
  | a :: l, [] => by simp [addP, evalP, Rat.add_zero]
  | a :: l, b :: m => by simp only [addP, evalP, eval_add z l m]; grind
theorem eval_scale (a z : Rat) : ∀ m, evalP (m.map (a * ·)) z = a * evalP m z
  | [] => by simp [evalP, Rat.mul_zero]
  | b :: m => by simp only [List.map_cons, evalP, eval_scale a z m]; grind
theorem eval_mul (z : Rat) : ∀ l m, evalP (mulP l m) z = evalP l z * evalP m z
  | [], m => by simp [mulP, evalP, Rat.zero_mul]
  | a :: l, m => by simp only [mulP, eval_add, eval_scale, evalP, eval_mul z l m]; grind
def absR (a : Rat) : Rat := if a < 0 then -a else a
theorem absR_le (a : Rat) : a ≤ absR a ∧ -a ≤ absR a ∧ 0 ≤ absR a := by unfold absR; split <;> grind
/-- The greatest that a polynomial can be, up to Z. -/
def absP (Z : Rat) : List Rat → Rat
  | [] => 0
  | a :: l => absR a + Z * absP Z l
theorem absP_nonneg {Z : Rat} (hZ : 0 ≤ Z) : ∀ l, 0 ≤ absP Z l
  | [] => by simp [absP]
  | a :: l => by
    have h1 := Rat.mul_nonneg hZ (absP_nonneg hZ l)
    have h2 := absR_le a
    simp only [absP]; grind
theorem eval_abs {Z z : Rat} (h0 : 0 ≤ z) (hz : z ≤ Z) : ∀ l, evalP l z ≤ absP Z l ∧ -evalP l z ≤ absP Z l
  | [] => by simp [evalP, absP]
  | a :: l => by
    obtain ⟨h1, h2⟩ := eval_abs h0 hz l
    have h3 := absR_le a
    have h4 := Rat.mul_le_mul_of_nonneg_left h1 h0
    have h5 := Rat.mul_le_mul_of_nonneg_left h2 h0
    have h6 := Rat.mul_le_mul_of_nonneg_right hz (absP_nonneg (Rat.le_trans h0 hz) l)
    simp only [evalP, absP]
    constructor <;> grind
/-- 2^-53, and a bound for what is lost among the least numbers. -/
def u53 : Rat := 1 / 9007199254740992
def h80 : Rat := 1 / 1208925819614629174706176
theorem eta_le : pw (-1075) ≤ h80 := by
  have := pw_mono (show (-1075 : Int) ≤ -80 by omega)
  have b : pw (-80) = h80 := by decide +kernel
  rw [← b]; exact this
theorem big_ok {B : Rat} (h : B ≤ 2) : B ≤ pw 1000 := by
  have := pw_mono (show (1 : Int) ≤ 1000 by omega)
  have b : pw 1 = 2 := by decide +kernel
  generalize pw 1000 = W at *
  grind
/-- To fold a row, from its last number down to its first. -/
def foldG : List Nat → Option Nat → Option Nat
  | [], _ => none
  | [c], _ => some c
  | c :: r, z => bin .add (bin .mul (foldG r z) z) (some c)
/-- The error of a fold. -/
def errP (Z : Rat) : List Rat → Rat
  | [] => 0
  | [_] => 0
  | a :: b :: r =>
    let E := errP Z (b :: r)
    let P := Z * (absP Z (b :: r) + E)
    Z * E + (u53 * P + h80) + u53 * (P + (u53 * P + h80) + absR a)
/-- All of a row's numbers stay small. -/
def okP (Z : Rat) : List Rat → Bool
  | [] => true
  | [_] => true
  | a :: b :: r =>
    let P := Z * (absP Z (b :: r) + errP Z (b :: r))
    okP Z (b :: r) && decide (0 ≤ errP Z (b :: r)) && decide (P ≤ 2) && decide (P + (u53 * P + h80) + absR a ≤ 2)
theorem bin_some_mul {x y : Nat} (hx : Fnt x) (hy : Fnt y) : ∃ r, bin .mul (some x) (some y) = some r := by
  obtain ⟨s, m, i, ex⟩ := fin_read hx
  obtain ⟨t, n, j, ey⟩ := fin_read hy
  show ∃ r, double.mul x y = some r
  unfold Format.mul
  rw [ex, ey]
  exact ⟨_, rfl⟩
theorem bin_some_add {x y : Nat} (hx : Fnt x) (hy : Fnt y) : ∃ r, bin .add (some x) (some y) = some r := by
  obtain ⟨s, m, i, ex⟩ := fin_read hx
  obtain ⟨t, n, j, ey⟩ := fin_read hy
  show ∃ r, double.add x y = some r
  unfold Format.add
  rw [ex, ey]
  exact ⟨_, rfl⟩
theorem bin_some_sub {x y : Nat} (hx : Fnt x) (hy : Fnt y) : ∃ r, bin .sub (some x) (some y) = some r := by
  obtain ⟨s, m, i, ex⟩ := fin_read hx
  obtain ⟨t, n, j, ey⟩ := fin_read hy
  show ∃ r, double.sub x y = some r
  unfold Format.sub
  rw [ex, ey]
  exact ⟨_, rfl⟩
theorem fold_near {Z : Rat} {zf : Nat} (hz : Fnt zf) (h0 : 0 ≤ val zf) (hZ : val zf ≤ Z) (hZ1 : Z ≤ 1) : ∀ (L : List Nat), L ≠ [] → (∀ c ∈ L, Fnt c) → okP Z (L.map val) = true →
    ∃ p, foldG L (some zf) = some p ∧ Fnt p ∧ Near (val p) (evalP (L.map val) (val zf)) (errP Z (L.map val))
  | [], h, _, _ => absurd rfl h
  | [c], _, hf, _ => by
    refine ⟨c, rfl, hf c (by simp), ?_⟩
    simp only [List.map_cons, List.map_nil, evalP, errP, Near]
    constructor <;> grind
  | c :: d :: r, _, hf, hok => by
    have hZ0 : 0 ≤ Z := Rat.le_trans h0 hZ
    simp only [List.map_cons, okP, Bool.and_eq_true, decide_eq_true_eq] at hok
    obtain ⟨⟨⟨hok1, hE0⟩, hP⟩, hS⟩ := hok
    obtain ⟨p, e1, e2, e3⟩ := fold_near hz h0 hZ hZ1 (d :: r) (by simp) (fun x hx => hf x (by simp [hx])) (by simpa only [List.map_cons] using hok1)
    have hc : Fnt c := hf c (by simp)
    simp only [List.map_cons] at e3
    obtain ⟨a1, a2⟩ := eval_abs h0 hZ (val d :: r.map val)
    have an := absP_nonneg hZ0 (val d :: r.map val)
    generalize hA : absP Z (val d :: r.map val) = A at *
    generalize hEv : evalP (val d :: r.map val) (val zf) = V at *
    generalize hE : errP Z (val d :: r.map val) = E at *
    obtain ⟨e31, e32⟩ := e3
    -- the product
    obtain ⟨m, hm⟩ := bin_some_mul e2 hz
    obtain ⟨P, hPd⟩ : ∃ P : Rat, P = Z * (A + E) := ⟨_, rfl⟩
    rw [← hPd] at hP hS
    have b1 : val p ≤ A + E := by grind
    have b2 : -val p ≤ A + E := by grind
    have ae : 0 ≤ A + E := by grind
    have c1 := Rat.mul_le_mul_of_nonneg_right b1 h0
    have c2 := Rat.mul_le_mul_of_nonneg_right b2 h0
    have c3 := Rat.mul_le_mul_of_nonneg_right hZ ae
    have m1 : val p * val zf ≤ P := by rw [hPd]; grind
    have m2 : -P ≤ val p * val zf := by rw [hPd]; grind
    obtain ⟨f1, f2⟩ := mul_near e2 hz hm m1 m2 (big_ok hP)
    have hη := eta_le
    rw [pw53] at f2
    generalize pw (-1075) = η at *
    obtain ⟨f21, f22⟩ := f2
    -- the sum
    obtain ⟨t, ht⟩ := bin_some_add f1 hc
    have cA := absR_le (val c)
    obtain ⟨cA1, cA2, cA3⟩ := cA
    generalize hab : absR (val c) = a at *
    have hu : u53 = 1 / 9007199254740992 := rfl
    rw [hu] at hS
    generalize hh : h80 = h at *
    have s1 : val m + val c ≤ P + (1 / 9007199254740992 * P + h) + a := by grind
    have s2 : -(P + (1 / 9007199254740992 * P + h) + a) ≤ val m + val c := by grind
    obtain ⟨g1, g2⟩ := add_near f1 hc ht s1 s2 (big_ok hS)
    rw [pw53] at g2
    obtain ⟨g21, g22⟩ := g2
    refine ⟨t, ?_, g1, ?_⟩
    · show bin .add (bin .mul (foldG (d :: r) (some zf)) (some zf)) (some c) = some t
      rw [e1, hm, ht]
    · simp only [List.map_cons]
      rw [show errP Z (val c :: val d :: r.map val) = Z * E + (u53 * P + h) + u53 * (P + (u53 * P + h) + a) by simp only [errP, hE, hA, hab, hh, ← hPd], show evalP (val c :: val d :: r.map val) (val zf) = val c + val zf * V by simp only [evalP, ← hEv]]
      have k1 : (val p - V) * val zf ≤ E * val zf := Rat.mul_le_mul_of_nonneg_right (by grind) h0
      have k2 : (V - val p) * val zf ≤ E * val zf := Rat.mul_le_mul_of_nonneg_right (by grind) h0
      have k3 : val zf * E ≤ Z * E := Rat.mul_le_mul_of_nonneg_right hZ hE0
      rw [hu]
      unfold Near
      constructor <;> grind
end Go.Fl
