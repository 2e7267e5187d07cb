/- A ring and a line of whole numbers. -/
import Derived.Test.YtdpogojhpfejjaaRj
namespace Go.Proofs.Ytdpogojhpfejjaa
open Go.Fl Ieee Go.RowKit

def tI (b2 : Int) (X : Nat → Int) : Nat → Int
  | 0 => 0
  | i + 1 => X i * b2
def sI (b1 b2 : Int) (X : Nat → Int) : Nat → Int
  | 0 => 0
  | i + 1 => X i * b1 + tI b2 X i
def yI (b0 b1 b2 : Int) (X : Nat → Int) (i : Nat) : Int := X i * b0 + sI b1 b2 X i
def K40 : Int := 1099511627776
theorem ring_step {B0 B1 B2 : Option Nat} {b0 b1 b2 : Int} (h0 : WH B0 b0) (h1 : WH B1 b1) (h2 : WH B2 b2) {x s t : C2} {p q sp sq tp tq : Int} (hx : WP x p q) (hs : WP s sp sq) (ht : WP t tp tq)
    (p0 : Sm K40 (p * b0)) (p1 : Sm K40 (p * b1)) (p2 : Sm K40 (p * b2)) (q0 : Sm K40 (q * b0)) (q1 : Sm K40 (q * b1)) (q2 : Sm K40 (q * b2)) (es : Sm (2 * K40) sp) (fs : Sm (2 * K40) sq) (et : Sm K40 tp) (ft : Sm K40 tq) :
    RV B0 B1 B2 (ab 0) (ab 0) x s t ∧ WP (addC (sclC x B0) s) (p * b0 + sp) (q * b0 + sq) ∧ WP (addC (subC (sclC x B1) (sclC (addC (sclC x B0) s) (ab 0))) t) (p * b1 + tp) (q * b1 + tq) ∧ WP (subC (sclC x B2) (sclC (addC (sclC x B0) s) (ab 0))) (p * b2) (q * b2) := by
  unfold Sm K40 at *
  have a1 : WP (sclC x B0) (p * b0) (q * b0) := hx.scl h0 (by unfold Sm; omega) (by unfold Sm; omega)
  have a2 : WP (addC (sclC x B0) s) (p * b0 + sp) (q * b0 + sq) := a1.add hs (by unfold Sm; omega) (by unfold Sm; omega)
  have a3 : WP (sclC x B1) (p * b1) (q * b1) := hx.scl h1 (by unfold Sm; omega) (by unfold Sm; omega)
  have a4 : WP (sclC (addC (sclC x B0) s) (ab 0)) 0 0 := (a2.scl WH.zero (by unfold Sm; omega) (by unfold Sm; omega)).cast (by omega) (by omega)
  have a5 : WP (subC (sclC x B1) (sclC (addC (sclC x B0) s) (ab 0))) (p * b1) (q * b1) := (a3.sub a4 (by unfold Sm; omega) (by unfold Sm; omega)).cast (by omega) (by omega)
  have a6 : WP (addC (subC (sclC x B1) (sclC (addC (sclC x B0) s) (ab 0))) t) (p * b1 + tp) (q * b1 + tq) := a5.add ht (by unfold Sm; omega) (by unfold Sm; omega)
  have a7 : WP (sclC x B2) (p * b2) (q * b2) := hx.scl h2 (by unfold Sm; omega) (by unfold Sm; omega)
  have a9 : WP (subC (sclC x B2) (sclC (addC (sclC x B0) s) (ab 0))) (p * b2) (q * b2) := (a7.sub a4 (by unfold Sm; omega) (by unfold Sm; omega)).cast (by omega) (by omega)
  exact ⟨⟨a1.ok, a2.ok, a3.ok, a4.ok, a5.ok, a6.ok, a7.ok, a4.ok, a9.ok⟩, a2, a6, a9⟩
/-- Whole samples and whole numbers of a ring, of at most 2^20. -/
structure Whole (B0 B1 B2 : Option Nat) (b0 b1 b2 : Int) (f : Nat → C2) (X Y : Nat → Int) (n : Nat) : Prop where
  h0 : WH B0 b0
  h1 : WH B1 b1
  h2 : WH B2 b2
  hx : ∀ i, i < n → WP (f i) (X i) (Y i)
  px : ∀ i, i < n → Sm K40 (X i * b0) ∧ Sm K40 (X i * b1) ∧ Sm K40 (X i * b2)
  py : ∀ i, i < n → Sm K40 (Y i * b0) ∧ Sm K40 (Y i * b1) ∧ Sm K40 (Y i * b2)
theorem tI_sm {b1 b2 : Int} {X : Nat → Int} {n : Nat} (h : ∀ i, i < n → Sm K40 (X i * b1) ∧ Sm K40 (X i * b2)) {i : Nat} (hi : i ≤ n) : Sm K40 (tI b2 X i) ∧ Sm (2 * K40) (sI b1 b2 X i) := by
  have ht : ∀ j, j ≤ n → Sm K40 (tI b2 X j) := fun j hj => by
    cases j with
    | zero => simp only [Sm, K40, tI]; omega
    | succ j => exact (h j (by omega)).2
  refine ⟨ht i hi, ?_⟩
  cases i with
  | zero => simp only [Sm, K40, sI]; omega
  | succ j =>
    have a := (h j (by omega)).1
    have b := ht j (by omega)
    unfold Sm K40 at *
    rw [sI]; omega
theorem ring_whole {B0 B1 B2 : Option Nat} {b0 b1 b2 : Int} {f : Nat → C2} {X Y : Nat → Int} {n : Nat} (h : Whole B0 B1 B2 b0 b1 b2 f X Y n) : ∀ i, i ≤ n → WP (ringS B0 B1 B2 (ab 0) (ab 0) f i).1 (sI b1 b2 X i) (sI b1 b2 Y i) ∧ WP (ringS B0 B1 B2 (ab 0) (ab 0) f i).2 (tI b2 X i) (tI b2 Y i)
  | 0, _ => ⟨⟨WH.zero, WH.zero⟩, ⟨WH.zero, WH.zero⟩⟩
  | i + 1, hi => by
    obtain ⟨s1, t1⟩ := ring_whole h i (by omega)
    obtain ⟨e1, e2⟩ := tI_sm (fun j hj => (h.px j hj).2) (i := i) (by omega)
    obtain ⟨f1, f2⟩ := tI_sm (fun j hj => (h.py j hj).2) (i := i) (by omega)
    obtain ⟨p0, p1, p2⟩ := h.px i (by omega)
    obtain ⟨q0, q1, q2⟩ := h.py i (by omega)
    obtain ⟨_, _, r3, r4⟩ := ring_step h.h0 h.h1 h.h2 (h.hx i (by omega)) s1 t1 p0 p1 p2 q0 q1 q2 e2 f2 e1 f1
    exact ⟨r3, r4⟩
theorem ring_told {B0 B1 B2 : Option Nat} {b0 b1 b2 : Int} {f : Nat → C2} {X Y : Nat → Int} {n : Nat} (h : Whole B0 B1 B2 b0 b1 b2 f X Y n) (i : Nat) (hi : i < n) :
    RV B0 B1 B2 (ab 0) (ab 0) (f i) (ringS B0 B1 B2 (ab 0) (ab 0) f i).1 (ringS B0 B1 B2 (ab 0) (ab 0) f i).2 ∧ WP (ringY B0 B1 B2 (ab 0) (ab 0) f i) (yI b0 b1 b2 X i) (yI b0 b1 b2 Y i) := by
  obtain ⟨s1, t1⟩ := ring_whole h i (by omega)
  obtain ⟨e1, e2⟩ := tI_sm (fun j hj => (h.px j hj).2) (i := i) (by omega)
  obtain ⟨f1, f2⟩ := tI_sm (fun j hj => (h.py j hj).2) (i := i) (by omega)
  obtain ⟨p0, p1, p2⟩ := h.px i (by omega)
  obtain ⟨q0, q1, q2⟩ := h.py i (by omega)
  obtain ⟨r1, r2, _, _⟩ := ring_step h.h0 h.h1 h.h2 (h.hx i (by omega)) s1 t1 p0 p1 p2 q0 q1 q2 e2 f2 e1 f1
  exact ⟨r1, r2⟩
/-- A tap times a sample. -/
theorem tap_whole {c z : Option Nat} {x : C2} {b p q : Int} (hc : WH c b) (hz : WH z 0) (hx : WP x p q) (hp : Sm K40 (p * b)) (hq : Sm K40 (q * b)) : WH (mulR c z x.1 x.2) (p * b) ∧ WH (mulI c z x.1 x.2) (q * b) := by
  rw [Int.mul_comm p, Int.mul_comm q] at *
  unfold Sm K40 at *
  have a1 := hc.mul hx.1 (by unfold P53; omega) (by unfold P53; omega)
  have a2 := hz.mul hx.2 (by unfold P53; omega) (by unfold P53; omega)
  have a3 := hc.mul hx.2 (by unfold P53; omega) (by unfold P53; omega)
  have a4 := hz.mul hx.1 (by unfold P53; omega) (by unfold P53; omega)
  exact ⟨(a1.sub a2 (by unfold P53; omega) (by unfold P53; omega)).cast (by omega), (a3.add a4 (by unfold P53; omega) (by unfold P53; omega)).cast (by omega)⟩
theorem line_told {tp x : Nat → Nat × Nat} {b0 b1 b2 : Int} {X Y : Nat → Int} {n : Nat} (t0 : WP (ab2 (tp 0)) b0 0) (t1 : WP (ab2 (tp 1)) b1 0) (t2 : WP (ab2 (tp 2)) b2 0) (hx : ∀ i, i < n → WP (ab2 (x i)) (X i) (Y i))
    (px : ∀ i, i < n → Sm K40 (X i * b0) ∧ Sm K40 (X i * b1) ∧ Sm K40 (X i * b2)) (py : ∀ i, i < n → Sm K40 (Y i * b0) ∧ Sm K40 (Y i * b1) ∧ Sm K40 (Y i * b2)) (i : Nat) (hi : i < n) : WP (lineF (2 + 1) tp x i) (yI b0 b1 b2 X i) (yI b0 b1 b2 Y i) := by
  have u0 := tap_whole t0.1 t0.2 (hx i hi) (px i hi).1 (py i hi).1
  match i, hi, u0 with
  | 0, hi, u0 => exact ⟨u0.1.cast (by simp only [yI, sI]; omega), u0.2.cast (by simp only [yI, sI]; omega)⟩
  | 1, hi, u0 =>
    have u1 := tap_whole t1.1 t1.2 (hx 0 (by omega)) (px 0 (by omega)).2.1 (py 0 (by omega)).2.1
    have a0 := (px 1 hi).1
    have a1 := (px 0 (by omega)).2.1
    have c0 := (py 1 hi).1
    have c1 := (py 0 (by omega)).2.1
    unfold Sm K40 at a0 a1 c0 c1
    exact ⟨(u0.1.add u1.1 (by unfold P53; omega) (by unfold P53; omega)).cast (by simp only [yI, sI, tI]; omega), (u0.2.add u1.2 (by unfold P53; omega) (by unfold P53; omega)).cast (by simp only [yI, sI, tI]; omega)⟩
  | i + 2, hi, u0 =>
    have u1 := tap_whole t1.1 t1.2 (hx (i + 1) (by omega)) (px (i + 1) (by omega)).2.1 (py (i + 1) (by omega)).2.1
    have u2 := tap_whole t2.1 t2.2 (hx i (by omega)) (px i (by omega)).2.2 (py i (by omega)).2.2
    have a0 := (px (i + 2) hi).1
    have a1 := (px (i + 1) (by omega)).2.1
    have a2 := (px i (by omega)).2.2
    have c0 := (py (i + 2) hi).1
    have c1 := (py (i + 1) (by omega)).2.1
    have c2 := (py i (by omega)).2.2
    unfold Sm K40 at a0 a1 a2 c0 c1 c2
    have hmin : min (2 + 1) (i + 2 + 1) = 3 := by omega
    unfold lineF
    rw [hmin]
    have e1 : i + 2 - 1 = i + 1 := by omega
    have e2 : i + 2 - 2 = i := by omega
    refine ⟨?_, ?_⟩
    · have v := (u0.1.add u1.1 (by unfold P53; omega) (by unfold P53; omega)).add u2.1 (by unfold P53; omega) (by unfold P53; omega)
      exact v.cast (by simp only [yI, sI, tI]; omega)
    · have v := (u0.2.add u1.2 (by unfold P53; omega) (by unfold P53; omega)).add u2.2 (by unfold P53; omega) (by unfold P53; omega)
      exact v.cast (by simp only [yI, sI, tI]; omega)
theorem whole_eq {c d : C2} {p q : Int} (h : WP c p q) (k : WP d p q) : eqF c.1 d.1 = true ∧ eqF c.2 d.2 = true := by
  rw [h.1.eq k.1, h.2.eq k.2]; simp
end Go.Proofs.Ytdpogojhpfejjaa
