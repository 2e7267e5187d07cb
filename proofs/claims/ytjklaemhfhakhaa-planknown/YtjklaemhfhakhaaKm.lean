/- PlanKnown: its calls. -/
import Derived.Test.YtjklaemhfhakhaaKl
namespace Go.Proofs.Ytjklaemhfhakhaa
open Go.ChangeShapes Go.WideShapes Go.ChangeAt Go.RowKit

def m6 (b1 b2 b3 b4 b5 b6 : Nat) (x1 x2 x3 x4 x5 : Pl) : List PE := [⟨b1, 2, x1⟩, ⟨b2, 2, x2⟩, ⟨b3, 1, x3⟩, ⟨b4, 0, x4⟩, ⟨b5, 1, x5⟩, ⟨b6, 2, fU 0⟩]
theorem k_n1 (w0 : World) : Calls Try.prog 10 #[.slice (some ⟨w0.heap.size, 0, none⟩) 2 2] (w0.alloc (.cells #[.int .i64 2, .int .i64 1, .int .i64 0, .int .i64 2, .int .i64 1, .int .i64 9] 26)) (fun e w' => ∃ b1, e = .returned (.tuple #[.pointer (some ⟨b1, 0, none⟩), .int .i64 0]) ∧ Hid (PL w0 w' w'.heap.size ([⟨b1, 2, newP aT⟩]))) := by
  refine (((PL.start w0).upw (Up.alloc _ _)).c10 (tl_tw w0 ⟨2, 1, 0⟩ ⟨2, 1, 9⟩) (by omega) (may_tw (mayI (by show (1 : Int) ≤ 1; decide) (by show (1 : Int) ≤ 2; decide) (by show (2 : Int) ≤ 1099511627776; decide)) (mayI (by show (1 : Int) ≤ 1; decide) (by show (1 : Int) ≤ 2; decide) (by show (2 : Int) ≤ 1099511627776; decide)))).mono ?_
  rintro e w' ⟨b1, rfl, k1, k2⟩
  exact ⟨b1, rfl, k1⟩
theorem k_n2 {w0 W : World} {B : Nat} {b1 : Nat} (h : PL w0 W B [⟨b1, 2, newP aT⟩]) : Calls Try.prog 10 #[.slice (some ⟨W.heap.size, 0, none⟩) 2 2] (W.alloc (.cells #[.int .i64 2, .int .i64 2, .int .i64 0, .int .i64 3, .int .i64 1, .int .i64 0] 26)) (fun e w' => ∃ b2, e = .returned (.tuple #[.pointer (some ⟨b2, 0, none⟩), .int .i64 0]) ∧ Hid (PL w0 w' w'.heap.size ([⟨b1, 2, newP aT⟩, ⟨b2, 2, newP bT⟩]))) := by
  refine ((h.upw (Up.alloc _ _)).c10 (tl_tw W ⟨2, 2, 0⟩ ⟨3, 1, 0⟩) (by omega) (may_tw (mayI (by show (1 : Int) ≤ 2; decide) (by show (2 : Int) ≤ 2; decide) (by show (2 : Int) ≤ 1099511627776; decide)) (mayI (by show (1 : Int) ≤ 1; decide) (by show (1 : Int) ≤ 3; decide) (by show (3 : Int) ≤ 1099511627776; decide)))).mono ?_
  rintro e w' ⟨b2, rfl, k1, k2⟩
  exact ⟨b2, rfl, k1⟩
theorem k_n3 {w0 W : World} {B : Nat} {b1 b2 : Nat} (h : PL w0 W B [⟨b1, 2, newP aT⟩, ⟨b2, 2, newP bT⟩]) : Calls Try.prog 10 #[.slice (some ⟨W.heap.size, 0, none⟩) 1 1] (W.alloc (.cells #[.int .i64 4, .int .i64 2, .int .i64 0] 26)) (fun e w' => ∃ b3, e = .returned (.tuple #[.pointer (some ⟨b3, 0, none⟩), .int .i64 0]) ∧ Hid (PL w0 w' w'.heap.size ([⟨b1, 2, newP aT⟩, ⟨b2, 2, newP bT⟩, ⟨b3, 1, newP cT⟩]))) := by
  refine ((h.upw (Up.alloc _ _)).c10 (tl_tn W ⟨4, 2, 0⟩) (by omega) (fun i _ => (mayI (by show (1 : Int) ≤ 2; decide) (by show (2 : Int) ≤ 4; decide) (by show (4 : Int) ≤ 1099511627776; decide)))).mono ?_
  rintro e w' ⟨b3, rfl, k1, k2⟩
  exact ⟨b3, rfl, k1⟩
theorem k_n4 {w0 W : World} {B : Nat} {b1 b2 b3 : Nat} (h : PL w0 W B [⟨b1, 2, newP aT⟩, ⟨b2, 2, newP bT⟩, ⟨b3, 1, newP cT⟩]) : Calls Try.prog 10 #[.slice none 0 0] W (fun e w' => ∃ b4, e = .returned (.tuple #[.pointer (some ⟨b4, 0, none⟩), .int .i64 0]) ∧ Hid (PL w0 w' w'.heap.size ([⟨b1, 2, newP aT⟩, ⟨b2, 2, newP bT⟩, ⟨b3, 1, newP cT⟩, ⟨b4, 0, nP⟩]))) := by
  refine (h.c10 (tl_nil W (tn Tk.zero)) (by omega) (fun i hi => by omega)).mono ?_
  rintro e w' ⟨b4, rfl, k1, k2⟩
  exact ⟨b4, rfl, k1⟩
theorem k_n5 {w0 W : World} {B : Nat} {b1 b2 b3 b4 : Nat} (h : PL w0 W B [⟨b1, 2, newP aT⟩, ⟨b2, 2, newP bT⟩, ⟨b3, 1, newP cT⟩, ⟨b4, 0, nP⟩]) : Calls Try.prog 10 #[.slice (some ⟨W.heap.size, 0, none⟩) 1 1] (W.alloc (.cells #[.int .i64 2, .int .i64 1, .int .i64 0] 26)) (fun e w' => ∃ b5, e = .returned (.tuple #[.pointer (some ⟨b5, 0, none⟩), .int .i64 0]) ∧ Hid (PL w0 w' w'.heap.size ([⟨b1, 2, newP aT⟩, ⟨b2, 2, newP bT⟩, ⟨b3, 1, newP cT⟩, ⟨b4, 0, nP⟩, ⟨b5, 1, newP qT⟩]))) := by
  refine ((h.upw (Up.alloc _ _)).c10 (tl_tn W ⟨2, 1, 0⟩) (by omega) (fun i _ => (mayI (by show (1 : Int) ≤ 1; decide) (by show (1 : Int) ≤ 2; decide) (by show (2 : Int) ≤ 1099511627776; decide)))).mono ?_
  rintro e w' ⟨b5, rfl, k1, k2⟩
  exact ⟨b5, rfl, k1⟩
theorem k_n6 {w0 W : World} {B : Nat} {b1 b2 b3 b4 b5 : Nat} (h : PL w0 W B [⟨b1, 2, newP aT⟩, ⟨b2, 2, newP bT⟩, ⟨b3, 1, newP cT⟩, ⟨b4, 0, nP⟩, ⟨b5, 1, newP qT⟩]) : Calls Try.prog 10 #[.slice (some ⟨W.heap.size, 0, none⟩) 2 2] (W.alloc (.cells #[.int .i64 1099511627776, .int .i64 1099511627776, .int .i64 0, .int .i64 1, .int .i64 1, .int .i64 5] 26)) (fun e w' => ∃ b6, e = .returned (.tuple #[.pointer (some ⟨b6, 0, none⟩), .int .i64 0]) ∧ Hid (PL w0 w' w'.heap.size (m6 b1 b2 b3 b4 b5 b6 (newP aT) (newP bT) (newP cT) nP (newP qT)))) := by
  refine ((h.upw (Up.alloc _ _)).c10 (tl_tw W ⟨1099511627776, 1099511627776, 0⟩ ⟨1, 1, 5⟩) (by omega) (may_tw (mayI (by show (1 : Int) ≤ 1099511627776; decide) (by show (1099511627776 : Int) ≤ 1099511627776; decide) (by show (1099511627776 : Int) ≤ 1099511627776; decide)) (mayI (by show (1 : Int) ≤ 1; decide) (by show (1 : Int) ≤ 1; decide) (by show (1 : Int) ≤ 1099511627776; decide)))).mono ?_
  rintro e w' ⟨b6, rfl, k1, k2⟩
  rw [fU_0] at k1
  exact ⟨b6, rfl, k1⟩
theorem k_p1 {w0 W : World} {B b1 b2 b3 b4 b5 b6 : Nat} {x2 x3 x4 x5 : Pl} (h : PL w0 W B (m6 b1 b2 b3 b4 b5 b6 (newP aT) x2 x3 x4 x5)) : Calls Try.prog 17 #[.pointer (some ⟨b1, 0, none⟩)] W (fun e w' => e = .returned (.tuple #[.agg #[.int .i64 1, .int .i64 0, .int .i64 1, .bool false], .int .i64 0]) ∧ Hid (PL w0 w' B (m6 b1 b2 b3 b4 b5 b6 a1 x2 x3 x4 x5)) ∧ Hid (Kp (Fa w0 B) W w')) :=
  h.c17k 0 rfl (by omega) (by omega) a_e1 (by omega) a_s1 rfl
theorem k_p2 {w0 W : World} {B b1 b2 b3 b4 b5 b6 : Nat} {x2 x3 x4 x5 : Pl} (h : PL w0 W B (m6 b1 b2 b3 b4 b5 b6 a1 x2 x3 x4 x5)) : Calls Try.prog 17 #[.pointer (some ⟨b1, 0, none⟩)] W (fun e w' => e = .returned (.tuple #[.agg #[.int .i64 0, .int .i64 1, .int .i64 2, .bool false], .int .i64 0]) ∧ Hid (PL w0 w' B (m6 b1 b2 b3 b4 b5 b6 a2 x2 x3 x4 x5)) ∧ Hid (Kp (Fa w0 B) W w')) :=
  h.c17k 0 rfl (by omega) (by omega) a_e2 (by omega) a_s2 rfl
theorem k_b6 {w0 W : World} {B b1 b2 b3 b4 b5 b6 : Nat} {x1 x3 x4 x5 : Pl} (h : PL w0 W B (m6 b1 b2 b3 b4 b5 b6 x1 (newP bT) x3 x4 x5)) : Calls Try.prog 18 #[.pointer (some ⟨b2, 0, none⟩), .int .i64 6] W (fun e w' => ∃ q c y, e = .returned (.slice q 4 c) ∧ Hid (SO W.heap.size w' (.slice q 4 c) bD) ∧ Hid (PL w0 w' B (m6 b1 b2 b3 b4 b5 b6 x1 y x3 x4 x5)) ∧ Hid (Kp (Fa w0 B) W w')) := by
  obtain ⟨y, hy⟩ := b_1
  refine (h.c18 1 rfl (by omega) 6 6 (by omega) (by omega) hy).mono ?_
  rintro e w' ⟨q, c, rfl, k1, k2, k3⟩
  exact ⟨q, c, y, rfl, k1, k2, k3⟩
theorem k_c1 {w0 W : World} {B b1 b2 b3 b4 b5 b6 : Nat} {x1 x2 x4 x5 : Pl} (h : PL w0 W B (m6 b1 b2 b3 b4 b5 b6 x1 x2 (newP cT) x4 x5)) : Calls Try.prog 18 #[.pointer (some ⟨b3, 0, none⟩), .int .i64 1] W (fun e w' => ∃ q c, e = .returned (.slice q 1 c) ∧ Hid (SO W.heap.size w' (.slice q 1 c) cD1) ∧ Hid (PL w0 w' B (m6 b1 b2 b3 b4 b5 b6 x1 x2 cq1 x4 x5)) ∧ Hid (Kp (Fa w0 B) W w')) := by
  refine (h.c18 2 rfl (by omega) 1 1 (by omega) (by omega) c_1).mono ?_
  rintro e w' ⟨q, c, rfl, k1, k2, k3⟩
  exact ⟨q, c, rfl, k1, k2, k3⟩
theorem k_c9 {w0 W : World} {B b1 b2 b3 b4 b5 b6 : Nat} {x1 x2 x4 x5 : Pl} (h : PL w0 W B (m6 b1 b2 b3 b4 b5 b6 x1 x2 cq1 x4 x5)) : Calls Try.prog 18 #[.pointer (some ⟨b3, 0, none⟩), .int .i64 9] W (fun e w' => ∃ q c y, e = .returned (.slice q 3 c) ∧ Hid (SO W.heap.size w' (.slice q 3 c) cD2) ∧ Hid (PL w0 w' B (m6 b1 b2 b3 b4 b5 b6 x1 x2 y x4 x5)) ∧ Hid (Kp (Fa w0 B) W w')) := by
  obtain ⟨y, hy⟩ := c_2
  refine (h.c18 2 rfl (by omega) 9 9 (by omega) (by omega) hy).mono ?_
  rintro e w' ⟨q, c, rfl, k1, k2, k3⟩
  exact ⟨q, c, y, rfl, k1, k2, k3⟩
theorem k_s5 {w0 W : World} {B b1 b2 b3 b4 b5 b6 : Nat} {x1 x2 x3 x5 : Pl} (h : PL w0 W B (m6 b1 b2 b3 b4 b5 b6 x1 x2 x3 nP x5)) : Calls Try.prog 18 #[.pointer (some ⟨b4, 0, none⟩), .int .i64 5] W (fun e w' => ∃ q c, e = .returned (.slice q 0 c) ∧ Hid (SO W.heap.size w' (.slice q 0 c) []) ∧ Hid (PL w0 w' B (m6 b1 b2 b3 b4 b5 b6 x1 x2 x3 (nP.at 5) x5)) ∧ Hid (Kp (Fa w0 B) W w')) := by
  refine (h.c18 3 rfl (by omega) 5 5 (by omega) (by omega) n_1).mono ?_
  rintro e w' ⟨q, c, rfl, k1, k2, k3⟩
  exact ⟨q, c, rfl, k1, k2, k3⟩
theorem k_s3 {w0 W : World} {B b1 b2 b3 b4 b5 b6 : Nat} {x1 x2 x3 x5 : Pl} (h : PL w0 W B (m6 b1 b2 b3 b4 b5 b6 x1 x2 x3 (nP.at 5) x5)) : Calls Try.prog 18 #[.pointer (some ⟨b4, 0, none⟩), .int .i64 3] W (fun e w' => ∃ q c, e = .returned (.slice q 0 c) ∧ Hid (SO W.heap.size w' (.slice q 0 c) []) ∧ Hid (PL w0 w' B (m6 b1 b2 b3 b4 b5 b6 x1 x2 x3 (nP.at 5) x5)) ∧ Hid (Kp (Fa w0 B) W w')) := by
  refine (h.c18 3 rfl (by omega) 3 3 (by omega) (by omega) n_2).mono ?_
  rintro e w' ⟨q, c, rfl, k1, k2, k3⟩
  exact ⟨q, c, rfl, k1, k2, k3⟩
theorem k_d1 {w0 W : World} {B b1 b2 b3 b4 b5 b6 : Nat} {x1 x2 x3 x4 : Pl} (h : PL w0 W B (m6 b1 b2 b3 b4 b5 b6 x1 x2 x3 x4 (newP qT))) : Calls Try.prog 18 #[.pointer (some ⟨b5, 0, none⟩), .int .i64 1] W (fun e w' => ∃ q c, e = .returned (.slice q 1 c) ∧ Hid (SO W.heap.size w' (.slice q 1 c) [⟨0, 0, 1, false⟩]) ∧ Hid (PL w0 w' B (m6 b1 b2 b3 b4 b5 b6 x1 x2 x3 x4 d1)) ∧ Hid (Kp (Fa w0 B) W w')) := by
  refine (h.c18 4 rfl (by omega) 1 1 (by omega) (by omega) d_1).mono ?_
  rintro e w' ⟨q, c, rfl, k1, k2, k3⟩
  exact ⟨q, c, rfl, k1, k2, k3⟩
theorem k_d9 {w0 W : World} {B b1 b2 b3 b4 b5 b6 : Nat} {x1 x2 x3 x4 : Pl} (h : PL w0 W B (m6 b1 b2 b3 b4 b5 b6 x1 x2 x3 x4 d2)) : Calls Try.prog 18 #[.pointer (some ⟨b5, 0, none⟩), .int .i64 9] W (fun e w' => ∃ q c y, e = .returned (.slice q 3 c) ∧ Hid (SO W.heap.size w' (.slice q 3 c) dD) ∧ Hid (PL w0 w' B (m6 b1 b2 b3 b4 b5 b6 x1 x2 x3 x4 y)) ∧ Hid (Kp (Fa w0 B) W w')) := by
  obtain ⟨y, hy⟩ := d_2
  refine (h.c18 4 rfl (by omega) 9 9 (by omega) (by omega) hy).mono ?_
  rintro e w' ⟨q, c, rfl, k1, k2, k3⟩
  exact ⟨q, c, y, rfl, k1, k2, k3⟩
theorem k_s17 {w0 W : World} {B b1 b2 b3 b4 b5 b6 : Nat} {x1 x2 x3 x4 x5 : Pl} (h : PL w0 W B (m6 b1 b2 b3 b4 b5 b6 x1 x2 x3 x4 x5)) : Calls Try.prog 17 #[.pointer (some ⟨b4, 0, none⟩)] W (VU W (.tuple #[.agg #[.int .i64 0, .int .i64 0, .int .i64 0, .bool false], .int .i64 240])) := h.c17z 3 rfl
theorem k_s13 {w0 W : World} {B b1 b2 b3 b4 b5 b6 : Nat} {x1 x2 x3 x4 x5 : Pl} (h : PL w0 W B (m6 b1 b2 b3 b4 b5 b6 x1 x2 x3 x4 x5)) : Calls Try.prog 13 #[.pointer (some ⟨b4, 0, none⟩)] W (VU W (.tuple #[.int .i64 0, .int .i64 1])) :=
  h.c13 3 rfl (by omega) (fun _ => 0) (fun _ => 0) (fun i hi => by omega)
theorem k_s15 {w0 W : World} {B b1 b2 b3 b4 b5 b6 : Nat} {x1 x2 x3 x5 : Pl} (h : PL w0 W B (m6 b1 b2 b3 b4 b5 b6 x1 x2 x3 (nP.at 5) x5)) : Calls Try.prog 15 #[.pointer (some ⟨b4, 0, none⟩)] W (fun e w' => e = .returned (.int .i64 5) ∧ w' = W) := h.c15 3 rfl
theorem k_ds {w0 W : World} {B b1 b2 b3 b4 b5 b6 : Nat} {x1 x2 x3 x4 : Pl} (h : PL w0 W B (m6 b1 b2 b3 b4 b5 b6 x1 x2 x3 x4 d1)) : Calls Try.prog 19 #[.pointer (some ⟨b5, 0, none⟩), .int .i64 0, .agg #[.int .i64 3, .int .i64 1, .int .i64 0]] W (fun e w' => e = .returned (.int .i64 0) ∧ Hid (PL w0 w' B (m6 b1 b2 b3 b4 b5 b6 x1 x2 x3 x4 d2))) := by
  obtain ⟨c1, c2, c3, c4⟩ := d_c
  have := h.c19a 4 rfl (i := 0) (by omega) c1 (by rw [c2, c4]; omega) (e := 3) (l' := 1) (r := 0) (mayI (by decide) (by decide) (by decide)) (by rw [c3]; omega)
  rw [c2, c3] at this
  refine this.mono ?_
  rintro e w' ⟨rfl, k1, k2⟩
  exact ⟨rfl, k1⟩
theorem k_de {w0 W : World} {B b1 b2 b3 b4 b5 b6 : Nat} {x1 x2 x3 x4 x5 : Pl} (h : PL w0 W B (m6 b1 b2 b3 b4 b5 b6 x1 x2 x3 x4 x5)) : Calls Try.prog 19 #[.pointer (some ⟨b5, 0, none⟩), .int .i64 0, .agg #[.int .i64 0, .int .i64 0, .int .i64 0]] W (VU W (.int .i64 240)) :=
  h.c19e 4 rfl (Or.inr (Or.inr (fun q => by have := q.1; omega)))
theorem k_e1 (W : World) : Calls Try.prog 10 #[.slice (some ⟨W.heap.size, 0, none⟩) 1 1] (W.alloc (.cells #[.int .i64 0, .int .i64 1, .int .i64 0] 26)) (fun e w' => e = .returned (.tuple #[.pointer none, .int .i64 240]) ∧ Hid (Up W w')) := by
  refine (t10 (tl_tn W ⟨0, 1, 0⟩) (by omega)).mono ?_
  rintro e w' (⟨h1, _⟩ | ⟨_, h1, h2⟩)
  · obtain ⟨q1, q2, q3⟩ := h1 0 (by omega)
    exact absurd q2 (by show ¬ (1 : Int) ≤ 0; omega)
  · exact ⟨h1, (Up.alloc _ _).trans h2.out⟩
theorem k_e2 (W : World) : Calls Try.prog 10 #[.slice (some ⟨W.heap.size, 0, none⟩) 1 1] (W.alloc (.cells #[.int .i64 2, .int .i64 3, .int .i64 0] 26)) (fun e w' => e = .returned (.tuple #[.pointer none, .int .i64 240]) ∧ Hid (Up W w')) := by
  refine (t10 (tl_tn W ⟨2, 3, 0⟩) (by omega)).mono ?_
  rintro e w' (⟨h1, _⟩ | ⟨_, h1, h2⟩)
  · obtain ⟨q1, q2, q3⟩ := h1 0 (by omega)
    exact absurd q2 (by show ¬ (3 : Int) ≤ 2; omega)
  · exact ⟨h1, (Up.alloc _ _).trans h2.out⟩
theorem k_e3 (W : World) : Calls Try.prog 10 #[.slice (some ⟨W.heap.size, 0, none⟩) 1 1] (W.alloc (.cells #[.int .i64 1099511627777, .int .i64 1, .int .i64 0] 26)) (fun e w' => e = .returned (.tuple #[.pointer none, .int .i64 240]) ∧ Hid (Up W w')) := by
  refine (t10 (tl_tn W ⟨1099511627777, 1, 0⟩) (by omega)).mono ?_
  rintro e w' (⟨h1, _⟩ | ⟨_, h1, h2⟩)
  · obtain ⟨q1, q2, q3⟩ := h1 0 (by omega)
    exact absurd q3 (by show ¬ (1099511627777 : Int) ≤ 1099511627776; omega)
  · exact ⟨h1, (Up.alloc _ _).trans h2.out⟩
theorem made26 : ∃ A : Array Value, ∀ w, (Instr.makeSlice 22 (.int .i64 257) (.int .i64 257)).run Try.prog w = .ok (.slice (some ⟨w.heap.size, 0, none⟩) 257 257) (w.alloc (.cells A 26)) := by
  obtain ⟨i0, hi, hz0, hz1, hz2⟩ := info_parts info26
  refine ⟨madeCells (Value.agg #[.int .i64 0, .int .i64 0, .int .i64 0]).cells (257 * 3), fun w => ?_⟩
  have := run_make (P := Try.prog) w 22 26 i0 _ Try.underlying22 hi hz0 .i64 .i64 257 257 (by omega) (by omega) (by rw [hz2]; omega) (by omega)
  rw [hz1] at this
  simpa using this
theorem k_22b {w0 W : World} {B : Nat} {l : List PE} (h : PL w0 W B l) {ba c : Nat} {q : Option Addr} (ha : SO ba W (.slice q 4 c) bD) (hB : B ≤ ba) (hba : ba ≤ W.heap.size) :
    Calls Try.prog 22 #[.slice q 4 c, .slice (some ⟨W.heap.size, 0, none⟩) 4 4] (W.alloc (.cells #[.int .i64 0, .int .i64 0, .int .i64 2, .bool false, .int .i64 1, .int .i64 2, .int .i64 3, .bool false, .int .i64 0, .int .i64 3, .int .i64 5, .bool true, .int .i64 0, .int .i64 5, .int .i64 6, .bool false] 42)) (fun e w' => e = .returned (.bool true) ∧ Hid (PL w0 w' B l) ∧ Hid (Kp (fun k => some k ≠ (Value.slice q 4 c).ownBlock) W w')) :=
  h.c22 ha hB hba rfl (by omega)
theorem k_22c {w0 W : World} {B : Nat} {l : List PE} (h : PL w0 W B l) {ba c : Nat} {q : Option Addr} (ha : SO ba W (.slice q 1 c) cD1) (hB : B ≤ ba) (hba : ba ≤ W.heap.size) :
    Calls Try.prog 22 #[.slice q 1 c, .slice (some ⟨W.heap.size, 0, none⟩) 1 1] (W.alloc (.cells #[.int .i64 0, .int .i64 0, .int .i64 1, .bool false] 42)) (fun e w' => e = .returned (.bool true) ∧ Hid (PL w0 w' B l) ∧ Hid (Kp (fun k => some k ≠ (Value.slice q 1 c).ownBlock) W w')) :=
  h.c22 ha hB hba rfl (by omega)
theorem k_22d {w0 W : World} {B : Nat} {l : List PE} (h : PL w0 W B l) {ba c : Nat} {q : Option Addr} (ha : SO ba W (.slice q 3 c) cD2) (hB : B ≤ ba) (hba : ba ≤ W.heap.size) :
    Calls Try.prog 22 #[.slice q 3 c, .slice (some ⟨W.heap.size, 0, none⟩) 3 3] (W.alloc (.cells #[.int .i64 0, .int .i64 1, .int .i64 2, .bool false, .int .i64 0, .int .i64 4, .int .i64 6, .bool false, .int .i64 0, .int .i64 8, .int .i64 9, .bool false] 42)) (fun e w' => e = .returned (.bool true) ∧ Hid (PL w0 w' B l) ∧ Hid (Kp (fun k => some k ≠ (Value.slice q 3 c).ownBlock) W w')) :=
  h.c22 ha hB hba rfl (by omega)
theorem k_22e {w0 W : World} {B : Nat} {l : List PE} (h : PL w0 W B l) {ba c : Nat} {q : Option Addr} (ha : SO ba W (.slice q 3 c) dD) (hB : B ≤ ba) (hba : ba ≤ W.heap.size) :
    Calls Try.prog 22 #[.slice q 3 c, .slice (some ⟨W.heap.size, 0, none⟩) 3 3] (W.alloc (.cells #[.int .i64 0, .int .i64 2, .int .i64 3, .bool false, .int .i64 0, .int .i64 5, .int .i64 6, .bool false, .int .i64 0, .int .i64 8, .int .i64 9, .bool false] 42)) (fun e w' => e = .returned (.bool true) ∧ Hid (PL w0 w' B l) ∧ Hid (Kp (fun k => some k ≠ (Value.slice q 3 c).ownBlock) W w')) :=
  h.c22 ha hB hba rfl (by omega)
end Go.Proofs.Ytjklaemhfhakhaa
