/- PlanKnown: its calls. -/
import Derived.Test.YtjklaemhfhakhaaKk
namespace Go.Proofs.Ytjklaemhfhakhaa
open Go.ChangeShapes Go.WideShapes Go.ChangeAt Go.RowKit

def m6 (b1 b2 b3 b4 b5 b6 : Nat) (x1 x2 x3 x4 x5 : Pl) : List PE := [⟨b1, 2, x1⟩, ⟨b2, 2, x2⟩, ⟨b3, 1, x3⟩, ⟨b4, 0, x4⟩, ⟨b5, 1, x5⟩, ⟨b6, 2, fU 0⟩]
theorem k_n1 (w0 : World) : Calls Try.prog 10 #[.slice (some ⟨w0.heap.size, 0, none⟩) 2 2] (w0.alloc (.cells #[.int .i64 2, .int .i64 1, .int .i64 0, .int .i64 2, .int .i64 1, .int .i64 9] 26)) (fun e w' => ∃ b1, e = .returned (.tuple #[.pointer (some ⟨b1, 0, none⟩), .int .i64 0]) ∧ Hid (PL w0 w' w'.heap.size ([⟨b1, 2, newP aT⟩]))) := by
  refine (((PL.start w0).upw (Up.alloc _ _)).c10 (tl_tw w0 ⟨2, 1, 0⟩ ⟨2, 1, 9⟩) (by omega) (may_tw (mayI (by show (1 : Int) ≤ 1; decide) (by show (1 : Int) ≤ 2; decide) (by show (2 : Int) ≤ 1099511627776; decide)) (mayI (by show (1 : Int) ≤ 1; decide) (by show (1 : Int) ≤ 2; decide) (by show (2 : Int) ≤ 1099511627776; decide)))).mono ?_
  rintro e w' ⟨b1, rfl, k1, k2⟩
  exact ⟨b1, rfl, k1⟩
theorem k_n2 {w0 W : World} {B : Nat} {b1 : Nat} (h : PL w0 W B [⟨b1, 2, newP aT⟩]) : Calls Try.prog 10 #[.slice (some ⟨W.heap.size, 0, none⟩) 2 2] (W.alloc (.cells #[.int .i64 2, .int .i64 2, .int .i64 0, .int .i64 3, .int .i64 1, .int .i64 0] 26)) (fun e w' => ∃ b2, e = .returned (.tuple #[.pointer (some ⟨b2, 0, none⟩), .int .i64 0]) ∧ Hid (PL w0 w' w'.heap.size ([⟨b1, 2, newP aT⟩, ⟨b2, 2, newP bT⟩]))) := by
  refine ((h.upw (Up.alloc _ _)).c10 (tl_tw W ⟨2, 2, 0⟩ ⟨3, 1, 0⟩) (by omega) (may_tw (mayI (by show (1 : Int) ≤ 2; decide) (by show (2 : Int) ≤ 2; decide) (by show (2 : Int) ≤ 1099511627776; decide)) (mayI (by show (1 : Int) ≤ 1; decide) (by show (1 : Int) ≤ 3; decide) (by show (3 : Int) ≤ 1099511627776; decide)))).mono ?_
  rintro e w' ⟨b2, rfl, k1, k2⟩
  exact ⟨b2, rfl, k1⟩
theorem k_n3 {w0 W : World} {B : Nat} {b1 b2 : Nat} (h : PL w0 W B [⟨b1, 2, newP aT⟩, ⟨b2, 2, newP bT⟩]) : Calls Try.prog 10 #[.slice (some ⟨W.heap.size, 0, none⟩) 1 1] (W.alloc (.cells #[.int .i64 4, .int .i64 2, .int .i64 0] 26)) (fun e w' => ∃ b3, e = .returned (.tuple #[.pointer (some ⟨b3, 0, none⟩), .int .i64 0]) ∧ Hid (PL w0 w' w'.heap.size ([⟨b1, 2, newP aT⟩, ⟨b2, 2, newP bT⟩, ⟨b3, 1, newP cT⟩]))) := by
  refine ((h.upw (Up.alloc _ _)).c10 (tl_tn W ⟨4, 2, 0⟩) (by omega) (fun i _ => (mayI (by show (1 : Int) ≤ 2; decide) (by show (2 : Int) ≤ 4; decide) (by show (4 : Int) ≤ 1099511627776; decide)))).mono ?_
  rintro e w' ⟨b3, rfl, k1, k2⟩
  exact ⟨b3, rfl, k1⟩
theorem k_n4 {w0 W : World} {B : Nat} {b1 b2 b3 : Nat} (h : PL w0 W B [⟨b1, 2, newP aT⟩, ⟨b2, 2, newP bT⟩, ⟨b3, 1, newP cT⟩]) : Calls Try.prog 10 #[.slice none 0 0] W (fun e w' => ∃ b4, e = .returned (.tuple #[.pointer (some ⟨b4, 0, none⟩), .int .i64 0]) ∧ Hid (PL w0 w' w'.heap.size ([⟨b1, 2, newP aT⟩, ⟨b2, 2, newP bT⟩, ⟨b3, 1, newP cT⟩, ⟨b4, 0, nP⟩]))) := by
  refine (h.c10 (tl_nil W (tn Tk.zero)) (by omega) (fun i hi => by omega)).mono ?_
  rintro e w' ⟨b4, rfl, k1, k2⟩
  exact ⟨b4, rfl, k1⟩
theorem k_n5 {w0 W : World} {B : Nat} {b1 b2 b3 b4 : Nat} (h : PL w0 W B [⟨b1, 2, newP aT⟩, ⟨b2, 2, newP bT⟩, ⟨b3, 1, newP cT⟩, ⟨b4, 0, nP⟩]) : Calls Try.prog 10 #[.slice (some ⟨W.heap.size, 0, none⟩) 1 1] (W.alloc (.cells #[.int .i64 2, .int .i64 1, .int .i64 0] 26)) (fun e w' => ∃ b5, e = .returned (.tuple #[.pointer (some ⟨b5, 0, none⟩), .int .i64 0]) ∧ Hid (PL w0 w' w'.heap.size ([⟨b1, 2, newP aT⟩, ⟨b2, 2, newP bT⟩, ⟨b3, 1, newP cT⟩, ⟨b4, 0, nP⟩, ⟨b5, 1, newP qT⟩]))) := by
  refine ((h.upw (Up.alloc _ _)).c10 (tl_tn W ⟨2, 1, 0⟩) (by omega) (fun i _ => (mayI (by show (1 : Int) ≤ 1; decide) (by show (1 : Int) ≤ 2; decide) (by show (2 : Int) ≤ 1099511627776; decide)))).mono ?_
  rintro e w' ⟨b5, rfl, k1, k2⟩
  exact ⟨b5, rfl, k1⟩
theorem k_n6 {w0 W : World} {B : Nat} {b1 b2 b3 b4 b5 : Nat} (h : PL w0 W B [⟨b1, 2, newP aT⟩, ⟨b2, 2, newP bT⟩, ⟨b3, 1, newP cT⟩, ⟨b4, 0, nP⟩, ⟨b5, 1, newP qT⟩]) : Calls Try.prog 10 #[.slice (some ⟨W.heap.size, 0, none⟩) 2 2] (W.alloc (.cells #[.int .i64 1099511627776, .int .i64 1099511627776, .int .i64 0, .int .i64 1, .int .i64 1, .int .i64 5] 26)) (fun e w' => ∃ b6, e = .returned (.tuple #[.pointer (some ⟨b6, 0, none⟩), .int .i64 0]) ∧ Hid (PL w0 w' w'.heap.size (m6 b1 b2 b3 b4 b5 b6 (newP aT) (newP bT) (newP cT) nP (newP qT)))) := by
  refine ((h.upw (Up.alloc _ _)).c10 (tl_tw W ⟨1099511627776, 1099511627776, 0⟩ ⟨1, 1, 5⟩) (by omega) (may_tw (mayI (by show (1 : Int) ≤ 1099511627776; decide) (by show (1099511627776 : Int) ≤ 1099511627776; decide) (by show (1099511627776 : Int) ≤ 1099511627776; decide)) (mayI (by show (1 : Int) ≤ 1; decide) (by show (1 : Int) ≤ 1; decide) (by show (1 : Int) ≤ 1099511627776; decide)))).mono ?_
  rintro e w' ⟨b6, rfl, k1, k2⟩
  rw [fU_0] at k1
  exact ⟨b6, rfl, k1⟩
theorem k_p1 {w0 W : World} {B b1 b2 b3 b4 b5 b6 : Nat} {x2 x3 x4 x5 : Pl} (h : PL w0 W B (m6 b1 b2 b3 b4 b5 b6 (newP aT) x2 x3 x4 x5)) : Calls Try.prog 17 #[.pointer (some ⟨b1, 0, none⟩)] W (fun e w' => e = .returned (.tuple #[.agg #[.int .i64 1, .int .i64 0, .int .i64 1, .bool false], .int .i64 0]) ∧ Hid (PL w0 w' B (m6 b1 b2 b3 b4 b5 b6 a1 x2 x3 x4 x5)) ∧ Hid (Kp (Fa w0 B) W w')) :=
  h.c17k 0 rfl (by omega) (by omega) a_e1 (by omega) a_s1 rfl
theorem k_p2 {w0 W : World} {B b1 b2 b3 b4 b5 b6 : Nat} {x2 x3 x4 x5 : Pl} (h : PL w0 W B (m6 b1 b2 b3 b4 b5 b6 a1 x2 x3 x4 x5)) : Calls Try.prog 17 #[.pointer (some ⟨b1, 0, none⟩)] W (fun e w' => e = .returned (.tuple #[.agg #[.int .i64 0, .int .i64 1, .int .i64 2, .bool false], .int .i64 0]) ∧ Hid (PL w0 w' B (m6 b1 b2 b3 b4 b5 b6 a2 x2 x3 x4 x5)) ∧ Hid (Kp (Fa w0 B) W w')) :=
  h.c17k 0 rfl (by omega) (by omega) a_e2 (by omega) a_s2 rfl
theorem k_b6 {w0 W : World} {B b1 b2 b3 b4 b5 b6 : Nat} {x1 x3 x4 x5 : Pl} (h : PL w0 W B (m6 b1 b2 b3 b4 b5 b6 x1 (newP bT) x3 x4 x5)) : Calls Try.prog 18 #[.pointer (some ⟨b2, 0, none⟩), .int .i64 6] W (fun e w' => ∃ q c y, e = .returned (.slice q 4 c) ∧ Hid (SO W.heap.size w' (.slice q 4 c) bD) ∧ Hid (PL w0 w' B (m6 b1 b2 b3 b4 b5 b6 x1 y x3 x4 x5)) ∧ Hid (Kp (Fa w0 B) W w')) := by
  obtain ⟨y, hy⟩ := b_1
  refine (h.c18 1 rfl (by omega) 6 6 (by omega) (by omega) hy).mono ?_
  rintro e w' ⟨q, c, rfl, k1, k2, k3⟩
  exact ⟨q, c, y, rfl, k1, k2, k3⟩
theorem k_c1 {w0 W : World} {B b1 b2 b3 b4 b5 b6 : Nat} {x1 x2 x4 x5 : Pl} (h : PL w0 W B (m6 b1 b2 b3 b4 b5 b6 x1 x2 (newP cT) x4 x5)) : Calls Try.prog 18 #[.pointer (some ⟨b3, 0, none⟩), .int .i64 1] W (fun e w' => ∃ q c, e = .returned (.slice q 1 c) ∧ Hid (SO W.heap.size w' (.slice q 1 c) cD1) ∧ Hid (PL w0 w' B (m6 b1 b2 b3 b4 b5 b6 x1 x2 cq1 x4 x5)) ∧ Hid (Kp (Fa w0 B) W w')) := by
  refine (h.c18 2 rfl (by omega) 1 1 (by omega) (by omega) c_1).mono ?_
  rintro e w' ⟨q, c, rfl, k1, k2, k3⟩
  exact ⟨q, c, rfl, k1, k2, k3⟩
theorem k_c9 {w0 W : World} {B b1 b2 b3 b4 b5 b6 : Nat} {x1 x2 x4 x5 : Pl} (h : PL w0 W B (m6 b1 b2 b3 b4 b5 b6 x1 x2 cq1 x4 x5)) : Calls Try.prog 18 #[.pointer (some ⟨b3, 0, none⟩), .int .i64 9] W (fun e w' => ∃ q c y, e = .returned (.slice q 3 c) ∧ Hid (SO W.heap.size w' (.slice q 3 c) cD2) ∧ Hid (PL w0 w' B (m6 b1 b2 b3 b4 b5 b6 x1 x2 y x4 x5)) ∧ Hid (Kp (Fa w0 B) W w')) := by
  obtain ⟨y, hy⟩ := c_2
  refine (h.c18 2 rfl (by omega) 9 9 (by omega) (by omega) hy).mono ?_
  rintro e w' ⟨q, c, rfl, k1, k2, k3⟩
  exact ⟨q, c, y, rfl, k1, k2, k3⟩
theorem k_s5 {w0 W : World} {B b1 b2 b3 b4 b5 b6 : Nat} {x1 x2 x3 x5 : Pl} (h : PL w0 W B (m6 b1 b2 b3 b4 b5 b6 x1 x2 x3 nP x5)) : Calls Try.prog 18 #[.pointer (some ⟨b4, 0, none⟩), .int .i64 5] W (fun e w' => ∃ q c, e = .returned (.slice q 0 c) ∧ Hid (SO W.heap.size w' (.slice q 0 c) []) ∧ Hid (PL w0 w' B (m6 b1 b2 b3 b4 b5 b6 x1 x2 x3 (nP.at 5) x5)) ∧ Hid (Kp (Fa w0 B) W w')) := by
  refine (h.c18 3 rfl (by omega) 5 5 (by omega) (by omega) n_1).mono ?_
  rintro e w' ⟨q, c, rfl, k1, k2, k3⟩
  exact ⟨q, c, rfl, k1, k2, k3⟩
theorem k_s3 {w0 W : World} {B b1 b2 b3 b4 b5 b6 : Nat} {x1 x2 x3 x5 : Pl} (h : PL w0 W B (m6 b1 b2 b3 b4 b5 b6 x1 x2 x3 (nP.at 5) x5)) : Calls Try.prog 18 #[.pointer (some ⟨b4, 0, none⟩), .int .i64 3] W (fun e w' => ∃ q c, e = .returned (.slice q 0 c) ∧ Hid (SO W.heap.size w' (.slice q 0 c) []) ∧ Hid (PL w0 w' B (m6 b1 b2 b3 b4 b5 b6 x1 x2 x3 (nP.at 5) x5)) ∧ Hid (Kp (Fa w0 B) W w')) := by
  refine (h.c18 3 rfl (by omega) 3 3 (by omega) (by omega) n_2).mono ?_
  rintro e w' ⟨q, c, rfl, k1, k2, k3⟩
  exact ⟨q, c, rfl, k1, k2, k3⟩
theorem k_d1 {w0 W : World} {B b1 b2 b3 b4 b5 b6 : Nat} {x1 x2 x3 x4 : Pl} (h : PL w0 W B (m6 b1 b2 b3 b4 b5 b6 x1 x2 x3 x4 (newP qT))) : Calls Try.prog 18 #[.pointer (some ⟨b5, 0, none⟩), .int .i64 1] W (fun e w' => ∃ q c, e = .returned (.slice q 1 c) ∧ Hid (SO W.heap.size w' (.slice q 1 c) [⟨0, 0, 1, false⟩]) ∧ Hid (PL w0 w' B (m6 b1 b2 b3 b4 b5 b6 x1 x2 x3 x4 d1)) ∧ Hid (Kp (Fa w0 B) W w')) := by
  refine (h.c18 4 rfl (by omega) 1 1 (by omega) (by omega) d_1).mono ?_
  rintro e w' ⟨q, c, rfl, k1, k2, k3⟩
  exact ⟨q, c, rfl, k1, k2, k3⟩
theorem k_d9 {w0 W : World} {B b1 b2 b3 b4 b5 b6 : Nat} {x1 x2 x3 x4 : Pl} (h : PL w0 W B (m6 b1 b2 b3 b4 b5 b6 x1 x2 x3 x4 d2)) : Calls Try.prog 18 #[.pointer (some ⟨b5, 0, none⟩), .int .i64 9] W (fun e w' => ∃ q c y, e = .returned (.slice q 3 c) ∧ Hid (SO W.heap.size w' (.slice q 3 c) dD) ∧ Hid (PL w0 w' B (m6 b1 b2 b3 b4 b5 b6 x1 x2 x3 x4 y)) ∧ Hid (Kp (Fa w0 B) W w')) := by
  obtain ⟨y, hy⟩ := d_2
  refine (h.c18 4 rfl (by omega) 9 9 (by omega) (by omega) hy).mono ?_
  rintro e w' ⟨q, c, rfl, k1, k2, k3⟩
  exact ⟨q, c, y, rfl, k1, k2, k3⟩
theorem k_s17 {w0 W : World} {B b1 b2 b3 b4 b5 b6 : Nat} {x1 x2 x3 x4 x5 : Pl} (h : PL w0 W B (m6 b1 b2 b3 b4 b5 b6 x1 x2 x3 x4 x5)) : Calls Try.prog 17 #[.pointer (some ⟨b4, 0, none⟩)] W (VU W (.tuple #[.agg #[.int .i64 0, .int .i64 0, .int .i64 0, .bool false], .int .i64 240])) := h.c17z 3 rfl
theorem k_s13 {w0 W : World} {B b1 b2 b3 b4 b5 b6 : Nat} {x1 x2 x3 x4 x5 : Pl} (h : PL w0 W B (m6 b1 b2 b3 b4 b5 b6 x1 x2 x3 x4 x5)) : Calls Try.prog 13 #[.pointer (some ⟨b4, 0, none⟩)] W (VU W (.tuple #[.int .i64 0, .int .i64 1])) :=
  h.c13 3 rfl (by omega) (fun _ => 0) (fun _ => 0) (fun i hi => by omega)
theorem k_s15 {w0 W : World} {B b1 b2 b3 b4 b5 b6 : Nat} {x1 x2 x3 x5 : Pl} (h : PL w0 W B (m6 b1 b2 b3 b4 b5 b6 x1 x2 x3 (nP.at 5) x5)) : Calls Try.prog 15 #[.pointer (some ⟨b4, 0, none⟩)] W (fun e w' => e = .returned (.int .i64 5) ∧ w' = W) := h.c15 3 rfl
theorem k_ds {w0 W : World} {B b1 b2 b3 b4 b5 b6 : Nat} {x1 x2 x3 x4 : Pl} (h : PL w0 W B (m6 b1 b2 b3 b4 b5 b6 x1 x2 x3 x4 d1)) : Calls Try.prog 19 #[.pointer (some ⟨b5, 0, none⟩), .int .i64 0, .agg #[.int .i64 3, .int .i64 1, .int .i64 0]] W (fun e w' => e = .returned (.int .i64 0) ∧ Hid (PL w0 w' B (m6 b1 b2 b3 b4 b5 b6 x1 x2 x3 x4 d2))) := by
  obtain ⟨c1, c2, c3, c4⟩ := d_c
  have := h.c19a 4 rfl (i := 0) (by omega) c1 (by rw [c2, c4]; omega) (e := 3) (l' := 1) (r := 0) (mayI (by decide) (by decide) (by decide)) (by rw [c3]; omega)
  rw [c2, c3] at this
  refine this.mono ?_
  rintro e w' ⟨rfl, k1, k2⟩
  exact ⟨rfl, k1⟩
theorem k_de {w0 W : World} {B b1 b2 b3 b4 b5 b6 : Nat} {x1 x2 x3 x4 x5 : Pl} (h : PL w0 W B (m6 b1 b2 b3 b4 b5 b6 x1 x2 x3 x4 x5)) : Calls Try.prog 19 #[.pointer (some ⟨b5, 0, none⟩), .int .i64 0, .agg #[.int .i64 0, .int .i64 0, .int .i64 0]] W (VU W (.int .i64 240)) :=
  h.c19e 4 rfl (Or.inr (Or.inr (fun q => by have := q.1; omega)))
theorem k_e1 (W : World) : Calls Try.prog 10 #[.slice (some ⟨W.heap.size, 0, none⟩) 1 1] (W.alloc (.cells #[.int .i64 0, .int .i64 1, .int .i64 0] 26)) (fun e w' => e = .returned (.tuple #[.pointer none, .int .i64 240]) ∧ Hid (Up W w')) := by
  refine (t10 (tl_tn W ⟨0, 1, 0⟩) (by omega)).mono ?_
  rintro e w' (⟨h1, _⟩ | ⟨_, h1, h2⟩)
  · obtain ⟨q1, q2, q3⟩ := h1 0 (by omega)
    exact absurd q2 (by show ¬ (1 : Int) ≤ 0; omega)
  · exact ⟨h1, (Up.alloc _ _).trans h2.out⟩
theorem k_e2 (W : World) : Calls Try.prog 10 #[.slice (some ⟨W.heap.size, 0, none⟩) 1 1] (W.alloc (.cells #[.int .i64 2, .int .i64 3, .int .i64 0] 26)) (fun e w' => e = .returned (.tuple #[.pointer none, .int .i64 240]) ∧ Hid (Up W w')) := by
  refine (t10 (tl_tn W ⟨2, 3, 0⟩) (by omega)).mono ?_
  rintro e w' (⟨h1, _⟩ | ⟨_, h1, h2⟩)
  · obtain ⟨q1, q2, q3⟩ := h1 0 (by omega)
    exact absurd q2 (by show ¬ (3 : Int) ≤ 2; omega)
  · exact ⟨h1, (Up.alloc _ _).trans h2.out⟩
theorem k_e3 (W : World) : Calls Try.prog 10 #[.slice (some ⟨W.heap.size, 0, none⟩) 1 1] (W.alloc (.cells #[.int .i64 1099511627777, .int .i64 1, .int .i64 0] 26)) (fun e w' => e = .returned (.tuple #[.pointer none, .int .i64 240]) ∧ Hid (Up W w')) := by
  refine (t10 (tl_tn W ⟨1099511627777, 1, 0⟩) (by omega)).mono ?_
  rintro e w' (⟨h1, _⟩ | ⟨_, h1, h2⟩)
  · obtain ⟨q1, q2, q3⟩ := h1 0 (by omega)
    exact absurd q3 (by show ¬ (1099511627777 : Int) ≤ 1099511627776; omega)
  · exact ⟨h1, (Up.alloc _ _).trans h2.out⟩
theorem made26 : ∃ A : Array Value, ∀ w, (Instr.makeSlice 22 (.int .i64 257) (.int .i64 257)).run Try.prog w = .ok (.slice (some ⟨w.heap.size, 0, none⟩) 257 257) (w.alloc (.cells A 26)) := by
  obtain ⟨i0, hi, hz0, hz1, hz2⟩ := info_parts info26
  refine ⟨madeCells (Value.agg #[.int .i64 0, .int .i64 0, .int .i64 0]).cells (257 * 3), fun w => ?_⟩
  have := run_make (P := Try.prog) w 22 26 i0 _ Try.underlying22 hi hz0 .i64 .i64 257 257 (by omega) (by omega) (by rw [hz2]; omega) (by omega)
  rw [hz1] at this
  simpa using this
theorem k_22b {w0 W : World} {B : Nat} {l : List PE} (h : PL w0 W B l) {ba c : Nat} {q : Option Addr} (ha : SO ba W (.slice q 4 c) bD) (hB : B ≤ ba) (hba : ba ≤ W.heap.size) :
    Calls Try.prog 22 #[.slice q 4 c, .slice (some ⟨W.heap.size, 0, none⟩) 4 4] (W.alloc (.cells #[.int .i64 0, .int .i64 0, .int .i64 2, .bool false, .int .i64 1, .int .i64 2, .int .i64 3, .bool false, .int .i64 0, .int .i64 3, .int .i64 5, .bool true, .int .i64 0, .int .i64 5, .int .i64 6, .bool false] 42)) (fun e w' => e = .returned (.bool true) ∧ Hid (PL w0 w' B l) ∧ Hid (Kp (fun k => some k ≠ (Value.slice q 4 c).ownBlock) W w')) :=
  h.c22 ha hB hba rfl (by omega)
theorem k_22c {w0 W : World} {B : Nat} {l : List PE} (h : PL w0 W B l) {ba c : Nat} {q : Option Addr} (ha : SO ba W (.slice q 1 c) cD1) (hB : B ≤ ba) (hba : ba ≤ W.heap.size) :
    Calls Try.prog 22 #[.slice q 1 c, .slice (some ⟨W.heap.size, 0, none⟩) 1 1] (W.alloc (.cells #[.int .i64 0, .int .i64 0, .int .i64 1, .bool false] 42)) (fun e w' => e = .returned (.bool true) ∧ Hid (PL w0 w' B l) ∧ Hid (Kp (fun k => some k ≠ (Value.slice q 1 c).ownBlock) W w')) :=
  h.c22 ha hB hba rfl (by omega)
theorem k_22d {w0 W : World} {B : Nat} {l : List PE} (h : PL w0 W B l) {ba c : Nat} {q : Option Addr} (ha : SO ba W (.slice q 3 c) cD2) (hB : B ≤ ba) (hba : ba ≤ W.heap.size) :
    Calls Try.prog 22 #[.slice q 3 c, .slice (some ⟨W.heap.size, 0, none⟩) 3 3] (W.alloc (.cells #[.int .i64 0, .int .i64 1, .int .i64 2, .bool false, .int .i64 0, .int .i64 4, .int .i64 6, .bool false, .int .i64 0, .int .i64 8, .int .i64 9, .bool false] 42)) (fun e w' => e = .returned (.bool true) ∧ Hid (PL w0 w' B l) ∧ Hid (Kp (fun k => some k ≠ (Value.slice q 3 c).ownBlock) W w')) :=
  h.c22 ha hB hba rfl (by omega)
theorem k_22e {w0 W : World} {B : Nat} {l : List PE} (h : PL w0 W B l) {ba c : Nat} {q : Option Addr} (ha : SO ba W (.slice q 3 c) dD) (hB : B ≤ ba) (hba : ba ≤ W.heap.size) :
    Calls Try.prog 22 #[.slice q 3 c, .slice (some ⟨W.heap.size, 0, none⟩) 3 3] (W.alloc (.cells #[.int .i64 0, .int .i64 2, .int .i64 3, .bool false, .int .i64 0, .int .i64 5, .int .i64 6, .bool false, .int .i64 0, .int .i64 8, .int .i64 9, .bool false] 42)) (fun e w' => e = .returned (.bool true) ∧ Hid (PL w0 w' B l) ∧ Hid (Kp (fun k => some k ≠ (Value.slice q 3 c).ownBlock) W w')) :=
  h.c22 ha hB hba rfl (by omega)
end Go.Proofs.Ytjklaemhfhakhaa
/- PlanKnown: the walk. -/
namespace Go.Proofs.Ytjklaemhfhakhaa
open Go.ChangeShapes Go.WideShapes Go.ChangeAt Go.RowKit

set_option maxRecDepth 200000 in
set_option maxHeartbeats 16000000 in
theorem t8 (w : World) : Calls Try.prog 8 #[] w (VU w (.bool true)) := by
  obtain ⟨A, hM⟩ := made26
  go_enter Try.func8, Try.ntmps8
  go_wp2_with (first
    | (go_at_call 10; (with_reducible refine (k_n1 w).mono ?_); rintro e w1 ⟨b1, rfl, HX1⟩)
    | (go_at_call 10; (with_reducible refine (k_n2 HX1.out).mono ?_); rintro e w2 ⟨b2, rfl, HX2⟩)
    | (go_at_call 10; (with_reducible refine (k_n3 HX2.out).mono ?_); rintro e w3 ⟨b3, rfl, HX3⟩)
    | (go_at_call 10; (with_reducible refine (k_n4 HX3.out).mono ?_); rintro e w4 ⟨b4, rfl, HX4⟩)
    | (go_at_call 10; (with_reducible refine (k_n5 HX4.out).mono ?_); rintro e w5 ⟨b5, rfl, HX5⟩)
    | (go_at_call 10; (with_reducible refine (k_n6 HX5.out).mono ?_); rintro e w6 ⟨b6, rfl, HX6⟩)
    | (go_at_call 17; (with_reducible refine (k_p1 HX6.out).mono ?_); rintro e w7 ⟨rfl, HX7, HK7⟩; (have HX7a : Hid (PL w (w7.alloc (.cells #[.int .i64 1, .int .i64 0, .int .i64 1, .bool false] 42)) w6.heap.size (m6 b1 b2 b3 b4 b5 b6 a1 (newP bT) (newP cT) nP (newP qT))) := HX7.out.upw (Up.alloc _ _)); (have HA7 : Hid (SlAt (w7.alloc (.cells #[.int .i64 1, .int .i64 0, .int .i64 1, .bool false] 42)) w7.heap.size 0 ⟨1, 0, 1, false⟩) := slot_new w7 ⟨1, 0, 1, false⟩); (have HB7 := HX7.out.hi))
    | (go_at_call 17; (with_reducible refine (k_p2 HX7a.out).mono ?_); rintro e w8 ⟨rfl, HX8, HK8⟩; (have HX8a : Hid (PL w (w8.alloc (.cells #[.int .i64 0, .int .i64 1, .int .i64 2, .bool false] 42)) w6.heap.size (m6 b1 b2 b3 b4 b5 b6 a2 (newP bT) (newP cT) nP (newP qT))) := HX8.out.upw (Up.alloc _ _)); (obtain ⟨y0, y1, y2, y3⟩ := (HA7.out.keep HB7 HK8.out).up (Up.alloc w8 (.cells #[.int .i64 0, .int .i64 1, .int .i64 2, .bool false] 42))); (obtain ⟨z0, z1, z2, z3⟩ := slot_new w8 ⟨0, 1, 2, false⟩); simp only [Nat.zero_add] at y0 y1 y2 y3 z0 z1 z2 z3)
    | (go_at_call 18; (with_reducible refine (k_b6 HX8a.out).mono ?_); rintro e w9 ⟨qb, cb, yb, rfl, HSb, HX9, HK9⟩; clear y0 y1 y2 y3 z0 z1 z2 z3; (have hs9 := HK9.out.size))
    | (go_at_call 22; (with_reducible refine (k_22b HX9.out HSb.out HX8a.out.hi hs9).mono ?_); rintro e w10 ⟨rfl, HX10, HK10⟩)
    | (go_at_call 18; (with_reducible refine (k_c1 HX10.out).mono ?_); rintro e w11 ⟨qc, cc, rfl, HSc, HX11, HK11⟩)
    | (go_at_call 18; (with_reducible refine (k_c9 HX11.out).mono ?_); rintro e w12 ⟨qd, cd, yc, rfl, HSd, HX12, HK12⟩; (have hb11 := HX10.out.hi); (have HSc12 : Hid (SO w10.heap.size w12 (.slice qc 1 cc) cD1) := HSc.out.keep hb11 HK12.out); (have hs12 := Nat.le_trans HK11.out.size HK12.out.size))
    | (go_at_call 22; (with_reducible refine (k_22c HX12.out HSc12.out hb11 hs12).mono ?_); rintro e w13 ⟨rfl, HX13, HK13⟩; (have HSd13 : Hid (SO w11.heap.size w13 (.slice qd 3 cd) cD2) := HSd.out.kp HK13.out (fun r hr e => by
        have h1 := (World.ownsRow.lt HSc.out r e.symm).2
        have h2 := (World.ownsRow.lt HSd.out r hr).1
        omega)); (have hs13 := Nat.le_trans HK12.out.size HK13.out.size))
    | (go_at_call 22; (with_reducible refine (k_22d HX13.out HSd13.out HX11.out.hi hs13).mono ?_); rintro e w14 ⟨rfl, HX14, HK14⟩)
    | (go_at_call 17; (with_reducible refine (k_s17 HX14.out).mono ?_); rintro e w15 ⟨rfl, HU15⟩; (have HX15 : Hid (PL w (w15.alloc (.cells #[.int .i64 0, .int .i64 0, .int .i64 0, .bool false] 42)) w6.heap.size (m6 b1 b2 b3 b4 b5 b6 a2 yb yc nP (newP qT))) := HX14.out.upw (HU15.out.trans (Up.alloc _ _))))
    | (go_at_call 13; (with_reducible refine (k_s13 HX15.out).mono ?_); rintro e w16 ⟨rfl, HU16⟩; (have HX16 : Hid (PL w w16 w6.heap.size (m6 b1 b2 b3 b4 b5 b6 a2 yb yc nP (newP qT))) := HX15.out.upw HU16.out))
    | (go_at_call 18; (with_reducible refine (k_s5 HX16.out).mono ?_); rintro e w17 ⟨qs, cs, rfl, HSs, HX17, HK17⟩)
    | (go_at_call 15; (with_reducible refine (k_s15 HX17.out).mono ?_); rintro e w18 ⟨rfl, hw18⟩; subst hw18)
    | (go_at_call 18; (with_reducible refine (k_s3 HX17.out).mono ?_); rintro e w19 ⟨qt, ct, rfl, HSt, HX19, HK19⟩)
    | (go_at_call 15; (with_reducible refine (k_s15 HX19.out).mono ?_); rintro e w20 ⟨rfl, hw20⟩; subst hw20)
    | (go_at_call 18; (with_reducible refine (k_d1 HX19.out).mono ?_); rintro e w21 ⟨qu, cu, rfl, HSu, HX21, HK21⟩)
    | (go_at_call 19; (with_reducible refine (k_ds HX21.out).mono ?_); rintro e w22 ⟨rfl, HX22⟩)
    | (go_at_call 18; (with_reducible refine (k_d9 HX22.out).mono ?_); rintro e w23 ⟨qv, cv, yv, rfl, HSv, HX23, HK23⟩; (have hs23 := HK23.out.size))
    | (go_at_call 22; (with_reducible refine (k_22e HX23.out HSv.out HX22.out.hi hs23).mono ?_); rintro e w24 ⟨rfl, HX24, HK24⟩)
    | (go_at_call 19; (with_reducible refine (k_de HX24.out).mono ?_); rintro e w25 ⟨rfl, HU25⟩)
    | (go_at_call 10; (with_reducible refine (k_e1 _).mono ?_); rintro e w26 ⟨rfl, HU26⟩)
    | (go_at_call 10; (with_reducible refine (k_e2 _).mono ?_); rintro e w27 ⟨rfl, HU27⟩)
    | (go_at_call 10; (with_reducible refine (k_e3 _).mono ?_); rintro e w28 ⟨rfl, HU28⟩)
    | (go_at_call 10; (with_reducible refine (t10long (by decide)).mono ?_); rintro e w29 ⟨rfl, HU29⟩; (have HX29 : Hid (PL w w29 w6.heap.size [⟨b6, 2, fU 0⟩]) := (HX24.out.upw ((((HU25.out.trans HU26.out).trans HU27.out).trans HU28.out).trans ((Up.alloc _ _).trans HU29.out))).only (k := 5) rfl))
    | (go_at_call 23; (with_reducible refine (t23 HX29.out).mono ?_); rintro e w30 ⟨rfl, HU30⟩)
    | (go_at_call 24; (with_reducible refine (t24 _).mono ?_); rintro e w31 ⟨rfl, HU31⟩)
    | (go_at_call 9; (with_reducible refine (t9 _).mono ?_); rintro e w32 ⟨rfl, HU32⟩))
  go_ret
  exact ⟨rfl, (HU30.out.trans HU31.out).trans HU32.out⟩
end Go.Proofs.Ytjklaemhfhakhaa
