/- late: its calls. -/
import Derived.Test.YtjklaemhfhakhaaKi
namespace Go.Proofs.Ytjklaemhfhakhaa
open Go.ChangeShapes Go.WideShapes Go.ChangeAt Go.RowKit

theorem so_lit (w : World) (D : List Sl) (h : D.length ≤ 1000000) : SO w.heap.size (w.alloc (.cells (fl4 D).toArray 42)) (.slice (some ⟨w.heap.size, 0, none⟩) D.length D.length) D := by
  have := World.ownsRow_lit (base := w.heap.size) (e := 42) (size := 4) w (fl4 D).toArray D.length (Nat.le_refl _) (by unfold maxLen; omega) (by simp [fl4_len])
  simpa [SO] using this
theorem PL.c22 {w0 W : World} {B : Nat} {l : List PE} (h : PL w0 W B l) {ba n c : Nat} {q : Option Addr} {A : List Sl} (ha : SO ba W (.slice q n c) A) (hB : B ≤ ba) (hba : ba ≤ W.heap.size) (hn : A.length = n) (hn2 : n ≤ 1000000) :
    Calls Try.prog 22 #[.slice q n c, .slice (some ⟨W.heap.size, 0, none⟩) n n] (W.alloc (.cells (fl4 A).toArray 42)) (fun e w' => e = .returned (.bool true) ∧ Hid (PL w0 w' B l) ∧ Hid (Kp (fun k => some k ≠ (Value.slice q n c).ownBlock) W w')) := by
  subst hn
  have hC := so_lit W A hn2
  have hlt := World.ownsRow.lt ha
  refine (t22 (ha.up (Up.alloc _ _)) hC (fun r hr e => by
    have h1 := hlt r e.symm
    have h2 : W.heap.size = r := by simpa [Value.ownBlock] using hr
    omega) hn2 (Nat.le_trans hba (Up.alloc W _).size)).mono ?_
  rintro e w' ⟨rfl, hk⟩
  have hk2 : Kp (fun k => some k ≠ (Value.slice q A.length c).ownBlock) W w' := (Kp.of_up (Up.alloc W _)).trans hk.out
  refine ⟨rfl, h.kp (hk2.mono fun k _ hb e => ?_), hk2⟩
  have := (hlt k e.symm).1
  omega
/-- The plans of late. -/
def rT : Nat → Tk := tw ⟨1099511627689, 1, 0⟩ ⟨8388593, 1, 0⟩
def l1 (b1 : Nat) : List PE := [⟨b1, 2, newP pT⟩]
def l4 (b1 b2 b3 b4 : Nat) (x y z : Pl) : List PE := [⟨b1, 2, x⟩, ⟨b2, 1, y⟩, ⟨b3, 2, newP rT⟩, ⟨b4, 1, z⟩]
def l5 (b1 b2 b3 b4 b5 : Nat) (x y u : Pl) : List PE := [⟨b1, 2, x⟩, ⟨b2, 1, y⟩, ⟨b3, 2, newP rT⟩, ⟨b4, 1, sP 17⟩, ⟨b5, 2, u⟩]
theorem l_new1 (w0 : World) : Calls Try.prog 10 #[.slice (some ⟨w0.heap.size, 0, none⟩) 2 2] (w0.alloc (.cells #[.int .i64 4, .int .i64 4, .int .i64 0, .int .i64 1, .int .i64 1, .int .i64 0] 26)) (fun e w' => ∃ b1, e = .returned (.tuple #[.pointer (some ⟨b1, 0, none⟩), .int .i64 0]) ∧ Hid (PL w0 w' w'.heap.size [⟨b1, 2, newP pT⟩])) := by
  refine (((PL.start w0).upw (Up.alloc _ _)).c10 (tl_tw w0 ⟨4, 4, 0⟩ ⟨1, 1, 0⟩) (by omega) (may_tw (mayI (by decide) (by decide) (by decide)) (mayI (by decide) (by decide) (by decide)))).mono ?_
  rintro e w' ⟨b1, rfl, k1, k2⟩
  exact ⟨b1, rfl, k1⟩
theorem l_new2 {w0 W : World} {B b1 : Nat} (h : PL w0 W B [⟨b1, 2, newP pT⟩]) : Calls Try.prog 10 #[.slice (some ⟨W.heap.size, 0, none⟩) 1 1] (W.alloc (.cells #[.int .i64 2, .int .i64 1, .int .i64 0] 26)) (fun e w' => ∃ b2, e = .returned (.tuple #[.pointer (some ⟨b2, 0, none⟩), .int .i64 0]) ∧ Hid (PL w0 w' w'.heap.size [⟨b1, 2, newP pT⟩, ⟨b2, 1, newP qT⟩])) := by
  refine ((h.upw (Up.alloc _ _)).c10 (tl_tn W ⟨2, 1, 0⟩) (by omega) (fun i _ => mayI (by show (1 : Int) ≤ 1; decide) (by show (1 : Int) ≤ 2; decide) (by show (2 : Int) ≤ 1099511627776; decide))).mono ?_
  rintro e w' ⟨b1, rfl, k1, k2⟩
  exact ⟨b1, rfl, k1⟩
theorem l_new3 {w0 W : World} {B b1 b2 : Nat} (h : PL w0 W B [⟨b1, 2, newP pT⟩, ⟨b2, 1, newP qT⟩]) : Calls Try.prog 10 #[.slice (some ⟨W.heap.size, 0, none⟩) 2 2] (W.alloc (.cells #[.int .i64 1099511627689, .int .i64 1, .int .i64 0, .int .i64 8388593, .int .i64 1, .int .i64 0] 26)) (fun e w' => ∃ b3, e = .returned (.tuple #[.pointer (some ⟨b3, 0, none⟩), .int .i64 0]) ∧ Hid (PL w0 w' w'.heap.size [⟨b1, 2, newP pT⟩, ⟨b2, 1, newP qT⟩, ⟨b3, 2, newP rT⟩])) := by
  refine ((h.upw (Up.alloc _ _)).c10 (tl_tw W ⟨1099511627689, 1, 0⟩ ⟨8388593, 1, 0⟩) (by omega) (may_tw (mayI (by decide) (by decide) (by decide)) (mayI (by decide) (by decide) (by decide)))).mono ?_
  rintro e w' ⟨b1, rfl, k1, k2⟩
  exact ⟨b1, rfl, k1⟩
theorem l_new4 {w0 W : World} {B b1 b2 b3 : Nat} (h : PL w0 W B [⟨b1, 2, newP pT⟩, ⟨b2, 1, newP qT⟩, ⟨b3, 2, newP rT⟩]) : Calls Try.prog 10 #[.slice (some ⟨W.heap.size, 0, none⟩) 1 1] (W.alloc (.cells #[.int .i64 1099511627775, .int .i64 1099511627775, .int .i64 0] 26)) (fun e w' => ∃ b4, e = .returned (.tuple #[.pointer (some ⟨b4, 0, none⟩), .int .i64 0]) ∧ Hid (PL w0 w' w'.heap.size (l4 b1 b2 b3 b4 (newP pT) (newP qT) (sP 0)))) := by
  refine ((h.upw (Up.alloc _ _)).c10 (tl_tn W ⟨1099511627775, 1099511627775, 0⟩) (by omega) (fun i _ => mayI (by show (1 : Int) ≤ 1099511627775; decide) (by show (1099511627775 : Int) ≤ 1099511627775; decide) (by show (1099511627775 : Int) ≤ 1099511627776; decide))).mono ?_
  rintro e w' ⟨b4, rfl, k1, k2⟩
  rw [full_0] at k1
  exact ⟨b4, rfl, k1⟩
theorem l_p7 {w0 W : World} {B b1 b2 b3 b4 : Nat} (h : PL w0 W B (l4 b1 b2 b3 b4 (newP pT) (newP qT) (sP 0))) : Calls Try.prog 18 #[.pointer (some ⟨b1, 0, none⟩), .int .i64 7] W (fun e w' => ∃ q c, e = .returned (.slice q 4 c) ∧ Hid (SO W.heap.size w' (.slice q 4 c) pD1) ∧ Hid (PL w0 w' B (l4 b1 b2 b3 b4 p1 (newP qT) (sP 0)))) := by
  refine (h.c18 0 rfl (by omega) 7 7 (by omega) (by omega) p_1).mono ?_
  rintro e w' ⟨q, c, rfl, k1, k2, k3⟩
  exact ⟨q, c, rfl, k1, k2⟩
theorem l_p12 {w0 W : World} {B b1 b2 b3 b4 : Nat} (h : PL w0 W B (l4 b1 b2 b3 b4 p1 (newP qT) (sP 0))) : Calls Try.prog 18 #[.pointer (some ⟨b1, 0, none⟩), .int .i64 12] W (fun e w' => ∃ q c y, e = .returned (.slice q 5 c) ∧ Hid (SO W.heap.size w' (.slice q 5 c) pD2) ∧ Hid (PL w0 w' B (l4 b1 b2 b3 b4 y (newP qT) (sP 0))) ∧ Hid (Kp (Fa w0 B) W w')) := by
  obtain ⟨y, hy⟩ := p_2
  refine (h.c18 0 rfl (by omega) 12 12 (by omega) (by omega) hy).mono ?_
  rintro e w' ⟨q, c, rfl, k1, k2, k3⟩
  exact ⟨q, c, y, rfl, k1, k2, k3⟩
theorem l_q2 {w0 W : World} {B b1 b2 b3 b4 : Nat} {x : Pl} (h : PL w0 W B (l4 b1 b2 b3 b4 x (newP qT) (sP 0))) : Calls Try.prog 18 #[.pointer (some ⟨b2, 0, none⟩), .int .i64 2] W (fun e w' => ∃ v, e = .returned v ∧ Hid (PL w0 w' B (l4 b1 b2 b3 b4 x q1 (sP 0)))) := by
  refine (h.c18 1 rfl (by omega) 2 2 (by omega) (by omega) q_1).mono ?_
  rintro e w' ⟨q, c, rfl, k1, k2, k3⟩
  exact ⟨_, rfl, k2⟩
theorem l_qs {w0 W : World} {B b1 b2 b3 b4 : Nat} {x : Pl} (h : PL w0 W B (l4 b1 b2 b3 b4 x q1 (sP 0))) : Calls Try.prog 19 #[.pointer (some ⟨b2, 0, none⟩), .int .i64 0, .agg #[.int .i64 5, .int .i64 1, .int .i64 0]] W (fun e w' => e = .returned (.int .i64 0) ∧ Hid (PL w0 w' w'.heap.size (l4 b1 b2 b3 b4 x q2 (sP 0)))) := by
  obtain ⟨c1, c2, c3, c4⟩ := q_c
  refine (h.c19c 1 rfl (i := 0) (by omega) c1 c2 c3 (by rw [c4]; omega) (e := 5) (l' := 1) (r := 0) (mayI (by decide) (by decide) (by decide)) (by omega) (A := 4) (by rw [c4]; decide)).mono ?_
  rintro e w' ⟨rfl, k1, k2⟩
  exact ⟨rfl, k1⟩
theorem l_q12 {w0 W : World} {B b1 b2 b3 b4 : Nat} {x : Pl} (h : PL w0 W B (l4 b1 b2 b3 b4 x q2 (sP 0))) : Calls Try.prog 18 #[.pointer (some ⟨b2, 0, none⟩), .int .i64 12] W (fun e w' => ∃ q c y, e = .returned (.slice q 3 c) ∧ Hid (SO W.heap.size w' (.slice q 3 c) qD) ∧ Hid (PL w0 w' B (l4 b1 b2 b3 b4 x y (sP 0)))) := by
  obtain ⟨y, hy⟩ := q_2
  refine (h.c18 1 rfl (by omega) 12 12 (by omega) (by omega) hy).mono ?_
  rintro e w' ⟨q, c, rfl, k1, k2, k3⟩
  exact ⟨q, c, y, rfl, k1, k2⟩
theorem l_rl {w0 W : World} {B b1 b2 b3 b4 : Nat} {x y z : Pl} (h : PL w0 W B (l4 b1 b2 b3 b4 x y z)) : Calls Try.prog 13 #[.pointer (some ⟨b3, 0, none⟩)] W (VU W (.tuple #[.int .i64 0, .int .i64 0])) := by
  have := h.c13 2 rfl (by omega) (fun i => if i = 0 then 1099511627689 else 8388593) (fun _ => 1) (fun i hi => by
    rcases (show i = 0 ∨ i = 1 by omega) with rfl | rfl
    · exact ⟨rfl, rfl, by decide, by decide, by decide⟩
    · exact ⟨rfl, rfl, by decide, by decide, by decide⟩)
  rw [r_load] at this
  exact this
theorem l_s {w0 W : World} {B b1 b2 b3 b4 : Nat} {x y : Pl} {r : Nat} (hr : r < 17) (h : PL w0 W B (l4 b1 b2 b3 b4 x y (sP r))) : Calls Try.prog 18 #[.pointer (some ⟨b4, 0, none⟩), .int .i64 1152921504606846971] W (fun e w' => ∃ v, e = .returned v ∧ Hid (PL w0 w' B (l4 b1 b2 b3 b4 x y (sP (r + 1))))) := by
  obtain ⟨D, hD⟩ := sP_until hr
  refine (h.c18 3 rfl (by omega) 1152921504606846971 1152921504606846971 (by omega) (by omega) hD).mono ?_
  rintro e w' ⟨q, c, rfl, k1, k2, k3⟩
  exact ⟨_, rfl, k2⟩
theorem l_sn {w0 W : World} {B b1 b2 b3 b4 : Nat} {x y : Pl} (h : PL w0 W B (l4 b1 b2 b3 b4 x y (sP 17))) : Calls Try.prog 17 #[.pointer (some ⟨b4, 0, none⟩)] W (VU W (.tuple #[.agg #[.int .i64 0, .int .i64 0, .int .i64 0, .bool false], .int .i64 3])) :=
  h.c17f 3 rfl (by omega) (by omega) (by show _ < nextE 1 sEnd; rw [sEnd_next]; omega)
theorem l_new5 {w0 W : World} {B b1 b2 b3 b4 : Nat} {x y : Pl} (h : PL w0 W B (l4 b1 b2 b3 b4 x y (sP 17))) : Calls Try.prog 10 #[.slice (some ⟨W.heap.size, 0, none⟩) 2 2] (W.alloc (.cells #[.int .i64 6, .int .i64 6, .int .i64 0, .int .i64 2, .int .i64 1, .int .i64 0] 26)) (fun e w' => ∃ b5, e = .returned (.tuple #[.pointer (some ⟨b5, 0, none⟩), .int .i64 0]) ∧ Hid (PL w0 w' w'.heap.size (l5 b1 b2 b3 b4 b5 x y (newP uT)))) := by
  refine ((h.upw (Up.alloc _ _)).c10 (tl_tw W ⟨6, 6, 0⟩ ⟨2, 1, 0⟩) (by omega) (may_tw (mayI (by decide) (by decide) (by decide)) (mayI (by decide) (by decide) (by decide)))).mono ?_
  rintro e w' ⟨b1, rfl, k1, k2⟩
  exact ⟨b1, rfl, k1⟩
theorem l_u8 {w0 W : World} {B b1 b2 b3 b4 b5 : Nat} {x y : Pl} (h : PL w0 W B (l5 b1 b2 b3 b4 b5 x y (newP uT))) : Calls Try.prog 18 #[.pointer (some ⟨b5, 0, none⟩), .int .i64 8] W (fun e w' => ∃ v, e = .returned v ∧ Hid (PL w0 w' B (l5 b1 b2 b3 b4 b5 x y u1))) := by
  refine (h.c18 4 rfl (by omega) 8 8 (by omega) (by omega) u_1).mono ?_
  rintro e w' ⟨q, c, rfl, k1, k2, k3⟩
  exact ⟨_, rfl, k2⟩
theorem l_us {w0 W : World} {B b1 b2 b3 b4 b5 : Nat} {x y : Pl} (h : PL w0 W B (l5 b1 b2 b3 b4 b5 x y u1)) : Calls Try.prog 19 #[.pointer (some ⟨b5, 0, none⟩), .int .i64 0, .agg #[.int .i64 1000, .int .i64 1, .int .i64 0]] W (fun e w' => e = .returned (.int .i64 0) ∧ Hid (PL w0 w' w'.heap.size (l5 b1 b2 b3 b4 b5 x y u2))) := by
  obtain ⟨c1, c2, c3, c4⟩ := u_c
  refine (h.c19c 4 rfl (i := 0) (by omega) c1 c2 c3 (by rw [c4]; omega) (e := 1000) (l' := 1) (r := 0) (mayI (by decide) (by decide) (by decide)) (by omega) (A := 12) (by rw [c4]; decide)).mono ?_
  rintro e w' ⟨rfl, k1, k2⟩
  exact ⟨rfl, k1⟩
theorem l_u30 {w0 W : World} {B b1 b2 b3 b4 b5 : Nat} {x y : Pl} (h : PL w0 W B (l5 b1 b2 b3 b4 b5 x y u2)) : Calls Try.prog 18 #[.pointer (some ⟨b5, 0, none⟩), .int .i64 30] W (fun e w' => ∃ q c z, e = .returned (.slice q 15 c) ∧ Hid (SO W.heap.size w' (.slice q 15 c) uD) ∧ Hid (PL w0 w' B (l5 b1 b2 b3 b4 b5 x y z)) ∧ Hid (W.heap.size ≤ w'.heap.size)) := by
  obtain ⟨z, hz⟩ := u_2
  refine (h.c18 4 rfl (by omega) 30 30 (by omega) (by omega) hz).mono ?_
  rintro e w' ⟨q, c, rfl, k1, k2, k3⟩
  exact ⟨q, c, z, rfl, k1, k2, k3.out.size⟩
theorem l_sw {w0 W : World} {B b1 b2 b3 b4 b5 : Nat} {x y z : Pl} (h : PL w0 W B (l5 b1 b2 b3 b4 b5 x y z)) : Calls Try.prog 15 #[.pointer (some ⟨b4, 0, none⟩)] W (fun e w' => e = .returned (.int .i64 1152921504606846971) ∧ w' = W) := h.c15 3 rfl
/-- What is wanted, step by step. -/
theorem want1 {k : Nat} (h : k < 3) : uD1.take k ++ [⟨1, 8 + k, 8 + k + 1, true⟩] = uD1.take (k + 1) := by
  rcases (show k = 0 ∨ k = 1 ∨ k = 2 by omega) with rfl | rfl | rfl <;> rfl
theorem want2 {k : Nat} (h : k < 8) : uD2.take k ++ [⟨1, 17 + k, 17 + k + 1, decide ((17 : Int) + k < 23)⟩] = uD2.take (k + 1) := by
  rcases (show k = 0 ∨ k = 1 ∨ k = 2 ∨ k = 3 ∨ k = 4 ∨ k = 5 ∨ k = 6 ∨ k = 7 by omega) with rfl | rfl | rfl | rfl | rfl | rfl | rfl | rfl <;> rfl
/-- A list under way: W is the world ahead of it. -/
structure WN (W wr : World) (v : Value) (D : List Sl) : Prop where
  so : SO W.heap.size wr v D
  kp : Kp (fun b => b < W.heap.size) W wr
theorem WN.start (W : World) : WN W W (.slice none 0 0) [] := ⟨SO.nil _ _, Kp.refl _ _⟩
theorem WN.size {W wr : World} {v : Value} {D : List Sl} (h : WN W wr v D) : W.heap.size ≤ wr.heap.size := h.kp.size
theorem WN.next {W wr w' : World} {v v' : Value} {D D' : List Sl} (h : WN W wr v D) (o : Obj) (h1 : SO W.heap.size w' v' D') (h2 : (wr.alloc o).grownBy w' v.ownBlock) : WN W w' v' D' := by
  refine ⟨h1, (h.kp.alloc o).two (Kp.grown h2) (fun b hb _ e => ?_)⟩
  have := (World.ownsRow.lt h.so b e.symm).1
  omega
end Go.Proofs.Ytjklaemhfhakhaa
/- late: the walk. -/
namespace Go.Proofs.Ytjklaemhfhakhaa
open Go.ChangeShapes Go.WideShapes Go.ChangeAt Go.RowKit

theorem l_22a {w0 W : World} {B : Nat} {l : List PE} (h : PL w0 W B l) {ba c : Nat} {q : Option Addr} (ha : SO ba W (.slice q 4 c) pD1) (hB : B ≤ ba) (hba : ba ≤ W.heap.size) :
    Calls Try.prog 22 #[.slice q 4 c, .slice (some ⟨W.heap.size, 0, none⟩) 4 4] (W.alloc (.cells #[.int .i64 1, .int .i64 0, .int .i64 1, .bool false, .int .i64 1, .int .i64 1, .int .i64 2, .bool false, .int .i64 1, .int .i64 2, .int .i64 3, .bool false, .int .i64 0, .int .i64 3, .int .i64 7, .bool true] 42)) (fun e w' => e = .returned (.bool true) ∧ Hid (PL w0 w' B l) ∧ Hid (Kp (fun k => some k ≠ (Value.slice q 4 c).ownBlock) W w')) :=
  h.c22 ha hB hba rfl (by omega)
theorem l_22b {w0 W : World} {B : Nat} {l : List PE} (h : PL w0 W B l) {ba c : Nat} {q : Option Addr} (ha : SO ba W (.slice q 5 c) pD2) (hB : B ≤ ba) (hba : ba ≤ W.heap.size) :
    Calls Try.prog 22 #[.slice q 5 c, .slice (some ⟨W.heap.size, 0, none⟩) 5 5] (W.alloc (.cells #[.int .i64 1, .int .i64 7, .int .i64 8, .bool true, .int .i64 1, .int .i64 8, .int .i64 9, .bool true, .int .i64 1, .int .i64 9, .int .i64 10, .bool true, .int .i64 1, .int .i64 10, .int .i64 11, .bool true, .int .i64 0, .int .i64 11, .int .i64 12, .bool true] 42)) (fun e w' => e = .returned (.bool true) ∧ Hid (PL w0 w' B l) ∧ Hid (Kp (fun k => some k ≠ (Value.slice q 5 c).ownBlock) W w')) :=
  h.c22 ha hB hba rfl (by omega)
theorem l_22q {w0 W : World} {B : Nat} {l : List PE} (h : PL w0 W B l) {ba c : Nat} {q : Option Addr} (ha : SO ba W (.slice q 3 c) qD) (hB : B ≤ ba) (hba : ba ≤ W.heap.size) :
    Calls Try.prog 22 #[.slice q 3 c, .slice (some ⟨W.heap.size, 0, none⟩) 3 3] (W.alloc (.cells #[.int .i64 0, .int .i64 2, .int .i64 3, .bool false, .int .i64 0, .int .i64 4, .int .i64 5, .bool false, .int .i64 0, .int .i64 9, .int .i64 10, .bool false] 42)) (fun e w' => e = .returned (.bool true) ∧ Hid (PL w0 w' B l) ∧ Hid (Kp (fun k => some k ≠ (Value.slice q 3 c).ownBlock) W w')) :=
  h.c22 ha hB hba rfl (by omega)
theorem l_lit (W : World) : SO W.heap.size (W.alloc (.cells #[.int .i64 0, .int .i64 25, .int .i64 26, .bool false, .int .i64 1, .int .i64 26, .int .i64 27, .bool false, .int .i64 1, .int .i64 28, .int .i64 29, .bool false] 42)) (.slice (some ⟨W.heap.size, 0, none⟩) 3 3) uD3 := so_lit W uD3 (by show 3 ≤ 1000000; omega)
theorem l_22u {w0 W0 W wr : World} {B : Nat} {l : List PE} (h : PL w0 W B l) {c c' : Nat} {q p : Option Addr} (hB : B = W0.heap.size) (ha : SO W0.heap.size W (.slice q 15 c) uD) (hw : WN W wr (.slice p 15 c') uD) :
    Calls Try.prog 22 #[.slice q 15 c, .slice p 15 c'] wr (fun e w' => e = .returned (.bool true) ∧ Hid (PL w0 w' B l)) := by
  subst hB
  have hlt := World.ownsRow.lt ha
  have hlt2 := World.ownsRow.lt hw.so
  have ha2 : SO W0.heap.size wr (.slice q 15 c) uD := ha.kp hw.kp (fun r hr => (hlt r hr).2)
  refine (t22 ha2 hw.so (fun r hr e => by
    have h1 := (hlt r e.symm).2
    have h2 := (hlt2 r hr).1
    omega) (by omega) (Nat.le_trans h.hi hw.size)).mono ?_
  rintro e w' ⟨rfl, hk⟩
  refine ⟨rfl, h.kp ((hw.kp.mono (fun k _ hb => Nat.lt_of_lt_of_le hb h.hi)).two hk.out (fun b hb _ e => ?_))⟩
  have := (hlt b e.symm).1
  omega
theorem l_new5a {w0 W : World} {B b1 b2 b3 b4 : Nat} {x y : Pl} (h : PL w0 W B (l4 b1 b2 b3 b4 x y (sP 17))) : Calls Try.prog 10 #[.slice (some ⟨W.heap.size + 1, 0, none⟩) 2 2] ((W.alloc (.cells #[.int .i64 0, .int .i64 0, .int .i64 0, .bool false] 42)).alloc (.cells #[.int .i64 6, .int .i64 6, .int .i64 0, .int .i64 2, .int .i64 1, .int .i64 0] 26)) (fun e w' => ∃ b5, e = .returned (.tuple #[.pointer (some ⟨b5, 0, none⟩), .int .i64 0]) ∧ Hid (PL w0 w' w'.heap.size (l5 b1 b2 b3 b4 b5 x y (newP uT)))) := by
  have := l_new5 (h.upw (Up.alloc W (.cells #[.int .i64 0, .int .i64 0, .int .i64 0, .bool false] 42)))
  rw [show (W.alloc (.cells #[.int .i64 0, .int .i64 0, .int .i64 0, .bool false] 42)).heap.size = W.heap.size + 1 by simp] at this
  exact this
set_option maxRecDepth 200000 in
set_option maxHeartbeats 16000000 in
theorem t24 (w : World) : Calls Try.prog 24 #[] w (VU w (.bool true)) := by
  go_enter Try.func24, Try.ntmps24
  go_upto_region 17 with (first
    | (go_at_call 10; (with_reducible refine (l_new1 w).mono ?_); rintro e w1 ⟨b1, rfl, HX1⟩)
    | (go_at_call 10; (with_reducible refine (l_new2 HX1.out).mono ?_); rintro e w2 ⟨b2, rfl, HX2⟩)
    | (go_at_call 10; (with_reducible refine (l_new3 HX2.out).mono ?_); rintro e w3 ⟨b3, rfl, HX3⟩)
    | (go_at_call 10; (with_reducible refine (l_new4 HX3.out).mono ?_); rintro e w4 ⟨b4, rfl, HX4⟩)
    | (go_at_call 18; (with_reducible refine (l_p7 HX4.out).mono ?_); rintro e w5 ⟨qa, ca, rfl, HSa, HX5⟩)
    | (go_at_call 18; (with_reducible refine (l_p12 HX5.out).mono ?_); rintro e w6 ⟨qb, cb, x, rfl, HSb, HX6, HK6⟩; (have HSa6 : Hid (SO w4.heap.size w6 (.slice qa 4 ca) pD1) := HSa.out.keep (Nat.le_refl _) HK6.out))
    | (go_at_call 22; (with_reducible refine (l_22a HX6.out HSa6.out (Nat.le_refl _) HX6.out.hi).mono ?_); rintro e w7 ⟨rfl, HX7, HK7⟩; (have HSb7 : Hid (SO w5.heap.size w7 (.slice qb 5 cb) pD2) := HSb.out.kp HK7.out (fun r hr e => by
        have h1 := (World.ownsRow.lt HSa.out r e.symm).2
        have h2 := (World.ownsRow.lt HSb.out r hr).1
        omega)); (have hsz7 := Nat.le_trans HK6.out.size HK7.out.size))
    | (go_at_call 22; (with_reducible refine (l_22b HX7.out HSb7.out HX5.out.hi hsz7).mono ?_); rintro e w8 ⟨rfl, HX8, HK8⟩)
    | (go_at_call 18; (with_reducible refine (l_q2 HX8.out).mono ?_); rintro e w9 ⟨v9, rfl, HX9⟩)
    | (go_at_call 19; (with_reducible refine (l_qs HX9.out).mono ?_); rintro e w10 ⟨rfl, HX10⟩)
    | (go_at_call 18; (with_reducible refine (l_q12 HX10.out).mono ?_); rintro e w11 ⟨qq, cq, y, rfl, HSq, HX11⟩)
    | (go_at_call 22; (with_reducible refine (l_22q HX11.out HSq.out (Nat.le_refl _) HX11.out.hi).mono ?_); rintro e w12 ⟨rfl, HX12, HK12⟩)
    | (go_at_call 13; (with_reducible refine (l_rl HX12.out).mono ?_); rintro e w13 ⟨rfl, HU13⟩; (have HX13 : Hid (PL w w13 w10.heap.size (l4 b1 b2 b3 b4 x y (sP 0))) := HX12.out.upw HU13.out)))
  clear HX1 HX2 HX3 HX4 HX5 HSa HSb HX6 HK6 HSa6 HX7 HK7 HSb7 hsz7 HX8 HK8 HX9 HX10 HSq HX11 HX12 HK12 HU13
  generalize w10.heap.size = B at *
  go_loopw [18] (fun v18 wr => ∃ i : Nat, i ≤ 17 ∧ v18 = .int .i64 i ∧ Hid (PL w wr B (l4 b1 b2 b3 b4 x y (sP i)))) (fun v18 _ => 17 - (intOf v18).toNat)
  case atStart => exact ⟨0, by omega, rfl, HX13⟩
  case round =>
    clear HX13
    obtain ⟨i, hi, rfl, HX⟩ := hrel
    rename World => wr
    by_cases hi17 : i < 17
    · have c0 : (i : Int) < 17 := by omega
      go_wp2_with (go_at_call 18; (with_reducible refine (l_s hi17 HX.out).mono ?_); rintro e w14 ⟨v14, rfl, HX14⟩)
      go_roundw
      case rel => exact ⟨i + 1, by omega, by go_num, HX14⟩
      case measure => simp [intOf]; omega
    · have c0 : ¬ (i : Int) < 17 := by omega
      obtain rfl : i = 17 := by omega
      go_upto_region 29 with (first
        | (go_at_call 17; (with_reducible refine (l_sn HX.out).mono ?_); rintro e w14 ⟨rfl, HU14⟩; (have HX14 : Hid (PL w w14 B (l4 b1 b2 b3 b4 x y (sP 17))) := HX.out.upw HU14.out))
        | (go_at_call 10; (with_reducible refine (l_new5a HX14.out).mono ?_); rintro e w15 ⟨b5, rfl, HX15⟩)
        | (go_at_call 18; (with_reducible refine (l_u8 HX15.out).mono ?_); rintro e w16 ⟨v16, rfl, HX16⟩)
        | (go_at_call 19; (with_reducible refine (l_us HX16.out).mono ?_); rintro e w17 ⟨rfl, HX17⟩)
        | (go_at_call 18; (with_reducible refine (l_u30 HX17.out).mono ?_); rintro e w18 ⟨ql, cl, z, rfl, HSl, HX18, HZ18⟩))
      clear HX HX14 HX15 HX16 HX17 HU14
      have HW0 : Hid (WN w18 w18 (.slice none 0 0) (uD1.take 0)) := WN.start w18
      go_loopw [24, 25] (fun v24 v25 wr => ∃ (k : Nat) (p : Option Addr) (c : Nat), k ≤ 3 ∧ v25 = .int .i64 (8 + k) ∧ v24 = .slice p k c ∧ Hid (WN w18 wr (.slice p k c) (uD1.take k))) (fun _ v25 _ => 11 - (intOf v25).toNat)
      case atStart => exact ⟨0, none, 0, by omega, by go_num, rfl, HW0⟩
      case round =>
        clear HW0
        obtain ⟨k, p, c, hk, rfl, rfl, HW⟩ := hrel
        rename World => wa
        by_cases hk3 : k < 3
        · have c1 : (8 : Int) + (k : Int) < 11 := by omega
          have c2 : IntKind.i64.wrap (8 + (k : Int) + 1) = 8 + (k : Int) + 1 := by rw [IntKind.wrap_i64]; omega
          have hsz := HW.out.size
          go_wp2_with (at_builtin; (with_reducible refine wpList_push (z := ⟨1, 8 + k, 8 + k + 1, true⟩) rfl _ _ rfl p k c (uD1.take k) rfl rfl HW.out.so hsz (by omega) ?_); intro p' c' w5 HS5 HG5 HB5)
          go_roundw
          case rel => exact ⟨k + 1, p', c', by omega, by go_num, rfl, HW.out.next _ (by rw [← want1 hk3]; exact HS5.out) HG5.out⟩
          case measure => simp [intOf]; omega
        · have c1 : ¬ (8 : Int) + (k : Int) < 11 := by omega
          obtain rfl : k = 3 := by omega
          have hsz := HW.out.size
          go_upto_region 34 with (at_builtin; (with_reducible refine wpList_push (z := ⟨0, 11, 17, true⟩) rfl _ _ rfl p 3 c (uD1.take 3) rfl rfl HW.out.so hsz (by omega) ?_); intro p' c' w5 HS5 HG5 HB5)
          have HV0 : Hid (WN w18 w5 (.slice p' 4 c') (uD1 ++ [⟨0, 11, 17, true⟩] ++ uD2.take 0)) := HW.out.next _ HS5.out HG5.out
          clear HW HS5 HG5 HB5
          go_loopw [24, 26] (fun v24 v26 wr => ∃ (k : Nat) (p : Option Addr) (c : Nat), k ≤ 8 ∧ v26 = .int .i64 (17 + k) ∧ v24 = .slice p (4 + k) c ∧ Hid (WN w18 wr (.slice p (4 + k) c) (uD1 ++ [⟨0, 11, 17, true⟩] ++ uD2.take k))) (fun _ v26 _ => 25 - (intOf v26).toNat)
          case atStart => exact ⟨0, p', c', by omega, by go_num, rfl, HV0⟩
          case round =>
            clear HV0
            obtain ⟨k, p, c, hk, rfl, rfl, HW⟩ := hrel
            rename World => wb
            by_cases hk8 : k < 8
            · have c3 : (17 : Int) + (k : Int) < 25 := by omega
              have c4 : IntKind.i64.wrap (17 + (k : Int) + 1) = 17 + (k : Int) + 1 := by rw [IntKind.wrap_i64]; omega
              obtain ⟨bb, hbb⟩ : ∃ bb, decide ((17 : Int) + (k : Int) < 23) = bb := ⟨_, rfl⟩
              have HBB : Hid (decide ((17 : Int) + (k : Int) < 23) = bb) := hbb
              have hsz := HW.out.size
              go_wp2_with (at_builtin; (with_reducible refine wpList_push (z := ⟨1, 17 + k, 17 + k + 1, bb⟩) rfl _ _ rfl p (4 + k) c (uD1 ++ [⟨0, 11, 17, true⟩] ++ uD2.take k) rfl rfl HW.out.so hsz (by omega) ?_); intro p' c' w5 HS5 HG5 HB5)
              go_roundw
              case rel => exact ⟨k + 1, p', c', by omega, by go_num, rfl, HW.out.next _ (by rw [← want2 hk8, HBB.out, ← List.append_assoc]; exact HS5.out) HG5.out⟩
              case measure => simp [intOf]; omega
            · have c3 : ¬ (17 : Int) + (k : Int) < 25 := by omega
              obtain rfl : k = 8 := by omega
              have HW12 : Hid (WN w18 wb (.slice p 12 c) (uD1 ++ [⟨0, 11, 17, true⟩] ++ uD2.take 8)) := HW
              clear HW
              have hsz12 : ∀ o, w18.heap.size ≤ (wb.alloc o).heap.size := fun o => Nat.le_trans HW12.out.size (Up.alloc wb o).size
              simp only [Nat.reduceAdd]
              go_wp2_with (first
                | (at_builtin; (with_reducible refine wpList_app_so rfl _ _ rfl w18.heap.size wb.heap.size 12 c p (some ⟨wb.heap.size, 0, none⟩) 3 3 (uD1 ++ [⟨0, 11, 17, true⟩] ++ uD2.take 8) uD3 rfl rfl (HW12.out.so.up (Up.alloc _ _)) (l_lit wb) (by omega) (hsz12 _) ?_); intro p' c' w5 HS5 HG5; (have HW5 : Hid (WN w18 w5 (.slice p' 15 c') uD) := HW12.out.next _ HS5 HG5); clear HS5 HG5)
                | (go_at_call 22; (with_reducible refine (l_22u HX18.out rfl HSl.out HW5.out).mono ?_); rintro e w19 ⟨rfl, HX19⟩)
                | (go_at_call 15; (with_reducible refine (l_sw HX19.out).mono ?_); rintro e w20 ⟨rfl, hw20⟩; subst hw20))
              go_ret
              exact ⟨rfl, HX19.out.up⟩
end Go.Proofs.Ytjklaemhfhakhaa
