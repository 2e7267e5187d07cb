/- late: its calls. -/
import Derived.Test.YtjklaemhfhakhaaKj
namespace Go.Proofs.Ytjklaemhfhakhaa
open Go.ChangeShapes Go.WideShapes Go.ChangeAt Go.RowKit

theorem so_lit (w : World) (D : List Sl) (h : D.length ≤ 1000000) : SO w.heap.size (w.alloc (.cells (fl4 D).toArray 42)) (.slice (some ⟨w.heap.size, 0, none⟩) D.length D.length) D := by
  have := World.ownsRow_lit (base := w.heap.size) (e := 42) (size := 4) w (fl4 D).toArray D.length (Nat.le_refl _) (by unfold maxLen; omega) (by simp [fl4_len])
  simpa [SO] using this
theorem PL.c22 {w0 W : World} {B : Nat} {l : List PE} (h : PL w0 W B l) {ba n c : Nat} {q : Option Addr} {A : List Sl} (ha : SO ba W (.slice q n c) A) (hB : B ≤ ba) (hba : ba ≤ W.heap.size) (hn : A.length = n) (hn2 : n ≤ 1000000) :
    Calls Try.prog 22 #[.slice q n c, .slice (some ⟨W.heap.size, 0, none⟩) n n] (W.alloc (.cells (fl4 A).toArray 42)) (fun e w' => e = .returned (.bool true) ∧ Hid (PL w0 w' B l) ∧ Hid (Kp (fun k => some k ≠ (Value.slice q n c).ownBlock) W w')) := by
  subst hn
  have hC := so_lit W A hn2
  have hlt := World.ownsRow.lt ha
  refine (t22 (ha.up (Up.alloc _ _)) hC (fun r hr e => by
    have h1 := hlt r e.symm
    have h2 : W.heap.size = r := by simpa [Value.ownBlock] using hr
    omega) hn2 (Nat.le_trans hba (Up.alloc W _).size)).mono ?_
  rintro e w' ⟨rfl, hk⟩
  have hk2 : Kp (fun k => some k ≠ (Value.slice q A.length c).ownBlock) W w' := (Kp.of_up (Up.alloc W _)).trans hk.out
  refine ⟨rfl, h.kp (hk2.mono fun k _ hb e => ?_), hk2⟩
  have := (hlt k e.symm).1
  omega
/-- The plans of late. -/
def rT : Nat → Tk := tw ⟨1099511627689, 1, 0⟩ ⟨8388593, 1, 0⟩
def l1 (b1 : Nat) : List PE := [⟨b1, 2, newP pT⟩]
def l4 (b1 b2 b3 b4 : Nat) (x y z : Pl) : List PE := [⟨b1, 2, x⟩, ⟨b2, 1, y⟩, ⟨b3, 2, newP rT⟩, ⟨b4, 1, z⟩]
def l5 (b1 b2 b3 b4 b5 : Nat) (x y u : Pl) : List PE := [⟨b1, 2, x⟩, ⟨b2, 1, y⟩, ⟨b3, 2, newP rT⟩, ⟨b4, 1, sP 17⟩, ⟨b5, 2, u⟩]
theorem l_new1 (w0 : World) : Calls Try.prog 10 #[.slice (some ⟨w0.heap.size, 0, none⟩) 2 2] (w0.alloc (.cells #[.int .i64 4, .int .i64 4, .int .i64 0, .int .i64 1, .int .i64 1, .int .i64 0] 26)) (fun e w' => ∃ b1, e = .returned (.tuple #[.pointer (some ⟨b1, 0, none⟩), .int .i64 0]) ∧ Hid (PL w0 w' w'.heap.size [⟨b1, 2, newP pT⟩])) := by
  refine (((PL.start w0).upw (Up.alloc _ _)).c10 (tl_tw w0 ⟨4, 4, 0⟩ ⟨1, 1, 0⟩) (by omega) (may_tw (mayI (by decide) (by decide) (by decide)) (mayI (by decide) (by decide) (by decide)))).mono ?_
  rintro e w' ⟨b1, rfl, k1, k2⟩
  exact ⟨b1, rfl, k1⟩
theorem l_new2 {w0 W : World} {B b1 : Nat} (h : PL w0 W B [⟨b1, 2, newP pT⟩]) : Calls Try.prog 10 #[.slice (some ⟨W.heap.size, 0, none⟩) 1 1] (W.alloc (.cells #[.int .i64 2, .int .i64 1, .int .i64 0] 26)) (fun e w' => ∃ b2, e = .returned (.tuple #[.pointer (some ⟨b2, 0, none⟩), .int .i64 0]) ∧ Hid (PL w0 w' w'.heap.size [⟨b1, 2, newP pT⟩, ⟨b2, 1, newP qT⟩])) := by
  refine ((h.upw (Up.alloc _ _)).c10 (tl_tn W ⟨2, 1, 0⟩) (by omega) (fun i _ => mayI (by show (1 : Int) ≤ 1; decide) (by show (1 : Int) ≤ 2; decide) (by show (2 : Int) ≤ 1099511627776; decide))).mono ?_
  rintro e w' ⟨b1, rfl, k1, k2⟩
  exact ⟨b1, rfl, k1⟩
theorem l_new3 {w0 W : World} {B b1 b2 : Nat} (h : PL w0 W B [⟨b1, 2, newP pT⟩, ⟨b2, 1, newP qT⟩]) : Calls Try.prog 10 #[.slice (some ⟨W.heap.size, 0, none⟩) 2 2] (W.alloc (.cells #[.int .i64 1099511627689, .int .i64 1, .int .i64 0, .int .i64 8388593, .int .i64 1, .int .i64 0] 26)) (fun e w' => ∃ b3, e = .returned (.tuple #[.pointer (some ⟨b3, 0, none⟩), .int .i64 0]) ∧ Hid (PL w0 w' w'.heap.size [⟨b1, 2, newP pT⟩, ⟨b2, 1, newP qT⟩, ⟨b3, 2, newP rT⟩])) := by
  refine ((h.upw (Up.alloc _ _)).c10 (tl_tw W ⟨1099511627689, 1, 0⟩ ⟨8388593, 1, 0⟩) (by omega) (may_tw (mayI (by decide) (by decide) (by decide)) (mayI (by decide) (by decide) (by decide)))).mono ?_
  rintro e w' ⟨b1, rfl, k1, k2⟩
  exact ⟨b1, rfl, k1⟩
theorem l_new4 {w0 W : World} {B b1 b2 b3 : Nat} (h : PL w0 W B [⟨b1, 2, newP pT⟩, ⟨b2, 1, newP qT⟩, ⟨b3, 2, newP rT⟩]) : Calls Try.prog 10 #[.slice (some ⟨W.heap.size, 0, none⟩) 1 1] (W.alloc (.cells #[.int .i64 1099511627775, .int .i64 1099511627775, .int .i64 0] 26)) (fun e w' => ∃ b4, e = .returned (.tuple #[.pointer (some ⟨b4, 0, none⟩), .int .i64 0]) ∧ Hid (PL w0 w' w'.heap.size (l4 b1 b2 b3 b4 (newP pT) (newP qT) (sP 0)))) := by
  refine ((h.upw (Up.alloc _ _)).c10 (tl_tn W ⟨1099511627775, 1099511627775, 0⟩) (by omega) (fun i _ => mayI (by show (1 : Int) ≤ 1099511627775; decide) (by show (1099511627775 : Int) ≤ 1099511627775; decide) (by show (1099511627775 : Int) ≤ 1099511627776; decide))).mono ?_
  rintro e w' ⟨b4, rfl, k1, k2⟩
  rw [full_0] at k1
  exact ⟨b4, rfl, k1⟩
theorem l_p7 {w0 W : World} {B b1 b2 b3 b4 : Nat} (h : PL w0 W B (l4 b1 b2 b3 b4 (newP pT) (newP qT) (sP 0))) : Calls Try.prog 18 #[.pointer (some ⟨b1, 0, none⟩), .int .i64 7] W (fun e w' => ∃ q c, e = .returned (.slice q 4 c) ∧ Hid (SO W.heap.size w' (.slice q 4 c) pD1) ∧ Hid (PL w0 w' B (l4 b1 b2 b3 b4 p1 (newP qT) (sP 0)))) := by
  refine (h.c18 0 rfl (by omega) 7 7 (by omega) (by omega) p_1).mono ?_
  rintro e w' ⟨q, c, rfl, k1, k2, k3⟩
  exact ⟨q, c, rfl, k1, k2⟩
theorem l_p12 {w0 W : World} {B b1 b2 b3 b4 : Nat} (h : PL w0 W B (l4 b1 b2 b3 b4 p1 (newP qT) (sP 0))) : Calls Try.prog 18 #[.pointer (some ⟨b1, 0, none⟩), .int .i64 12] W (fun e w' => ∃ q c y, e = .returned (.slice q 5 c) ∧ Hid (SO W.heap.size w' (.slice q 5 c) pD2) ∧ Hid (PL w0 w' B (l4 b1 b2 b3 b4 y (newP qT) (sP 0))) ∧ Hid (Kp (Fa w0 B) W w')) := by
  obtain ⟨y, hy⟩ := p_2
  refine (h.c18 0 rfl (by omega) 12 12 (by omega) (by omega) hy).mono ?_
  rintro e w' ⟨q, c, rfl, k1, k2, k3⟩
  exact ⟨q, c, y, rfl, k1, k2, k3⟩
theorem l_q2 {w0 W : World} {B b1 b2 b3 b4 : Nat} {x : Pl} (h : PL w0 W B (l4 b1 b2 b3 b4 x (newP qT) (sP 0))) : Calls Try.prog 18 #[.pointer (some ⟨b2, 0, none⟩), .int .i64 2] W (fun e w' => ∃ v, e = .returned v ∧ Hid (PL w0 w' B (l4 b1 b2 b3 b4 x q1 (sP 0)))) := by
  refine (h.c18 1 rfl (by omega) 2 2 (by omega) (by omega) q_1).mono ?_
  rintro e w' ⟨q, c, rfl, k1, k2, k3⟩
  exact ⟨_, rfl, k2⟩
theorem l_qs {w0 W : World} {B b1 b2 b3 b4 : Nat} {x : Pl} (h : PL w0 W B (l4 b1 b2 b3 b4 x q1 (sP 0))) : Calls Try.prog 19 #[.pointer (some ⟨b2, 0, none⟩), .int .i64 0, .agg #[.int .i64 5, .int .i64 1, .int .i64 0]] W (fun e w' => e = .returned (.int .i64 0) ∧ Hid (PL w0 w' w'.heap.size (l4 b1 b2 b3 b4 x q2 (sP 0)))) := by
  obtain ⟨c1, c2, c3, c4⟩ := q_c
  refine (h.c19c 1 rfl (i := 0) (by omega) c1 c2 c3 (by rw [c4]; omega) (e := 5) (l' := 1) (r := 0) (mayI (by decide) (by decide) (by decide)) (by omega) (A := 4) (by rw [c4]; decide)).mono ?_
  rintro e w' ⟨rfl, k1, k2⟩
  exact ⟨rfl, k1⟩
theorem l_q12 {w0 W : World} {B b1 b2 b3 b4 : Nat} {x : Pl} (h : PL w0 W B (l4 b1 b2 b3 b4 x q2 (sP 0))) : Calls Try.prog 18 #[.pointer (some ⟨b2, 0, none⟩), .int .i64 12] W (fun e w' => ∃ q c y, e = .returned (.slice q 3 c) ∧ Hid (SO W.heap.size w' (.slice q 3 c) qD) ∧ Hid (PL w0 w' B (l4 b1 b2 b3 b4 x y (sP 0)))) := by
  obtain ⟨y, hy⟩ := q_2
  refine (h.c18 1 rfl (by omega) 12 12 (by omega) (by omega) hy).mono ?_
  rintro e w' ⟨q, c, rfl, k1, k2, k3⟩
  exact ⟨q, c, y, rfl, k1, k2⟩
theorem l_rl {w0 W : World} {B b1 b2 b3 b4 : Nat} {x y z : Pl} (h : PL w0 W B (l4 b1 b2 b3 b4 x y z)) : Calls Try.prog 13 #[.pointer (some ⟨b3, 0, none⟩)] W (VU W (.tuple #[.int .i64 0, .int .i64 0])) := by
  have := h.c13 2 rfl (by omega) (fun i => if i = 0 then 1099511627689 else 8388593) (fun _ => 1) (fun i hi => by
    rcases (show i = 0 ∨ i = 1 by omega) with rfl | rfl
    · exact ⟨rfl, rfl, by decide, by decide, by decide⟩
    · exact ⟨rfl, rfl, by decide, by decide, by decide⟩)
  rw [r_load] at this
  exact this
theorem l_s {w0 W : World} {B b1 b2 b3 b4 : Nat} {x y : Pl} {r : Nat} (hr : r < 17) (h : PL w0 W B (l4 b1 b2 b3 b4 x y (sP r))) : Calls Try.prog 18 #[.pointer (some ⟨b4, 0, none⟩), .int .i64 1152921504606846971] W (fun e w' => ∃ v, e = .returned v ∧ Hid (PL w0 w' B (l4 b1 b2 b3 b4 x y (sP (r + 1))))) := by
  obtain ⟨D, hD⟩ := sP_until hr
  refine (h.c18 3 rfl (by omega) 1152921504606846971 1152921504606846971 (by omega) (by omega) hD).mono ?_
  rintro e w' ⟨q, c, rfl, k1, k2, k3⟩
  exact ⟨_, rfl, k2⟩
theorem l_sn {w0 W : World} {B b1 b2 b3 b4 : Nat} {x y : Pl} (h : PL w0 W B (l4 b1 b2 b3 b4 x y (sP 17))) : Calls Try.prog 17 #[.pointer (some ⟨b4, 0, none⟩)] W (VU W (.tuple #[.agg #[.int .i64 0, .int .i64 0, .int .i64 0, .bool false], .int .i64 3])) :=
  h.c17f 3 rfl (by omega) (by omega) (by show _ < nextE 1 sEnd; rw [sEnd_next]; omega)
theorem l_new5 {w0 W : World} {B b1 b2 b3 b4 : Nat} {x y : Pl} (h : PL w0 W B (l4 b1 b2 b3 b4 x y (sP 17))) : Calls Try.prog 10 #[.slice (some ⟨W.heap.size, 0, none⟩) 2 2] (W.alloc (.cells #[.int .i64 6, .int .i64 6, .int .i64 0, .int .i64 2, .int .i64 1, .int .i64 0] 26)) (fun e w' => ∃ b5, e = .returned (.tuple #[.pointer (some ⟨b5, 0, none⟩), .int .i64 0]) ∧ Hid (PL w0 w' w'.heap.size (l5 b1 b2 b3 b4 b5 x y (newP uT)))) := by
  refine ((h.upw (Up.alloc _ _)).c10 (tl_tw W ⟨6, 6, 0⟩ ⟨2, 1, 0⟩) (by omega) (may_tw (mayI (by decide) (by decide) (by decide)) (mayI (by decide) (by decide) (by decide)))).mono ?_
  rintro e w' ⟨b1, rfl, k1, k2⟩
  exact ⟨b1, rfl, k1⟩
theorem l_u8 {w0 W : World} {B b1 b2 b3 b4 b5 : Nat} {x y : Pl} (h : PL w0 W B (l5 b1 b2 b3 b4 b5 x y (newP uT))) : Calls Try.prog 18 #[.pointer (some ⟨b5, 0, none⟩), .int .i64 8] W (fun e w' => ∃ v, e = .returned v ∧ Hid (PL w0 w' B (l5 b1 b2 b3 b4 b5 x y u1))) := by
  refine (h.c18 4 rfl (by omega) 8 8 (by omega) (by omega) u_1).mono ?_
  rintro e w' ⟨q, c, rfl, k1, k2, k3⟩
  exact ⟨_, rfl, k2⟩
theorem l_us {w0 W : World} {B b1 b2 b3 b4 b5 : Nat} {x y : Pl} (h : PL w0 W B (l5 b1 b2 b3 b4 b5 x y u1)) : Calls Try.prog 19 #[.pointer (some ⟨b5, 0, none⟩), .int .i64 0, .agg #[.int .i64 1000, .int .i64 1, .int .i64 0]] W (fun e w' => e = .returned (.int .i64 0) ∧ Hid (PL w0 w' w'.heap.size (l5 b1 b2 b3 b4 b5 x y u2))) := by
  obtain ⟨c1, c2, c3, c4⟩ := u_c
  refine (h.c19c 4 rfl (i := 0) (by omega) c1 c2 c3 (by rw [c4]; omega) (e := 1000) (l' := 1) (r := 0) (mayI (by decide) (by decide) (by decide)) (by omega) (A := 12) (by rw [c4]; decide)).mono ?_
  rintro e w' ⟨rfl, k1, k2⟩
  exact ⟨rfl, k1⟩
theorem l_u30 {w0 W : World} {B b1 b2 b3 b4 b5 : Nat} {x y : Pl} (h : PL w0 W B (l5 b1 b2 b3 b4 b5 x y u2)) : Calls Try.prog 18 #[.pointer (some ⟨b5, 0, none⟩), .int .i64 30] W (fun e w' => ∃ q c z, e = .returned (.slice q 15 c) ∧ Hid (SO W.heap.size w' (.slice q 15 c) uD) ∧ Hid (PL w0 w' B (l5 b1 b2 b3 b4 b5 x y z)) ∧ Hid (W.heap.size ≤ w'.heap.size)) := by
  obtain ⟨z, hz⟩ := u_2
  refine (h.c18 4 rfl (by omega) 30 30 (by omega) (by omega) hz).mono ?_
  rintro e w' ⟨q, c, rfl, k1, k2, k3⟩
  exact ⟨q, c, z, rfl, k1, k2, k3.out.size⟩
theorem l_sw {w0 W : World} {B b1 b2 b3 b4 b5 : Nat} {x y z : Pl} (h : PL w0 W B (l5 b1 b2 b3 b4 b5 x y z)) : Calls Try.prog 15 #[.pointer (some ⟨b4, 0, none⟩)] W (fun e w' => e = .returned (.int .i64 1152921504606846971) ∧ w' = W) := h.c15 3 rfl
/-- What is wanted, step by step. -/
theorem want1 {k : Nat} (h : k < 3) : uD1.take k ++ [⟨1, 8 + k, 8 + k + 1, true⟩] = uD1.take (k + 1) := by
  rcases (show k = 0 ∨ k = 1 ∨ k = 2 by omega) with rfl | rfl | rfl <;> rfl
theorem want2 {k : Nat} (h : k < 8) : uD2.take k ++ [⟨1, 17 + k, 17 + k + 1, decide ((17 : Int) + k < 23)⟩] = uD2.take (k + 1) := by
  rcases (show k = 0 ∨ k = 1 ∨ k = 2 ∨ k = 3 ∨ k = 4 ∨ k = 5 ∨ k = 6 ∨ k = 7 by omega) with rfl | rfl | rfl | rfl | rfl | rfl | rfl | rfl <;> rfl
/-- A list under way: W is the world ahead of it. -/
structure WN (W wr : World) (v : Value) (D : List Sl) : Prop where
  so : SO W.heap.size wr v D
  kp : Kp (fun b => b < W.heap.size) W wr
theorem WN.start (W : World) : WN W W (.slice none 0 0) [] := ⟨SO.nil _ _, Kp.refl _ _⟩
theorem WN.size {W wr : World} {v : Value} {D : List Sl} (h : WN W wr v D) : W.heap.size ≤ wr.heap.size := h.kp.size
theorem WN.next {W wr w' : World} {v v' : Value} {D D' : List Sl} (h : WN W wr v D) (o : Obj) (h1 : SO W.heap.size w' v' D') (h2 : (wr.alloc o).grownBy w' v.ownBlock) : WN W w' v' D' := by
  refine ⟨h1, (h.kp.alloc o).two (Kp.grown h2) (fun b hb _ e => ?_)⟩
  have := (World.ownsRow.lt h.so b e.symm).1
  omega
end Go.Proofs.Ytjklaemhfhakhaa
