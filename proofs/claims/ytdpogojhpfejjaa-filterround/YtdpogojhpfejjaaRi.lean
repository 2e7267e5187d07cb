/- What the statements ask first. -/
import Derived.Test.YtdpogojhpfejjaaRh
namespace Go.Proofs.Ytdpogojhpfejjaa
open Go.ChangeShapes Go.WideShapes Go.ChangeAt Go.RowKit Go.Fl Ieee
attribute [local go_sem] run_store_float run_store_c isSome_set call32 call31 run_neg fold_eq fold_ne fold_lt fold_gt abs_eq

def so (p : Nat × Nat) : Option Nat × Option Nat := (some p.1, some p.2)
theorem known_list {d L : List (Nat × Nat)} (h : d.map ab2 = L.map so) : d = L := by
  have hl : d.length = L.length := by simpa using congrArg List.length h
  refine List.ext_getElem hl fun i hi hi' => ?_
  have e := congrArg (fun l => l[i]?) h
  simp only [List.getElem?_map, List.getElem?_eq_getElem hi, List.getElem?_eq_getElem hi', Option.map_some, Option.some.injEq, ab2, so, Prod.mk.injEq] at e
  exact Prod.ext (of_ab e.1) (of_ab e.2)
def okB (c : C2) : Bool := match c with
  | (some x, some y) => ab x == some x && ab y == some y
  | _ => false
theorem okC_of {c : C2} (h : okB c = true) : okC c := by
  obtain ⟨p, q⟩ := c
  unfold okB at h
  split at h
  · rename_i x y e
    injection e with e1 e2
    subst e1 e2
    simp only [Bool.and_eq_true, beq_iff_eq] at h
    exact ⟨x, y, rfl, h⟩
  · cases h
def rvB (B0 B1 B2 A1 A2 : Option Nat) (x s t : C2) : Bool :=
  okB (sclC x B0) && okB (addC (sclC x B0) s) && okB (sclC x B1) && okB (sclC (addC (sclC x B0) s) A1) && okB (subC (sclC x B1) (sclC (addC (sclC x B0) s) A1)) &&
  okB (addC (subC (sclC x B1) (sclC (addC (sclC x B0) s) A1)) t) && okB (sclC x B2) && okB (sclC (addC (sclC x B0) s) A2) && okB (subC (sclC x B2) (sclC (addC (sclC x B0) s) A2))
theorem RV.of {B0 B1 B2 A1 A2 : Option Nat} {x s t : C2} (h : rvB B0 B1 B2 A1 A2 x s t = true) : RV B0 B1 B2 A1 A2 x s t := by
  unfold rvB at h
  simp only [Bool.and_eq_true] at h
  obtain ⟨⟨⟨⟨⟨⟨⟨⟨h1, h2⟩, h3⟩, h4⟩, h5⟩, h6⟩, h7⟩, h8⟩, h9⟩ := h
  exact ⟨okC_of h1, okC_of h2, okC_of h3, okC_of h4, okC_of h5, okC_of h6, okC_of h7, okC_of h8, okC_of h9⟩
def tA : List (Nat × Nat) := [(4607182418800017408, 0), (0, 4611686018427387904)]
def xA : List (Nat × Nat) := [(4607182418800017408, 0), (4607182418800017408, 0)]
def yA : List (Nat × Nat) := [(4607182418800017408, 0), (4607182418800017408, 4611686018427387904)]
def xB : List (Nat × Nat) := [(4607182418800017408, 0), (0, 0)]
def yB : List (Nat × Nat) := [(4607182418800017408, 0), (4602678819172646912, 0)]
theorem line_A : (List.range 2).map (lineF (1 + 1) (fun i => tA[i]!) (fun i => xA[i]!)) = yA.map so := by decide +kernel
theorem ring_B : (List.range 2).map (ringY (ab 4607182418800017408) (ab 0) (ab 0) (ab 13826050856027422720) (ab 0) (fun i => ab2 (xB[i]!))) = yB.map so := by decide +kernel
theorem ring_S : ringS (ab 4607182418800017408) (ab 0) (ab 0) (ab 13826050856027422720) (ab 0) (fun i => ab2 (xB[i]!)) 2 = (so (4598175219545276416, 0), so (0, 0)) := by decide +kernel
theorem ring_V : ∀ i, i < 2 → rvB (ab 4607182418800017408) (ab 0) (ab 0) (ab 13826050856027422720) (ab 0) (ab2 (xB[i]!)) (ringS (ab 4607182418800017408) (ab 0) (ab 0) (ab 13826050856027422720) (ab 0) (fun i => ab2 (xB[i]!)) i).1 (ringS (ab 4607182418800017408) (ab 0) (ab 0) (ab 13826050856027422720) (ab 0) (fun i => ab2 (xB[i]!)) i).2 = true := by decide +kernel
abbrev newA (w : World) : World := w.alloc (.cells #[.complex .f64 4607182418800017408 0, .complex .f64 0 4611686018427387904] 28)
abbrev newX (w : World) : World := w.alloc (.cells #[.complex .f64 4607182418800017408 0, .complex .f64 4607182418800017408 0] 28)
abbrev newB (w : World) : World := w.alloc (.cells #[.complex .f64 4607182418800017408 0, .complex .f64 0 0] 28)
theorem w6a (w : World) : Calls Try.prog 6 #[.slice (some ⟨w.heap.size, 0, none⟩) 2 2] (newA w) (NL (newA w) 1 (fun i => tA[i]!)) := t6 w.heap.size 1 2 _ (newA w) (rd_two w 28 tA rfl rfl) (by omega) (by omega)
theorem quo_ks : bin .quo (ab 4607182418800017408) (ab 4607182418800017408) = some 4607182418800017408 ∧ bin .quo (ab 0) (ab 4607182418800017408) = some 0 ∧ bin .quo (ab 13826050856027422720) (ab 4607182418800017408) = some 13826050856027422720 ∧ eqF (ab 4607182418800017408) (ab 0) = false := by decide +kernel
theorem fine_ks : (eqF (ab 4607182418800017408) (ab 4607182418800017408) = !false ∧ gtF ((ab 4607182418800017408).map abs) (ab 9218868437227405311) = false) ∧ (eqF (ab 0) (ab 0) = !false ∧ gtF ((ab 0).map abs) (ab 9218868437227405311) = false) ∧ (eqF (ab 13826050856027422720) (ab 13826050856027422720) = !false ∧ gtF ((ab 13826050856027422720).map abs) (ab 9218868437227405311) = false) := by decide +kernel
theorem w5a (w : World) : Calls Try.prog 5 #[.agg #[.float .f64 4607182418800017408, .float .f64 0, .float .f64 0], .agg #[.float .f64 4607182418800017408, .float .f64 13826050856027422720, .float .f64 0]] w (NR w 4607182418800017408 0 0 13826050856027422720 0) :=
  t5 fine_ks.1 fine_ks.2.1 fine_ks.2.1 fine_ks.1 fine_ks.2.2 fine_ks.2.1 quo_ks.2.2.2 quo_ks.1 quo_ks.2.1 quo_ks.2.1 quo_ks.2.2.1 quo_ks.2.1 w
theorem w8a {b0 : Nat} {w : World} {b gt ct gp : Nat} (h : Hid (LN b0 w b gt ct gp 1 (fun i => tA[i]!))) : Calls Try.prog 8 #[.pointer (some ⟨b, 0, none⟩), .slice (some ⟨w.heap.size, 0, none⟩) 2 2] (newX w) fun e w' => ∃ g w1, e = .returned (.slice (some ⟨g, 0, none⟩) 2 2) ∧ Hid (CRow (newX w).heap.size w' (.slice (some ⟨g, 0, none⟩) 2 2) yA) ∧ Hid (But gp (newX w) w1 ∧ But b w1 w') := by
  refine (t8 (h.out.up (Up.alloc _ _)) w.heap.size 2 2 (fun i => xA[i]!) (rd_two w 28 xA rfl rfl) (by omega) (by omega) (by omega) (by omega)).mono ?_
  rintro e w' ⟨g, d, w1, rfl, h1, h2, h3⟩
  obtain rfl := known_list (h2.out.trans line_A)
  exact ⟨g, w1, rfl, h1, h3⟩
theorem w7a {b0 : Nat} {w : World} {b : Nat} (h : Hid (RG b0 w b 4607182418800017408 0 0 13826050856027422720 0 0 0 0 0)) : Calls Try.prog 7 #[.pointer (some ⟨b, 0, none⟩), .slice (some ⟨w.heap.size, 0, none⟩) 2 2] (newB w) fun e w' => ∃ g, e = .returned (.slice (some ⟨g, 0, none⟩) 2 2) ∧ Hid (CRow (newB w).heap.size w' (.slice (some ⟨g, 0, none⟩) 2 2) yB) ∧ Hid (But b (newB w) w') ∧ Hid (RG b0 w' b 4607182418800017408 0 0 13826050856027422720 0 4598175219545276416 0 0 0) := by
  have lb : b < w.heap.size := World.block_lt_of_cell? w _ h.out.k0
  refine (t7 (h.out.up (Up.alloc _ _)) w.heap.size 2 2 (fun i => xB[i]!) (rd_two w 28 xB rfl rfl) (by omega) (by omega) (fun i hi => RV.of (ring_V i hi))).mono ?_
  rintro e w' ⟨g, d, sx, sy, tx, ty, rfl, h1, h2, h3, h4, h5⟩
  obtain rfl := known_list (h2.out.trans ring_B)
  have e5 := h5.out.symm.trans ring_S
  simp only [ab2, so, Prod.mk.injEq] at e5
  obtain ⟨⟨q1, q2⟩, q3, q4⟩ := e5
  obtain rfl := of_ab q1
  obtain rfl := of_ab q2
  obtain rfl := of_ab q3
  obtain rfl := of_ab q4
  exact ⟨g, rfl, h1, h3, h4⟩
theorem row_cell {b g n cap : Nat} {w : World} {d : List (Nat × Nat)} (h : CRow b w (.slice (some ⟨g, 0, none⟩) n cap) d) {i x y : Nat} (hi : i < d.length) (hd : d[i]! = (x, y)) : w.cell? ⟨g, i, none⟩ = some (.complex .f64 x y) := by
  have := h.cell hi
  rw [hd] at this; exact this
theorem ring_past {b0 b1 : Nat} {w1 w2 w3 w3' : World} {b gt ct gp br B0 B1 B2 A1 A2 sx sy tx ty : Nat} {f : Nat → Nat × Nat} {R : Nat} (hl : Hid (LN b0 w1 b gt ct gp R f)) (h : Hid (RG b1 w2 br B0 B1 B2 A1 A2 sx sy tx ty)) (hb1 : w1.heap.size ≤ b1) (hB : Hid (But gp (newX w2) w3' ∧ But b w3' w3)) : RG b1 w3 br B0 B1 B2 A1 A2 sx sy tx ty := by
  have l1 : b < w1.heap.size := World.block_lt_of_cell? w1 _ hl.out.c0
  have l2 : gp < w1.heap.size := (World.ownsRow.lt hl.out.room _ rfl).2
  have l3 := h.out.lo
  exact ((h.out.up (Up.alloc _ _)).but hB.out.1 (by omega)).but hB.out.2 (by omega)
def TU (w : World) (e : Ending) (w' : World) : Prop := e = .returned (.bool true) ∧ Hid (Up w w')
theorem t10a (w : World) : Calls Try.prog 10 #[.slice (some ⟨w.heap.size, 0, none⟩) 2 2, .int .i64 0, .int .i64 2] (newX w) fun e w' => e = .returned (.complex .f64 4611686018427387904 0) ∧ Hid (Up w w') :=
  (t10 (rd_two w 28 [(4607182418800017408, 0), (4607182418800017408, 0)] rfl rfl)).mono fun _ _ ⟨h1, h2⟩ => ⟨h1, (Up.alloc _ _).trans h2.out⟩
theorem t10b (w : World) (o : Obj) : Calls Try.prog 10 #[.slice (some ⟨w.heap.size + 1, 0, none⟩) 2 2, .int .i64 0, .int .i64 2] (newX (w.alloc o)) fun e w' => e = .returned (.complex .f64 4611686018427387904 0) ∧ Hid (Up w w') := by
  have e : w.heap.size + 1 = (w.alloc o).heap.size := by simp
  rw [e]
  exact (t10a (w.alloc o)).mono fun _ _ ⟨h1, h2⟩ => ⟨h1, (Up.alloc _ _).trans h2.out⟩
theorem wake_facts {w w1 w2 w3 w3' w4 w5 : World} {b gt ct gp br g3 g4 B0 B1 B2 A1 A2 : Nat} {f : Nat → Nat × Nat} (l1 : Hid (LN (newA w).heap.size w1 b gt ct gp 1 f)) (u1 : Hid (Up (newA w) w1)) (r2 : Hid (RG w1.heap.size w2 br B0 B1 B2 A1 A2 0 0 0 0)) (u2 : Hid (Up w1 w2))
    (c3 : Hid (CRow (newX w2).heap.size w3 (.slice (some ⟨g3, 0, none⟩) 2 2) yA)) (b3 : Hid (But gp (newX w2) w3' ∧ But b w3' w3)) (c4 : Hid (CRow (newB w3).heap.size w4 (.slice (some ⟨g4, 0, none⟩) 2 2) yB)) (b4 : Hid (But br (newB w3) w4)) (u5 : Hid (Up w4 w5)) (o : Obj) :
    Hid (Up w w5) ∧ (w5.alloc o).cell? ⟨g3, 0, none⟩ = some (.complex .f64 4607182418800017408 0) ∧ (w5.alloc o).cell? ⟨g3, 1, none⟩ = some (.complex .f64 4607182418800017408 4611686018427387904) ∧ (w5.alloc o).cell? ⟨g4, 0, none⟩ = some (.complex .f64 4607182418800017408 0) ∧ (w5.alloc o).cell? ⟨g4, 1, none⟩ = some (.complex .f64 4602678819172646912 0) := by
  have v1 : Up w w2 := ((Up.alloc _ _).trans u1.out).trans u2.out
  have m1 := l1.out.lo
  have m2 := r2.out.lo
  have m3 : br < w2.heap.size := World.block_lt_of_cell? w2 _ r2.out.k0
  have m4 := u1.out.size
  have m5 : (newA w).heap.size = w.heap.size + 1 := by simp
  have m6 : (newX w2).heap.size = w2.heap.size + 1 := by simp
  have v3 : Up w w3 := b3.out.2.up (b3.out.1.up (v1.trans (Up.alloc _ _)) (by omega)) (by omega)
  have v5 : Up w w5 := (b4.out.up (v3.trans (Up.alloc _ _)) (by omega)).trans u5.out
  have g3n : g3 ≠ br := by have h : (newX w2).heap.size ≤ g3 := (World.ownsRow.lt c3.out _ rfl).1; omega
  have d3 : CRow _ w5 (.slice (some ⟨g3, 0, none⟩) 2 2) yA := ((c3.out.up (Up.alloc _ _)).far b4.out g3n).up u5.out
  have d4 : CRow _ w5 (.slice (some ⟨g4, 0, none⟩) 2 2) yB := c4.out.up u5.out
  exact ⟨v5, cell_up (row_cell d3 (i := 0) (by decide) rfl) (Up.alloc _ _), cell_up (row_cell d3 (i := 1) (by decide) rfl) (Up.alloc _ _), cell_up (row_cell d4 (i := 0) (by decide) rfl) (Up.alloc _ _), cell_up (row_cell d4 (i := 1) (by decide) rfl) (Up.alloc _ _)⟩
set_option maxRecDepth 100000 in
set_option maxHeartbeats 4000000 in
theorem t4 (w : World) : Calls Try.prog 4 #[] w (TU w) := by
  have q1 : eqF (ab 4607182418800017408) (ab 4607182418800017408) = true := by decide +kernel
  have q2 : eqF (ab 0) (ab 0) = true := by decide +kernel
  have q3 : eqF (ab 4611686018427387904) (ab 4611686018427387904) = true := by decide +kernel
  have q4 : eqF (ab 4602678819172646912) (ab 4602678819172646912) = true := by decide +kernel
  have q5 : eqF (ab 4598175219545276416) (ab 4598175219545276416) = true := by decide +kernel
  go_enter Try.func4, Try.ntmps4
  go_wp2_with (first
    | (go_at_call 6; (with_reducible refine (w6a _).mono ?_); rintro e w1 ⟨b, gt, ct, gp, rfl, l1, u1⟩)
    | (go_at_call 5; (with_reducible refine (w5a _).mono ?_); rintro e w2 ⟨br, rfl, r2, u2⟩; have l2 : Hid (LN _ w2 b gt ct gp 1 (fun i => tA[i]!)) := l1.out.up u2.out)
    | (go_at_call 8; (with_reducible refine (w8a l2).mono ?_); rintro e w3 ⟨g3, w3', rfl, c3, b3⟩; have r3 : Hid (RG _ w3 br _ _ _ _ _ 0 0 0 0) := ring_past l1 r2 (Nat.le_refl _) b3)
    | (go_at_call 7; (with_reducible refine (w7a r3).mono ?_); rintro e w4 ⟨g4, rfl, c4, b4, r4⟩)
    | (go_at_call 9; (with_reducible refine (t9 r4.out).mono ?_); rintro e w5 ⟨rfl, u5⟩
       obtain ⟨v5, x0, x1, y0, y1⟩ := wake_facts l1 u1 r2 u2 c3 b3 c4 b4 u5 (.cells #[.complex .f64 4598175219545276416 0, .complex .f64 0 0] 39)
       clear l1 u1 r2 u2 l2 c3 b3 r3 c4 b4 r4 u5)
    | (go_at_call 10; (with_reducible refine (t10b _ _).mono ?_); rintro e w6 ⟨rfl, u6⟩))
  go_ret
  exact ⟨rfl, v5.out.trans u6.out⟩
end Go.Proofs.Ytdpogojhpfejjaa
