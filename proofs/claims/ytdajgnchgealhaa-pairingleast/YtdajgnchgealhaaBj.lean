/- Tables; newSquare. -/
import Derived.Test.YtdajgnchgealhaaBi
import Derived.Deep.OwnRows
import Derived.Deep.CutRange
import Derived.Deep.Cut
namespace Go.Proofs.Ytdajgnchgealhaa
open Go.ChangeShapes Go.WideShapes Go.ChangeAt Go.RowKit
attribute [local go_sem] isSome_set

/-- A slice that can be read as a row of numbers. -/
def IRo (w : World) (p : Option Addr) (n : Nat) (f : Nat → Int) : Prop := ∀ i, i < n → ∃ b o, p = some ⟨b, o, none⟩ ∧ w.cell? ⟨b, o + i, none⟩ = some (.int .i64 (f i))
theorem IRo.up {w w' : World} {p : Option Addr} {n : Nat} {f : Nat → Int} (h : IRo w p n f) (hu : Up w w') : IRo w' p n f := fun i hi => by
  obtain ⟨b, o, e, k⟩ := h i hi
  exact ⟨b, o, e, cell_up k hu⟩
/-- A slice that can be read as a table: so many rows, each row's length, its costs. -/
def TV (w : World) (p : Option Addr) (N : Nat) (R : Nat → Nat) (T : Nat → Nat → Int) : Prop := ∀ i, i < N → ∃ b o q cap, p = some ⟨b, o, none⟩ ∧ w.cell? ⟨b, o + i, none⟩ = some (.slice q (R i) cap) ∧ IRo w q (R i) (T i)
theorem TV.up {w w' : World} {p : Option Addr} {N : Nat} {R : Nat → Nat} {T : Nat → Nat → Int} (h : TV w p N R T) (hu : Up w w') : TV w' p N R T := fun i hi => by
  obtain ⟨b, o, q, cap, e, k, l⟩ := h i hi
  exact ⟨b, o, q, cap, e, cell_up k hu, l.up hu⟩
theorem info2 : (Try.prog.info? 2).map (fun i => (i.zero, i.size, i.bytes)) = some (some (.int .i64 0), 1, 8) := by kernel_rfl
theorem info3' : (Try.prog.info? 3).map (fun i => (i.zero, i.size, i.bytes)) = some (some (.int .i64 0), 1, 8) := by kernel_rfl
theorem info43 : (Try.prog.info? 43).map (fun i => (i.zero, i.size, i.bytes)) = some (some (.slice none 0 0), 1, 24) := by kernel_rfl
theorem make43 (n : Nat) (hn : n ≤ 1000000) (w : World) : (Instr.makeSlice 43 (.int .i64 n) (.int .i64 n)).run Try.prog w = .ok (.slice (some ⟨w.heap.size, 0, none⟩) n n) (w.alloc (.cells (madeCells #[.int .i64 0] n) 2)) :=
  run_make_row' 43 2 (.int .i64 0) 8 (by kernel_rfl) info2 rfl .i64 .i64 n (by omega) (by omega) w
theorem make23 (n : Nat) (hn : n ≤ 1000000) (w : World) : (Instr.makeSlice 23 (.int .i64 n) (.int .i64 n)).run Try.prog w = .ok (.slice (some ⟨w.heap.size, 0, none⟩) n n) (w.alloc (.cells (madeCells #[.int .i64 0] n) 3)) :=
  run_make_row' 23 3 (.int .i64 0) 8 (by kernel_rfl) info3' rfl .i64 .i64 n (by omega) (by omega) w
theorem make22 (n : Nat) (hn : n ≤ 1000000) (w : World) : (Instr.makeSlice 22 (.int .i64 n) (.int .i64 n)).run Try.prog w = .ok (.slice (some ⟨w.heap.size, 0, none⟩) n n) (w.alloc (.cells (madeCells #[.slice none 0 0] n) 43)) :=
  run_make_row' 22 43 (.slice none 0 0) 24 (by kernel_rfl) info43 rfl .i64 .i64 n (by omega) (by omega) w
/-- A table that may be. -/
structure Good (N : Nat) (R : Nat → Nat) (T : Nat → Nat → Int) : Prop where
  n : N ≤ 256
  r : ∀ i, i < N → R i ≤ 256 ∧ R i = R 0
  t : ∀ i j, i < N → j < R i → T i j ≤ 1099511627776
/-- How great the square is. -/
def side (N : Nat) (R : Nat → Nat) : Nat := if 0 < N then max N (R 0) else 0
/-- While newSquare lays its rows: k of them are there. -/
structure SR (w : World) (L : Lay) (n k H : Nat) (s : Sq) : Prop where
  s0 : w.cell? ⟨L.bs, 0, none⟩ = some (.slice (some ⟨L.bt, 0, none⟩) n n)
  s1 : w.cell? ⟨L.bs, 1, none⟩ = some (.slice (some ⟨L.bc, L.ou, none⟩) n n)
  s2 : w.cell? ⟨L.bs, 2, none⟩ = some (.slice (some ⟨L.bc, L.ov, none⟩) n n)
  s3 : w.cell? ⟨L.bs, 3, none⟩ = some (.slice (some ⟨L.bp, L.om, none⟩) n n)
  s4 : w.cell? ⟨L.bs, 4, none⟩ = some (.slice (some ⟨L.bp, L.oo, none⟩) n n)
  s5 : w.cell? ⟨L.bs, 5, none⟩ = some (.slice (some ⟨L.bp, L.od, none⟩) n n)
  s6 : w.cell? ⟨L.bs, 6, none⟩ = some (.slice (some ⟨L.bc, L.oq, none⟩) n n)
  s7 : w.cell? ⟨L.bs, 7, none⟩ = some (.slice (some ⟨L.bp, L.of, none⟩) n n)
  s8 : w.cell? ⟨L.bs, 8, none⟩ = some (.slice (some ⟨L.bp, L.orr, none⟩) n n)
  cb : ∀ i, i < n → (w.cell? ⟨L.bt, i, none⟩).isSome = true
  ct : ∀ i, i < k → w.cell? ⟨L.bt, i, none⟩ = some (.slice (some ⟨H + i, 0, none⟩) n n)
  cc : ∀ i j, i < k → j < n → w.cell? ⟨H + i, j, none⟩ = some (.int .i64 (s.c i j))
  cu : ∀ i, i < n → w.cell? ⟨L.bc, L.ou + i, none⟩ = some (.int .i64 (s.u i))
  cv : ∀ i, i < n → w.cell? ⟨L.bc, L.ov + i, none⟩ = some (.int .i64 (s.v i))
  cq : ∀ i, i < n → w.cell? ⟨L.bc, L.oq + i, none⟩ = some (.int .i64 (s.q i))
  cm : ∀ i, i < n → w.cell? ⟨L.bp, L.om + i, none⟩ = some (.int .i64 (s.m i))
  co : ∀ i, i < n → w.cell? ⟨L.bp, L.oo + i, none⟩ = some (.int .i64 (s.o i))
  cd : ∀ i, i < n → w.cell? ⟨L.bp, L.od + i, none⟩ = some (.int .i64 (s.d i))
  cf : ∀ i, i < n → w.cell? ⟨L.bp, L.of + i, none⟩ = some (.int .i64 (s.f i))
  cr : ∀ i, i < n → w.cell? ⟨L.bp, L.orr + i, none⟩ = some (.int .i64 (s.r i))
  fc : ∀ k, w.frozen? ⟨L.bc, k, none⟩ = false
  fp : ∀ k, w.frozen? ⟨L.bp, k, none⟩ = false
  ft : ∀ k, w.frozen? ⟨L.bt, k, none⟩ = false
  fr : ∀ i j, i < k → w.frozen? ⟨H + i, j, none⟩ = false
  sz : w.heap.size = H + k
  lt : L.bs < H ∧ L.bt < H ∧ L.bc < H ∧ L.bp < H
  br : L.br = fun i => H + i
/-- Its parts lie apart. -/
structure LA (L : Lay) (b n : Nat) : Prop where
  st : b ≤ L.bs ∧ b ≤ L.bt ∧ b ≤ L.bc ∧ b ≤ L.bp
  ap : L.bs ≠ L.bt ∧ L.bs ≠ L.bc ∧ L.bs ≠ L.bp ∧ L.bt ≠ L.bc ∧ L.bt ≠ L.bp ∧ L.bc ≠ L.bp
  o1 : L.ou = 0 ∧ L.ov = n ∧ L.oq = 2 * n
  o2 : L.om = 0 ∧ L.oo = n ∧ L.od = 2 * n ∧ L.of = 3 * n ∧ L.orr = 4 * n
theorem SR.drewN {w : World} {L : Lay} {n k H : Nat} {s : Sq} (h : SR w L n k H s) (q : Nat) : SR (w.drewN q) L n k H s := ⟨h.s0, h.s1, h.s2, h.s3, h.s4, h.s5, h.s6, h.s7, h.s8, h.cb, h.ct, h.cc, h.cu, h.cv, h.cq, h.cm, h.co, h.cd, h.cf, h.cr, h.fc, h.fp, h.ft, h.fr, h.sz, h.lt, h.br⟩
theorem SR.done {w : World} {L : Lay} {b n H : Nat} {s : Sq} (h : SR w L n n H s) (hL : LA L b n) : SQ w L n s ∧ L.Ok b n := by
  have e := h.br
  obtain ⟨l1, l2, l3, l4⟩ := h.lt
  have := hL.st
  refine ⟨⟨h.s0, h.s1, h.s2, h.s3, h.s4, h.s5, h.s6, h.s7, h.s8, fun i hi => by rw [e]; exact h.ct i hi, fun i j hi hj => by rw [e]; exact h.cc i j hi hj, h.cu, h.cv, h.cq, h.cm, h.co, h.cd, h.cf, h.cr, h.fc, h.fp⟩, hL.st, hL.ap, fun i hi => ?_, hL.o1, hL.o2⟩
  rw [e]
  show b ≤ H + i ∧ H + i ≠ L.bs ∧ H + i ≠ L.bt ∧ H + i ≠ L.bc ∧ H + i ≠ L.bp
  omega
theorem isSome_other {w : World} {a a' : Addr} {y : Value} (h : (w.cell? a).isSome = true) : ((w.setCell a' y).cell? a).isSome = true := isSome_set h
theorem SR.setm {w : World} {L : Lay} {b n k H : Nat} {s : Sq} (h : SR w L n k H s) (hL : LA L b n) {j : Nat} (hj : j < n) (x : Int) : SR (w.setCell ⟨L.bp, L.om + j, none⟩ (.int .i64 x)) L n k H { s with m := upd s.m j x } := by
  obtain ⟨a1, a2, a3, a4, a5, a6⟩ := hL.ap
  obtain ⟨e1, e2, e3⟩ := hL.o1
  obtain ⟨e4, e5, e6, e7, e8⟩ := hL.o2
  obtain ⟨l1, l2, l3, l4⟩ := h.lt
  refine ⟨cell_other h.s0 (Or.inl a3), cell_other h.s1 (Or.inl a3), cell_other h.s2 (Or.inl a3), cell_other h.s3 (Or.inl a3), cell_other h.s4 (Or.inl a3), cell_other h.s5 (Or.inl a3), cell_other h.s6 (Or.inl a3), cell_other h.s7 (Or.inl a3), cell_other h.s8 (Or.inl a3), fun i hi => isSome_other (h.cb i hi), fun i hi => cell_other (h.ct i hi) (Or.inl a5), fun i k hi hk => cell_other (h.cc i k hi hk) (Or.inl (by show H + i ≠ L.bp; omega)), fun i hi => cell_other (h.cu i hi) (Or.inl a6), fun i hi => cell_other (h.cv i hi) (Or.inl a6), fun i hi => cell_other (h.cq i hi) (Or.inl a6), fun i hi => ?_, fun i hi => cell_other (h.co i hi) (Or.inr (by show L.oo + i ≠ L.om + j; omega)), fun i hi => cell_other (h.cd i hi) (Or.inr (by show L.od + i ≠ L.om + j; omega)), fun i hi => cell_other (h.cf i hi) (Or.inr (by show L.of + i ≠ L.om + j; omega)), fun i hi => cell_other (h.cr i hi) (Or.inr (by show L.orr + i ≠ L.om + j; omega)), fun k => by rw [World.frozen?_setCell]; exact h.fc k, fun k => by rw [World.frozen?_setCell]; exact h.fp k, fun k => by rw [World.frozen?_setCell]; exact h.ft k, fun i k hi => by rw [World.frozen?_setCell]; exact h.fr i k hi, by rw [World.size_setCell]; exact h.sz, h.lt, h.br⟩
  by_cases e : i = j
  · subst e
    rw [World.cell?_setCell_same _ _ _ (h.cm i hi)]
    show _ = some (Value.int .i64 (upd s.m i x i))
    rw [upd_at]
  · show _ = some (Value.int .i64 (upd s.m j x i))
    rw [upd_ne _ _ e]
    exact cell_other (h.cm i hi) (Or.inr (by show L.om + i ≠ L.om + j; omega))
theorem SR.seto {w : World} {L : Lay} {b n k H : Nat} {s : Sq} (h : SR w L n k H s) (hL : LA L b n) {j : Nat} (hj : j < n) (x : Int) : SR (w.setCell ⟨L.bp, L.oo + j, none⟩ (.int .i64 x)) L n k H { s with o := upd s.o j x } := by
  obtain ⟨a1, a2, a3, a4, a5, a6⟩ := hL.ap
  obtain ⟨e1, e2, e3⟩ := hL.o1
  obtain ⟨e4, e5, e6, e7, e8⟩ := hL.o2
  obtain ⟨l1, l2, l3, l4⟩ := h.lt
  refine ⟨cell_other h.s0 (Or.inl a3), cell_other h.s1 (Or.inl a3), cell_other h.s2 (Or.inl a3), cell_other h.s3 (Or.inl a3), cell_other h.s4 (Or.inl a3), cell_other h.s5 (Or.inl a3), cell_other h.s6 (Or.inl a3), cell_other h.s7 (Or.inl a3), cell_other h.s8 (Or.inl a3), fun i hi => isSome_other (h.cb i hi), fun i hi => cell_other (h.ct i hi) (Or.inl a5), fun i k hi hk => cell_other (h.cc i k hi hk) (Or.inl (by show H + i ≠ L.bp; omega)), fun i hi => cell_other (h.cu i hi) (Or.inl a6), fun i hi => cell_other (h.cv i hi) (Or.inl a6), fun i hi => cell_other (h.cq i hi) (Or.inl a6), fun i hi => cell_other (h.cm i hi) (Or.inr (by show L.om + i ≠ L.oo + j; omega)), fun i hi => ?_, fun i hi => cell_other (h.cd i hi) (Or.inr (by show L.od + i ≠ L.oo + j; omega)), fun i hi => cell_other (h.cf i hi) (Or.inr (by show L.of + i ≠ L.oo + j; omega)), fun i hi => cell_other (h.cr i hi) (Or.inr (by show L.orr + i ≠ L.oo + j; omega)), fun k => by rw [World.frozen?_setCell]; exact h.fc k, fun k => by rw [World.frozen?_setCell]; exact h.fp k, fun k => by rw [World.frozen?_setCell]; exact h.ft k, fun i k hi => by rw [World.frozen?_setCell]; exact h.fr i k hi, by rw [World.size_setCell]; exact h.sz, h.lt, h.br⟩
  by_cases e : i = j
  · subst e
    rw [World.cell?_setCell_same _ _ _ (h.co i hi)]
    show _ = some (Value.int .i64 (upd s.o i x i))
    rw [upd_at]
  · show _ = some (Value.int .i64 (upd s.o j x i))
    rw [upd_ne _ _ e]
    exact cell_other (h.co i hi) (Or.inr (by show L.oo + i ≠ L.oo + j; omega))
theorem SR.setd {w : World} {L : Lay} {b n k H : Nat} {s : Sq} (h : SR w L n k H s) (hL : LA L b n) {j : Nat} (hj : j < n) (x : Int) : SR (w.setCell ⟨L.bp, L.od + j, none⟩ (.int .i64 x)) L n k H { s with d := upd s.d j x } := by
  obtain ⟨a1, a2, a3, a4, a5, a6⟩ := hL.ap
  obtain ⟨e1, e2, e3⟩ := hL.o1
  obtain ⟨e4, e5, e6, e7, e8⟩ := hL.o2
  obtain ⟨l1, l2, l3, l4⟩ := h.lt
  refine ⟨cell_other h.s0 (Or.inl a3), cell_other h.s1 (Or.inl a3), cell_other h.s2 (Or.inl a3), cell_other h.s3 (Or.inl a3), cell_other h.s4 (Or.inl a3), cell_other h.s5 (Or.inl a3), cell_other h.s6 (Or.inl a3), cell_other h.s7 (Or.inl a3), cell_other h.s8 (Or.inl a3), fun i hi => isSome_other (h.cb i hi), fun i hi => cell_other (h.ct i hi) (Or.inl a5), fun i k hi hk => cell_other (h.cc i k hi hk) (Or.inl (by show H + i ≠ L.bp; omega)), fun i hi => cell_other (h.cu i hi) (Or.inl a6), fun i hi => cell_other (h.cv i hi) (Or.inl a6), fun i hi => cell_other (h.cq i hi) (Or.inl a6), fun i hi => cell_other (h.cm i hi) (Or.inr (by show L.om + i ≠ L.od + j; omega)), fun i hi => cell_other (h.co i hi) (Or.inr (by show L.oo + i ≠ L.od + j; omega)), fun i hi => ?_, fun i hi => cell_other (h.cf i hi) (Or.inr (by show L.of + i ≠ L.od + j; omega)), fun i hi => cell_other (h.cr i hi) (Or.inr (by show L.orr + i ≠ L.od + j; omega)), fun k => by rw [World.frozen?_setCell]; exact h.fc k, fun k => by rw [World.frozen?_setCell]; exact h.fp k, fun k => by rw [World.frozen?_setCell]; exact h.ft k, fun i k hi => by rw [World.frozen?_setCell]; exact h.fr i k hi, by rw [World.size_setCell]; exact h.sz, h.lt, h.br⟩
  by_cases e : i = j
  · subst e
    rw [World.cell?_setCell_same _ _ _ (h.cd i hi)]
    show _ = some (Value.int .i64 (upd s.d i x i))
    rw [upd_at]
  · show _ = some (Value.int .i64 (upd s.d j x i))
    rw [upd_ne _ _ e]
    exact cell_other (h.cd i hi) (Or.inr (by show L.od + i ≠ L.od + j; omega))
/-- A table that is another one at a place. -/
def upd2 (f : Nat → Nat → Int) (a : Nat) (k : Nat) (x : Int) : Nat → Nat → Int := fun i => if i = a then upd (f i) k x else f i
theorem SR.setc {w : World} {L : Lay} {n k H : Nat} {s : Sq} (h : SR w L n k H s) {i0 j : Nat} (hi0 : i0 < k) (hj : j < n) (x : Int) : SR (w.setCell ⟨H + i0, j, none⟩ (.int .i64 x)) L n k H { s with c := upd2 s.c i0 j x } := by
  obtain ⟨l1, l2, l3, l4⟩ := h.lt
  refine ⟨cell_other h.s0 (Or.inl (by show L.bs ≠ H + i0; omega)), cell_other h.s1 (Or.inl (by show L.bs ≠ H + i0; omega)), cell_other h.s2 (Or.inl (by show L.bs ≠ H + i0; omega)), cell_other h.s3 (Or.inl (by show L.bs ≠ H + i0; omega)), cell_other h.s4 (Or.inl (by show L.bs ≠ H + i0; omega)), cell_other h.s5 (Or.inl (by show L.bs ≠ H + i0; omega)), cell_other h.s6 (Or.inl (by show L.bs ≠ H + i0; omega)), cell_other h.s7 (Or.inl (by show L.bs ≠ H + i0; omega)), cell_other h.s8 (Or.inl (by show L.bs ≠ H + i0; omega)), fun i hi => isSome_other (h.cb i hi), fun i hi => cell_other (h.ct i hi) (Or.inl (by show L.bt ≠ H + i0; omega)), fun i k hi hk => ?_, fun i hi => cell_other (h.cu i hi) (Or.inl (by show L.bc ≠ H + i0; omega)), fun i hi => cell_other (h.cv i hi) (Or.inl (by show L.bc ≠ H + i0; omega)), fun i hi => cell_other (h.cq i hi) (Or.inl (by show L.bc ≠ H + i0; omega)), fun i hi => cell_other (h.cm i hi) (Or.inl (by show L.bp ≠ H + i0; omega)), fun i hi => cell_other (h.co i hi) (Or.inl (by show L.bp ≠ H + i0; omega)), fun i hi => cell_other (h.cd i hi) (Or.inl (by show L.bp ≠ H + i0; omega)), fun i hi => cell_other (h.cf i hi) (Or.inl (by show L.bp ≠ H + i0; omega)), fun i hi => cell_other (h.cr i hi) (Or.inl (by show L.bp ≠ H + i0; omega)), fun k => by rw [World.frozen?_setCell]; exact h.fc k, fun k => by rw [World.frozen?_setCell]; exact h.fp k, fun k => by rw [World.frozen?_setCell]; exact h.ft k, fun i k hi => by rw [World.frozen?_setCell]; exact h.fr i k hi, by rw [World.size_setCell]; exact h.sz, h.lt, h.br⟩
  show _ = some (Value.int .i64 (upd2 s.c i0 j x i k))
  unfold upd2
  by_cases e : i = i0
  · subst e
    rw [if_pos rfl]
    by_cases e2 : k = j
    · subst e2
      rw [World.cell?_setCell_same _ _ _ (h.cc i k hi hk), upd_at]
    · rw [upd_ne _ _ e2]
      exact cell_other (h.cc i k hi hk) (Or.inr e2)
  · rw [if_neg e]
    exact cell_other (h.cc i k hi hk) (Or.inl (by show H + i ≠ H + i0; omega))
theorem made_at (z : Value) {n i : Nat} (hi : i < n) : (madeCells #[z] n)[i]? = some z := by
  rw [← Array.getElem?_toList, toList_madeCells_one, List.getElem?_replicate, if_pos hi]
theorem SR.row {w : World} {L : Lay} {b n k H : Nat} {s : Sq} (h : SR w L n k H s) (hL : LA L b n) (hk : k < n) : SR ((w.alloc (.cells (madeCells #[.int .i64 0] n) 2)).setCell ⟨L.bt, k, none⟩ (.slice (some ⟨H + k, 0, none⟩) n n)) L n (k + 1) H { s with c := fun i => if i = k then fun _ => 0 else s.c i } := by
  obtain ⟨l1, l2, l3, l4⟩ := h.lt
  obtain ⟨a1, a2, a3, a4, a5, a6⟩ := hL.ap
  have hu : Up w (w.alloc (.cells (madeCells #[.int .i64 0] n) 2)) := Up.alloc _ _
  have hsz := h.sz
  have hfz : ∀ g j, g < w.heap.size → w.frozen? ⟨g, j, none⟩ = false → (w.alloc (.cells (madeCells #[.int .i64 0] n) 2)).frozen? ⟨g, j, none⟩ = false := fun g j hg hf => (World.frozen?_of_block (hu.block g hg)).trans hf
  refine ⟨cell_other (cell_up h.s0 hu) (Or.inl a1), cell_other (cell_up h.s1 hu) (Or.inl a1), cell_other (cell_up h.s2 hu) (Or.inl a1), cell_other (cell_up h.s3 hu) (Or.inl a1), cell_other (cell_up h.s4 hu) (Or.inl a1), cell_other (cell_up h.s5 hu) (Or.inl a1), cell_other (cell_up h.s6 hu) (Or.inl a1), cell_other (cell_up h.s7 hu) (Or.inl a1), cell_other (cell_up h.s8 hu) (Or.inl a1), fun i hi => isSome_other (by obtain ⟨v, hv⟩ := Option.isSome_iff_exists.1 (h.cb i hi); rw [cell_up hv hu]; rfl), fun i hi => ?_, fun i j hi hj => ?_, fun i hi => cell_other (cell_up (h.cu i hi) hu) (Or.inl a4.symm), fun i hi => cell_other (cell_up (h.cv i hi) hu) (Or.inl a4.symm), fun i hi => cell_other (cell_up (h.cq i hi) hu) (Or.inl a4.symm), fun i hi => cell_other (cell_up (h.cm i hi) hu) (Or.inl a5.symm), fun i hi => cell_other (cell_up (h.co i hi) hu) (Or.inl a5.symm), fun i hi => cell_other (cell_up (h.cd i hi) hu) (Or.inl a5.symm), fun i hi => cell_other (cell_up (h.cf i hi) hu) (Or.inl a5.symm), fun i hi => cell_other (cell_up (h.cr i hi) hu) (Or.inl a5.symm), fun k => by rw [World.frozen?_setCell]; exact hfz _ _ (by omega) (h.fc k), fun k => by rw [World.frozen?_setCell]; exact hfz _ _ (by omega) (h.fp k), fun k => by rw [World.frozen?_setCell]; exact hfz _ _ (by omega) (h.ft k), fun i j hi => ?_, by rw [World.size_setCell]; simp; omega, h.lt, h.br⟩
  · by_cases e : i = k
    · subst e
      obtain ⟨v, hv⟩ := Option.isSome_iff_exists.1 (h.cb i hk)
      rw [World.cell?_setCell_same _ _ _ (cell_up hv hu)]
    · exact cell_other (cell_up (h.ct i (by omega)) hu) (Or.inr e)
  · show _ = some (Value.int .i64 ((if i = k then fun _ => 0 else s.c i) j))
    refine cell_other ?_ (Or.inl (by show H + i ≠ L.bt; omega))
    by_cases e : i = k
    · subst e
      rw [if_pos rfl, World.cell?_alloc_at _ _ _ _ hsz.symm]
      exact made_at _ hj
    · rw [if_neg e]
      exact cell_up (h.cc i j (by omega) hj) hu
  · rw [World.frozen?_setCell]
    by_cases e : i = k
    · subst e
      exact World.frozen?_alloc_at _ _ _ _ hsz.symm
    · exact hfz _ _ (by omega) (h.fr i j (by omega))
/-- What newSquare knows of the rows up to k. -/
structure NV (n k : Nat) (C : Nat → Nat → Int) (s : Sq) : Prop where
  row : ∀ i, i < k → s.m i = -1 ∧ s.o i = -1 ∧ s.d i = i ∧ ∀ l, l < n → s.c i l = C i l
  uv : ∀ i, i < n → s.u i = 0 ∧ s.v i = 0
/-- Two rows of noughts that were made. -/
structure NB (w wx : World) (bc bp K3 K5 : Nat) : Prop where
  up : Up w wx
  lo : w.heap.size ≤ bc ∧ w.heap.size ≤ bp ∧ bc < wx.heap.size ∧ bp < wx.heap.size
  ne : bc ≠ bp
  c : ∀ i, i < K3 → wx.cell? ⟨bc, i, none⟩ = some (.int .i64 0)
  p : ∀ i, i < K5 → wx.cell? ⟨bp, i, none⟩ = some (.int .i64 0)
  fc : ∀ k, wx.frozen? ⟨bc, k, none⟩ = false
  fp : ∀ k, wx.frozen? ⟨bp, k, none⟩ = false
theorem NB.one (w : World) (K3 K5 : Nat) : NB w (((w.alloc (.cells (madeCells #[.int .i64 0] K5) 3)).alloc (.cells (madeCells #[.int .i64 0] K3) 2)).drew) (w.heap.size + 1) w.heap.size K3 K5 := by
  have hs : (w.alloc (.cells (madeCells #[.int .i64 0] K5) 3)).heap.size = w.heap.size + 1 := by simp
  have hu : Up (w.alloc (.cells (madeCells #[.int .i64 0] K5) 3)) ((w.alloc (.cells (madeCells #[.int .i64 0] K5) 3)).alloc (.cells (madeCells #[.int .i64 0] K3) 2)) := Up.alloc _ _
  refine ⟨(Up.alloc _ _).trans (hu.trans (Up.drew _)), ⟨by omega, by omega, by show _ < ((w.alloc (.cells (madeCells #[.int .i64 0] K5) 3)).alloc (.cells (madeCells #[.int .i64 0] K3) 2)).heap.size; (simp; try omega), by show _ < ((w.alloc (.cells (madeCells #[.int .i64 0] K5) 3)).alloc (.cells (madeCells #[.int .i64 0] K3) 2)).heap.size; (simp; try omega)⟩, by omega, fun i hi => ?_, fun i hi => ?_, fun k => ?_, fun k => ?_⟩
  · show ((w.alloc (.cells (madeCells #[.int .i64 0] K5) 3)).alloc (.cells (madeCells #[.int .i64 0] K3) 2)).cell? _ = _
    rw [World.cell?_alloc_at _ _ _ _ hs.symm]
    exact made_at _ hi
  · refine cell_up (w := w.alloc (.cells (madeCells #[.int .i64 0] K5) 3)) ?_ (hu.trans (Up.drew _))
    rw [World.cell?_alloc_at _ _ _ _ rfl]
    exact made_at _ hi
  · exact World.frozen?_alloc_at _ _ _ _ hs.symm
  · show ((w.alloc (.cells (madeCells #[.int .i64 0] K5) 3)).alloc (.cells (madeCells #[.int .i64 0] K3) 2)).frozen? _ = _
    rw [World.frozen?_of_block (hu.block _ (by show w.heap.size < _; rw [hs]; omega))]
    exact World.frozen?_alloc_at _ _ _ _ rfl
theorem NB.two (w : World) (K3 K5 : Nat) : NB w (((w.alloc (.cells (madeCells #[.int .i64 0] K3) 2)).alloc (.cells (madeCells #[.int .i64 0] K5) 3)).drew) w.heap.size (w.heap.size + 1) K3 K5 := by
  have hs : (w.alloc (.cells (madeCells #[.int .i64 0] K3) 2)).heap.size = w.heap.size + 1 := by simp
  have hu : Up (w.alloc (.cells (madeCells #[.int .i64 0] K3) 2)) ((w.alloc (.cells (madeCells #[.int .i64 0] K3) 2)).alloc (.cells (madeCells #[.int .i64 0] K5) 3)) := Up.alloc _ _
  refine ⟨(Up.alloc _ _).trans (hu.trans (Up.drew _)), ⟨by omega, by omega, by show _ < ((w.alloc (.cells (madeCells #[.int .i64 0] K3) 2)).alloc (.cells (madeCells #[.int .i64 0] K5) 3)).heap.size; (simp; try omega), by show _ < ((w.alloc (.cells (madeCells #[.int .i64 0] K3) 2)).alloc (.cells (madeCells #[.int .i64 0] K5) 3)).heap.size; (simp; try omega)⟩, by omega, fun i hi => ?_, fun i hi => ?_, fun k => ?_, fun k => ?_⟩
  · refine cell_up (w := w.alloc (.cells (madeCells #[.int .i64 0] K3) 2)) ?_ (hu.trans (Up.drew _))
    rw [World.cell?_alloc_at _ _ _ _ rfl]
    exact made_at _ hi
  · show ((w.alloc (.cells (madeCells #[.int .i64 0] K3) 2)).alloc (.cells (madeCells #[.int .i64 0] K5) 3)).cell? _ = _
    rw [World.cell?_alloc_at _ _ _ _ hs.symm]
    exact made_at _ hi
  · show ((w.alloc (.cells (madeCells #[.int .i64 0] K3) 2)).alloc (.cells (madeCells #[.int .i64 0] K5) 3)).frozen? _ = _
    rw [World.frozen?_of_block (hu.block _ (by show w.heap.size < _; rw [hs]; omega))]
    exact World.frozen?_alloc_at _ _ _ _ rfl
  · exact World.frozen?_alloc_at _ _ _ _ hs.symm
theorem SR.start {w wx : World} {bc bp n K2 K3 K4 K5 : Nat} (h : NB w wx bc bp K3 K5) (hK : K2 = 2 * n ∧ K3 = 3 * n ∧ K4 = 4 * n ∧ K5 = 5 * n) : ∃ (L : Lay) (H : Nat) (s : Sq), wx.heap.size + 1 = L.bs ∧ SR (((wx.alloc (.cells (madeCells #[.slice none 0 0] n) 43)).alloc (.cells #[.slice (some ⟨wx.heap.size, 0, none⟩) n n, .slice (some ⟨bc, 0, none⟩) n n, .slice (some ⟨bc, n, none⟩) n n, .slice (some ⟨bp, 0, none⟩) n n, .slice (some ⟨bp, n, none⟩) n n, .slice (some ⟨bp, K2, none⟩) n n, .slice (some ⟨bc, K2, none⟩) n n, .slice (some ⟨bp, K3, none⟩) n n, .slice (some ⟨bp, K4, none⟩) n n] 54)).drew) L n 0 H s ∧ LA L w.heap.size n ∧ (∀ i, s.u i = 0 ∧ s.v i = 0) ∧ Up w (((wx.alloc (.cells (madeCells #[.slice none 0 0] n) 43)).alloc (.cells #[.slice (some ⟨wx.heap.size, 0, none⟩) n n, .slice (some ⟨bc, 0, none⟩) n n, .slice (some ⟨bc, n, none⟩) n n, .slice (some ⟨bp, 0, none⟩) n n, .slice (some ⟨bp, n, none⟩) n n, .slice (some ⟨bp, K2, none⟩) n n, .slice (some ⟨bc, K2, none⟩) n n, .slice (some ⟨bp, K3, none⟩) n n, .slice (some ⟨bp, K4, none⟩) n n] 54)).drew) := by
  obtain ⟨k2, k3, k4, k5⟩ := hK
  obtain ⟨l1, l2, l3, l4⟩ := h.lo
  have hne := h.ne
  have hup0 := h.up.size
  have hs1 : (wx.alloc (.cells (madeCells #[.slice none 0 0] n) 43)).heap.size = wx.heap.size + 1 := by simp
  generalize hW1 : wx.alloc (.cells (madeCells #[.slice none 0 0] n) 43) = W1 at *
  have hu1 : Up wx W1 := hW1 ▸ Up.alloc _ _
  generalize hbox : (Obj.cells #[.slice (some ⟨wx.heap.size, 0, none⟩) n n, .slice (some ⟨bc, 0, none⟩) n n, .slice (some ⟨bc, n, none⟩) n n, .slice (some ⟨bp, 0, none⟩) n n, .slice (some ⟨bp, n, none⟩) n n, .slice (some ⟨bp, K2, none⟩) n n, .slice (some ⟨bc, K2, none⟩) n n, .slice (some ⟨bp, K3, none⟩) n n, .slice (some ⟨bp, K4, none⟩) n n] 54) = bx
  have hu2 : Up W1 ((W1.alloc bx).drew) := (Up.alloc _ _).trans (Up.drew _)
  have hu : Up wx ((W1.alloc bx).drew) := hu1.trans hu2
  have hbx : ∀ k, ((W1.alloc bx).drew).cell? ⟨wx.heap.size + 1, k, none⟩ = (#[.slice (some ⟨wx.heap.size, 0, none⟩) n n, .slice (some ⟨bc, 0, none⟩) n n, .slice (some ⟨bc, n, none⟩) n n, .slice (some ⟨bp, 0, none⟩) n n, .slice (some ⟨bp, n, none⟩) n n, .slice (some ⟨bp, K2, none⟩) n n, .slice (some ⟨bc, K2, none⟩) n n, .slice (some ⟨bp, K3, none⟩) n n, .slice (some ⟨bp, K4, none⟩) n n] : Array Value)[k]? := fun k => by
    subst hbox
    exact World.cell?_alloc_at _ _ _ _ hs1.symm
  have hfz : ∀ g j, g < wx.heap.size → wx.frozen? ⟨g, j, none⟩ = false → ((W1.alloc bx).drew).frozen? ⟨g, j, none⟩ = false := fun g j hg hf => (World.frozen?_of_block (hu.block g hg)).trans hf
  have hcc : ∀ i, i < K3 → ((W1.alloc bx).drew).cell? ⟨bc, i, none⟩ = some (.int .i64 0) := fun i hi => cell_up (h.c i hi) hu
  have hpp : ∀ i, i < K5 → ((W1.alloc bx).drew).cell? ⟨bp, i, none⟩ = some (.int .i64 0) := fun i hi => cell_up (h.p i hi) hu
  refine ⟨⟨wx.heap.size + 1, wx.heap.size, bc, bp, fun i => wx.heap.size + 2 + i, 0, n, K2, 0, n, K2, K3, K4⟩, wx.heap.size + 2, ⟨fun _ _ => 0, fun _ => 0, fun _ => 0, fun _ => 0, fun _ => 0, fun _ => 0, fun _ => 0, fun _ => 0, fun _ => 0⟩, rfl, ⟨hbx 0, hbx 1, hbx 2, hbx 3, hbx 4, hbx 5, hbx 6, hbx 7, hbx 8, fun i hi => ?_, fun i hi => by omega, fun i j hi => by omega, fun i hi => hcc _ (by show 0 + i < _; omega), fun i hi => hcc _ (by show n + i < _; omega), fun i hi => hcc _ (by show K2 + i < _; omega), fun i hi => hpp _ (by show 0 + i < _; omega), fun i hi => hpp _ (by show n + i < _; omega), fun i hi => hpp _ (by show K2 + i < _; omega), fun i hi => hpp _ (by show K3 + i < _; omega), fun i hi => hpp _ (by show K4 + i < _; omega), fun k => hfz _ _ l3 (h.fc k), fun k => hfz _ _ l4 (h.fp k), fun k => ?_, fun i j hi => by omega, ?_, ⟨by show wx.heap.size + 1 < _; omega, by show wx.heap.size < _; omega, by show bc < _; omega, by show bp < _; omega⟩, rfl⟩, ⟨⟨by show _ ≤ wx.heap.size + 1; omega, hup0, l1, l2⟩, ⟨by show wx.heap.size + 1 ≠ wx.heap.size; omega, by show wx.heap.size + 1 ≠ bc; omega, by show wx.heap.size + 1 ≠ bp; omega, by show wx.heap.size ≠ bc; omega, by show wx.heap.size ≠ bp; omega, hne⟩, ⟨rfl, rfl, k2⟩, ⟨rfl, rfl, k2, k3, k4⟩⟩, fun i => ⟨rfl, rfl⟩, h.up.trans hu⟩
  · have e : W1.cell? ⟨wx.heap.size, i, none⟩ = some (.slice none 0 0) := by
      subst hW1
      rw [World.cell?_alloc_at _ _ _ _ rfl]
      exact made_at _ hi
    rw [cell_up e hu2]; rfl
  · rw [World.frozen?_of_block (hu2.block wx.heap.size (by rw [hs1]; omega))]
    subst hW1
    exact World.frozen?_alloc_at _ _ _ _ rfl
  · show (W1.alloc bx).heap.size = _
    simp [hs1]
end Go.Proofs.Ytdajgnchgealhaa
