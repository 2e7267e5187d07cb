/- A square in memory: its cells, what a store leaves. -/
import Derived.Test.YtdajgnchgealhaaRows
import Derived.OpenShut
import Derived.WalkKit
import Derived.WalkLawsBesides
import Derived.ProofKit
import Derived.Deep.WholeRow
import Derived.Laws.CopyOwn
import Derived.BigQuiet
import Derived.BigRegion
import Derived.Deep.QuietTactic
import Derived.Deep.LoopGhost
import Derived.Deep.RegionWith
namespace Go.Proofs.Ytdajgnchgealhaa
open Go.ChangeShapes Go.WideShapes Go.ChangeAt Go.RowKit

/-- Of what was there nothing has turned. -/
def Up (w w' : World) : Prop := RowKit.Below w.heap.size w w'
theorem Up.refl (w : World) : Up w w := Below.refl _ _
theorem Up.trans {a b c : World} (h : Up a b) (k : Up b c) : Up a c := RowKit.Below.trans h (RowKit.Below.mono k (RowKit.Below.size h))
theorem Up.drewN (w : World) (n : Nat) : Up w (w.drewN n) := below_drewN (Below.refl _ _) n
theorem Up.drew (w : World) : Up w w.drew := Up.drewN w 1
theorem Up.alloc (w : World) (o : Obj) : Up w (w.alloc o) := (Below.refl _ _).alloc (Nat.le_refl _) _
theorem cell_up {w w' : World} {a : Addr} {x : Value} (h : w.cell? a = some x) (hu : Up w w') : w'.cell? a = some x := by
  rw [World.cell?_of_block (hu.block a.block (World.block_lt_of_cell? w _ h))]; exact h
theorem frozen_up {w w' : World} {a : Addr} {x : Value} (h : w.cell? a = some x) (hf : w.frozen? a = false) (hu : Up w w') : w'.frozen? a = false := (World.frozen?_of_block (hu.block a.block (World.block_lt_of_cell? w _ h))).trans hf
/-- A function that is another one at a place. -/
def upd (f : Nat → Int) (k : Nat) (x : Int) : Nat → Int := fun i => if i = k then x else f i
theorem upd_at (f : Nat → Int) (k : Nat) (x : Int) : upd f k x k = x := if_pos rfl
theorem upd_ne (f : Nat → Int) {k i : Nat} (x : Int) (h : i ≠ k) : upd f k x i = f i := if_neg h
/-- Where a square lies. -/
structure Lay where
  bs : Nat
  bt : Nat
  bc : Nat
  bp : Nat
  br : Nat → Nat
  ou : Nat
  ov : Nat
  oq : Nat
  om : Nat
  oo : Nat
  od : Nat
  of : Nat
  orr : Nat
/-- Its parts lie apart, and behind what was there. -/
structure Lay.Ok (L : Lay) (b n : Nat) : Prop where
  st : b ≤ L.bs ∧ b ≤ L.bt ∧ b ≤ L.bc ∧ b ≤ L.bp
  ap : L.bs ≠ L.bt ∧ L.bs ≠ L.bc ∧ L.bs ≠ L.bp ∧ L.bt ≠ L.bc ∧ L.bt ≠ L.bp ∧ L.bc ≠ L.bp
  ar : ∀ i, i < n → b ≤ L.br i ∧ L.br i ≠ L.bs ∧ L.br i ≠ L.bt ∧ L.br i ≠ L.bc ∧ L.br i ≠ L.bp
  o1 : L.ou = 0 ∧ L.ov = n ∧ L.oq = 2 * n
  o2 : L.om = 0 ∧ L.oo = n ∧ L.od = 2 * n ∧ L.of = 3 * n ∧ L.orr = 4 * n
/-- What a square holds. -/
structure Sq where
  c : Nat → Nat → Int
  u : Nat → Int
  v : Nat → Int
  q : Nat → Int
  m : Nat → Int
  o : Nat → Int
  d : Nat → Int
  f : Nat → Int
  r : Nat → Int
structure SQ (w : World) (L : Lay) (n : Nat) (s : Sq) : Prop where
  s0 : w.cell? ⟨L.bs, 0, none⟩ = some (.slice (some ⟨L.bt, 0, none⟩) n n)
  s1 : w.cell? ⟨L.bs, 1, none⟩ = some (.slice (some ⟨L.bc, L.ou, none⟩) n n)
  s2 : w.cell? ⟨L.bs, 2, none⟩ = some (.slice (some ⟨L.bc, L.ov, none⟩) n n)
  s3 : w.cell? ⟨L.bs, 3, none⟩ = some (.slice (some ⟨L.bp, L.om, none⟩) n n)
  s4 : w.cell? ⟨L.bs, 4, none⟩ = some (.slice (some ⟨L.bp, L.oo, none⟩) n n)
  s5 : w.cell? ⟨L.bs, 5, none⟩ = some (.slice (some ⟨L.bp, L.od, none⟩) n n)
  s6 : w.cell? ⟨L.bs, 6, none⟩ = some (.slice (some ⟨L.bc, L.oq, none⟩) n n)
  s7 : w.cell? ⟨L.bs, 7, none⟩ = some (.slice (some ⟨L.bp, L.of, none⟩) n n)
  s8 : w.cell? ⟨L.bs, 8, none⟩ = some (.slice (some ⟨L.bp, L.orr, none⟩) n n)
  ct : ∀ i, i < n → w.cell? ⟨L.bt, i, none⟩ = some (.slice (some ⟨L.br i, 0, none⟩) n n)
  cc : ∀ i j, i < n → j < n → w.cell? ⟨L.br i, j, none⟩ = some (.int .i64 (s.c i j))
  cu : ∀ i, i < n → w.cell? ⟨L.bc, L.ou + i, none⟩ = some (.int .i64 (s.u i))
  cv : ∀ i, i < n → w.cell? ⟨L.bc, L.ov + i, none⟩ = some (.int .i64 (s.v i))
  cq : ∀ i, i < n → w.cell? ⟨L.bc, L.oq + i, none⟩ = some (.int .i64 (s.q i))
  cm : ∀ i, i < n → w.cell? ⟨L.bp, L.om + i, none⟩ = some (.int .i64 (s.m i))
  co : ∀ i, i < n → w.cell? ⟨L.bp, L.oo + i, none⟩ = some (.int .i64 (s.o i))
  cd : ∀ i, i < n → w.cell? ⟨L.bp, L.od + i, none⟩ = some (.int .i64 (s.d i))
  cf : ∀ i, i < n → w.cell? ⟨L.bp, L.of + i, none⟩ = some (.int .i64 (s.f i))
  cr : ∀ i, i < n → w.cell? ⟨L.bp, L.orr + i, none⟩ = some (.int .i64 (s.r i))
  fc : ∀ k, w.frozen? ⟨L.bc, k, none⟩ = false
  fp : ∀ k, w.frozen? ⟨L.bp, k, none⟩ = false
theorem SQ.drewN {w : World} {L : Lay} {n : Nat} {s : Sq} (h : SQ w L n s) (k : Nat) : SQ (w.drewN k) L n s := ⟨h.s0, h.s1, h.s2, h.s3, h.s4, h.s5, h.s6, h.s7, h.s8, h.ct, h.cc, h.cu, h.cv, h.cq, h.cm, h.co, h.cd, h.cf, h.cr, h.fc, h.fp⟩
theorem SQ.drew {w : World} {L : Lay} {n : Nat} {s : Sq} (h : SQ w L n s) : SQ w.drew L n s := h.drewN 1
theorem cell_other {w : World} {a a' : Addr} {x y : Value} (h : w.cell? a = some x) (hn : a.block ≠ a'.block ∨ a.off ≠ a'.off) : (w.setCell a' y).cell? a = some x := by
  rw [World.cell?_setCell_other _ _ _ _ (by first | exact hn | (rcases hn with e | e <;> intro e2 <;> exact e (by rw [e2])))]; exact h
theorem SQ.setu {w : World} {L : Lay} {b n : Nat} {s : Sq} (h : SQ w L n s) (hL : L.Ok b n) {j : Nat} (hj : j < n) (x : Int) : SQ (w.setCell ⟨L.bc, L.ou + j, none⟩ (.int .i64 x)) L n { s with u := upd s.u j x } := by
  obtain ⟨a1, a2, a3, a4, a5, a6⟩ := hL.ap
  obtain ⟨e1, e2, e3⟩ := hL.o1
  obtain ⟨e4, e5, e6, e7, e8⟩ := hL.o2
  refine ⟨cell_other h.s0 (Or.inl ‹L.bs ≠ L.bc›), cell_other h.s1 (Or.inl ‹L.bs ≠ L.bc›), cell_other h.s2 (Or.inl ‹L.bs ≠ L.bc›), cell_other h.s3 (Or.inl ‹L.bs ≠ L.bc›), cell_other h.s4 (Or.inl ‹L.bs ≠ L.bc›), cell_other h.s5 (Or.inl ‹L.bs ≠ L.bc›), cell_other h.s6 (Or.inl ‹L.bs ≠ L.bc›), cell_other h.s7 (Or.inl ‹L.bs ≠ L.bc›), cell_other h.s8 (Or.inl ‹L.bs ≠ L.bc›), fun i hi => cell_other (h.ct i hi) (Or.inl ‹L.bt ≠ L.bc›), fun i k hi hk => cell_other (h.cc i k hi hk) (Or.inl (hL.ar i hi).2.2.2.1), fun i hi => ?_, fun i hi => cell_other (h.cv i hi) (Or.inr (by show L.ov + i ≠ L.ou + j; omega)), fun i hi => cell_other (h.cq i hi) (Or.inr (by show L.oq + i ≠ L.ou + j; omega)), fun i hi => cell_other (h.cm i hi) (Or.inl a6.symm), fun i hi => cell_other (h.co i hi) (Or.inl a6.symm), fun i hi => cell_other (h.cd i hi) (Or.inl a6.symm), fun i hi => cell_other (h.cf i hi) (Or.inl a6.symm), fun i hi => cell_other (h.cr i hi) (Or.inl a6.symm), fun k => by rw [World.frozen?_setCell]; exact h.fc k, fun k => by rw [World.frozen?_setCell]; exact h.fp k⟩
  by_cases e : i = j
  · subst e
    rw [World.cell?_setCell_same _ _ _ (h.cu i hi)]
    show _ = some (Value.int .i64 (upd s.u i x i))
    rw [upd_at]
  · show _ = some (Value.int .i64 (upd s.u j x i))
    rw [upd_ne _ _ e]
    exact cell_other (h.cu i hi) (Or.inr (by show L.ou + i ≠ L.ou + j; omega))
theorem SQ.setv {w : World} {L : Lay} {b n : Nat} {s : Sq} (h : SQ w L n s) (hL : L.Ok b n) {j : Nat} (hj : j < n) (x : Int) : SQ (w.setCell ⟨L.bc, L.ov + j, none⟩ (.int .i64 x)) L n { s with v := upd s.v j x } := by
  obtain ⟨a1, a2, a3, a4, a5, a6⟩ := hL.ap
  obtain ⟨e1, e2, e3⟩ := hL.o1
  obtain ⟨e4, e5, e6, e7, e8⟩ := hL.o2
  refine ⟨cell_other h.s0 (Or.inl ‹L.bs ≠ L.bc›), cell_other h.s1 (Or.inl ‹L.bs ≠ L.bc›), cell_other h.s2 (Or.inl ‹L.bs ≠ L.bc›), cell_other h.s3 (Or.inl ‹L.bs ≠ L.bc›), cell_other h.s4 (Or.inl ‹L.bs ≠ L.bc›), cell_other h.s5 (Or.inl ‹L.bs ≠ L.bc›), cell_other h.s6 (Or.inl ‹L.bs ≠ L.bc›), cell_other h.s7 (Or.inl ‹L.bs ≠ L.bc›), cell_other h.s8 (Or.inl ‹L.bs ≠ L.bc›), fun i hi => cell_other (h.ct i hi) (Or.inl ‹L.bt ≠ L.bc›), fun i k hi hk => cell_other (h.cc i k hi hk) (Or.inl (hL.ar i hi).2.2.2.1), fun i hi => cell_other (h.cu i hi) (Or.inr (by show L.ou + i ≠ L.ov + j; omega)), fun i hi => ?_, fun i hi => cell_other (h.cq i hi) (Or.inr (by show L.oq + i ≠ L.ov + j; omega)), fun i hi => cell_other (h.cm i hi) (Or.inl a6.symm), fun i hi => cell_other (h.co i hi) (Or.inl a6.symm), fun i hi => cell_other (h.cd i hi) (Or.inl a6.symm), fun i hi => cell_other (h.cf i hi) (Or.inl a6.symm), fun i hi => cell_other (h.cr i hi) (Or.inl a6.symm), fun k => by rw [World.frozen?_setCell]; exact h.fc k, fun k => by rw [World.frozen?_setCell]; exact h.fp k⟩
  by_cases e : i = j
  · subst e
    rw [World.cell?_setCell_same _ _ _ (h.cv i hi)]
    show _ = some (Value.int .i64 (upd s.v i x i))
    rw [upd_at]
  · show _ = some (Value.int .i64 (upd s.v j x i))
    rw [upd_ne _ _ e]
    exact cell_other (h.cv i hi) (Or.inr (by show L.ov + i ≠ L.ov + j; omega))
theorem SQ.setq {w : World} {L : Lay} {b n : Nat} {s : Sq} (h : SQ w L n s) (hL : L.Ok b n) {j : Nat} (hj : j < n) (x : Int) : SQ (w.setCell ⟨L.bc, L.oq + j, none⟩ (.int .i64 x)) L n { s with q := upd s.q j x } := by
  obtain ⟨a1, a2, a3, a4, a5, a6⟩ := hL.ap
  obtain ⟨e1, e2, e3⟩ := hL.o1
  obtain ⟨e4, e5, e6, e7, e8⟩ := hL.o2
  refine ⟨cell_other h.s0 (Or.inl ‹L.bs ≠ L.bc›), cell_other h.s1 (Or.inl ‹L.bs ≠ L.bc›), cell_other h.s2 (Or.inl ‹L.bs ≠ L.bc›), cell_other h.s3 (Or.inl ‹L.bs ≠ L.bc›), cell_other h.s4 (Or.inl ‹L.bs ≠ L.bc›), cell_other h.s5 (Or.inl ‹L.bs ≠ L.bc›), cell_other h.s6 (Or.inl ‹L.bs ≠ L.bc›), cell_other h.s7 (Or.inl ‹L.bs ≠ L.bc›), cell_other h.s8 (Or.inl ‹L.bs ≠ L.bc›), fun i hi => cell_other (h.ct i hi) (Or.inl ‹L.bt ≠ L.bc›), fun i k hi hk => cell_other (h.cc i k hi hk) (Or.inl (hL.ar i hi).2.2.2.1), fun i hi => cell_other (h.cu i hi) (Or.inr (by show L.ou + i ≠ L.oq + j; omega)), fun i hi => cell_other (h.cv i hi) (Or.inr (by show L.ov + i ≠ L.oq + j; omega)), fun i hi => ?_, fun i hi => cell_other (h.cm i hi) (Or.inl a6.symm), fun i hi => cell_other (h.co i hi) (Or.inl a6.symm), fun i hi => cell_other (h.cd i hi) (Or.inl a6.symm), fun i hi => cell_other (h.cf i hi) (Or.inl a6.symm), fun i hi => cell_other (h.cr i hi) (Or.inl a6.symm), fun k => by rw [World.frozen?_setCell]; exact h.fc k, fun k => by rw [World.frozen?_setCell]; exact h.fp k⟩
  by_cases e : i = j
  · subst e
    rw [World.cell?_setCell_same _ _ _ (h.cq i hi)]
    show _ = some (Value.int .i64 (upd s.q i x i))
    rw [upd_at]
  · show _ = some (Value.int .i64 (upd s.q j x i))
    rw [upd_ne _ _ e]
    exact cell_other (h.cq i hi) (Or.inr (by show L.oq + i ≠ L.oq + j; omega))
theorem SQ.setm {w : World} {L : Lay} {b n : Nat} {s : Sq} (h : SQ w L n s) (hL : L.Ok b n) {j : Nat} (hj : j < n) (x : Int) : SQ (w.setCell ⟨L.bp, L.om + j, none⟩ (.int .i64 x)) L n { s with m := upd s.m j x } := by
  obtain ⟨a1, a2, a3, a4, a5, a6⟩ := hL.ap
  obtain ⟨e1, e2, e3⟩ := hL.o1
  obtain ⟨e4, e5, e6, e7, e8⟩ := hL.o2
  refine ⟨cell_other h.s0 (Or.inl ‹L.bs ≠ L.bp›), cell_other h.s1 (Or.inl ‹L.bs ≠ L.bp›), cell_other h.s2 (Or.inl ‹L.bs ≠ L.bp›), cell_other h.s3 (Or.inl ‹L.bs ≠ L.bp›), cell_other h.s4 (Or.inl ‹L.bs ≠ L.bp›), cell_other h.s5 (Or.inl ‹L.bs ≠ L.bp›), cell_other h.s6 (Or.inl ‹L.bs ≠ L.bp›), cell_other h.s7 (Or.inl ‹L.bs ≠ L.bp›), cell_other h.s8 (Or.inl ‹L.bs ≠ L.bp›), fun i hi => cell_other (h.ct i hi) (Or.inl ‹L.bt ≠ L.bp›), fun i k hi hk => cell_other (h.cc i k hi hk) (Or.inl (hL.ar i hi).2.2.2.2), fun i hi => cell_other (h.cu i hi) (Or.inl a6), fun i hi => cell_other (h.cv i hi) (Or.inl a6), fun i hi => cell_other (h.cq i hi) (Or.inl a6), fun i hi => ?_, fun i hi => cell_other (h.co i hi) (Or.inr (by show L.oo + i ≠ L.om + j; omega)), fun i hi => cell_other (h.cd i hi) (Or.inr (by show L.od + i ≠ L.om + j; omega)), fun i hi => cell_other (h.cf i hi) (Or.inr (by show L.of + i ≠ L.om + j; omega)), fun i hi => cell_other (h.cr i hi) (Or.inr (by show L.orr + i ≠ L.om + j; omega)), fun k => by rw [World.frozen?_setCell]; exact h.fc k, fun k => by rw [World.frozen?_setCell]; exact h.fp k⟩
  by_cases e : i = j
  · subst e
    rw [World.cell?_setCell_same _ _ _ (h.cm i hi)]
    show _ = some (Value.int .i64 (upd s.m i x i))
    rw [upd_at]
  · show _ = some (Value.int .i64 (upd s.m j x i))
    rw [upd_ne _ _ e]
    exact cell_other (h.cm i hi) (Or.inr (by show L.om + i ≠ L.om + j; omega))
theorem SQ.seto {w : World} {L : Lay} {b n : Nat} {s : Sq} (h : SQ w L n s) (hL : L.Ok b n) {j : Nat} (hj : j < n) (x : Int) : SQ (w.setCell ⟨L.bp, L.oo + j, none⟩ (.int .i64 x)) L n { s with o := upd s.o j x } := by
  obtain ⟨a1, a2, a3, a4, a5, a6⟩ := hL.ap
  obtain ⟨e1, e2, e3⟩ := hL.o1
  obtain ⟨e4, e5, e6, e7, e8⟩ := hL.o2
  refine ⟨cell_other h.s0 (Or.inl ‹L.bs ≠ L.bp›), cell_other h.s1 (Or.inl ‹L.bs ≠ L.bp›), cell_other h.s2 (Or.inl ‹L.bs ≠ L.bp›), cell_other h.s3 (Or.inl ‹L.bs ≠ L.bp›), cell_other h.s4 (Or.inl ‹L.bs ≠ L.bp›), cell_other h.s5 (Or.inl ‹L.bs ≠ L.bp›), cell_other h.s6 (Or.inl ‹L.bs ≠ L.bp›), cell_other h.s7 (Or.inl ‹L.bs ≠ L.bp›), cell_other h.s8 (Or.inl ‹L.bs ≠ L.bp›), fun i hi => cell_other (h.ct i hi) (Or.inl ‹L.bt ≠ L.bp›), fun i k hi hk => cell_other (h.cc i k hi hk) (Or.inl (hL.ar i hi).2.2.2.2), fun i hi => cell_other (h.cu i hi) (Or.inl a6), fun i hi => cell_other (h.cv i hi) (Or.inl a6), fun i hi => cell_other (h.cq i hi) (Or.inl a6), fun i hi => cell_other (h.cm i hi) (Or.inr (by show L.om + i ≠ L.oo + j; omega)), fun i hi => ?_, fun i hi => cell_other (h.cd i hi) (Or.inr (by show L.od + i ≠ L.oo + j; omega)), fun i hi => cell_other (h.cf i hi) (Or.inr (by show L.of + i ≠ L.oo + j; omega)), fun i hi => cell_other (h.cr i hi) (Or.inr (by show L.orr + i ≠ L.oo + j; omega)), fun k => by rw [World.frozen?_setCell]; exact h.fc k, fun k => by rw [World.frozen?_setCell]; exact h.fp k⟩
  by_cases e : i = j
  · subst e
    rw [World.cell?_setCell_same _ _ _ (h.co i hi)]
    show _ = some (Value.int .i64 (upd s.o i x i))
    rw [upd_at]
  · show _ = some (Value.int .i64 (upd s.o j x i))
    rw [upd_ne _ _ e]
    exact cell_other (h.co i hi) (Or.inr (by show L.oo + i ≠ L.oo + j; omega))
theorem SQ.setd {w : World} {L : Lay} {b n : Nat} {s : Sq} (h : SQ w L n s) (hL : L.Ok b n) {j : Nat} (hj : j < n) (x : Int) : SQ (w.setCell ⟨L.bp, L.od + j, none⟩ (.int .i64 x)) L n { s with d := upd s.d j x } := by
  obtain ⟨a1, a2, a3, a4, a5, a6⟩ := hL.ap
  obtain ⟨e1, e2, e3⟩ := hL.o1
  obtain ⟨e4, e5, e6, e7, e8⟩ := hL.o2
  refine ⟨cell_other h.s0 (Or.inl ‹L.bs ≠ L.bp›), cell_other h.s1 (Or.inl ‹L.bs ≠ L.bp›), cell_other h.s2 (Or.inl ‹L.bs ≠ L.bp›), cell_other h.s3 (Or.inl ‹L.bs ≠ L.bp›), cell_other h.s4 (Or.inl ‹L.bs ≠ L.bp›), cell_other h.s5 (Or.inl ‹L.bs ≠ L.bp›), cell_other h.s6 (Or.inl ‹L.bs ≠ L.bp›), cell_other h.s7 (Or.inl ‹L.bs ≠ L.bp›), cell_other h.s8 (Or.inl ‹L.bs ≠ L.bp›), fun i hi => cell_other (h.ct i hi) (Or.inl ‹L.bt ≠ L.bp›), fun i k hi hk => cell_other (h.cc i k hi hk) (Or.inl (hL.ar i hi).2.2.2.2), fun i hi => cell_other (h.cu i hi) (Or.inl a6), fun i hi => cell_other (h.cv i hi) (Or.inl a6), fun i hi => cell_other (h.cq i hi) (Or.inl a6), fun i hi => cell_other (h.cm i hi) (Or.inr (by show L.om + i ≠ L.od + j; omega)), fun i hi => cell_other (h.co i hi) (Or.inr (by show L.oo + i ≠ L.od + j; omega)), fun i hi => ?_, fun i hi => cell_other (h.cf i hi) (Or.inr (by show L.of + i ≠ L.od + j; omega)), fun i hi => cell_other (h.cr i hi) (Or.inr (by show L.orr + i ≠ L.od + j; omega)), fun k => by rw [World.frozen?_setCell]; exact h.fc k, fun k => by rw [World.frozen?_setCell]; exact h.fp k⟩
  by_cases e : i = j
  · subst e
    rw [World.cell?_setCell_same _ _ _ (h.cd i hi)]
    show _ = some (Value.int .i64 (upd s.d i x i))
    rw [upd_at]
  · show _ = some (Value.int .i64 (upd s.d j x i))
    rw [upd_ne _ _ e]
    exact cell_other (h.cd i hi) (Or.inr (by show L.od + i ≠ L.od + j; omega))
theorem SQ.setf {w : World} {L : Lay} {b n : Nat} {s : Sq} (h : SQ w L n s) (hL : L.Ok b n) {j : Nat} (hj : j < n) (x : Int) : SQ (w.setCell ⟨L.bp, L.of + j, none⟩ (.int .i64 x)) L n { s with f := upd s.f j x } := by
  obtain ⟨a1, a2, a3, a4, a5, a6⟩ := hL.ap
  obtain ⟨e1, e2, e3⟩ := hL.o1
  obtain ⟨e4, e5, e6, e7, e8⟩ := hL.o2
  refine ⟨cell_other h.s0 (Or.inl ‹L.bs ≠ L.bp›), cell_other h.s1 (Or.inl ‹L.bs ≠ L.bp›), cell_other h.s2 (Or.inl ‹L.bs ≠ L.bp›), cell_other h.s3 (Or.inl ‹L.bs ≠ L.bp›), cell_other h.s4 (Or.inl ‹L.bs ≠ L.bp›), cell_other h.s5 (Or.inl ‹L.bs ≠ L.bp›), cell_other h.s6 (Or.inl ‹L.bs ≠ L.bp›), cell_other h.s7 (Or.inl ‹L.bs ≠ L.bp›), cell_other h.s8 (Or.inl ‹L.bs ≠ L.bp›), fun i hi => cell_other (h.ct i hi) (Or.inl ‹L.bt ≠ L.bp›), fun i k hi hk => cell_other (h.cc i k hi hk) (Or.inl (hL.ar i hi).2.2.2.2), fun i hi => cell_other (h.cu i hi) (Or.inl a6), fun i hi => cell_other (h.cv i hi) (Or.inl a6), fun i hi => cell_other (h.cq i hi) (Or.inl a6), fun i hi => cell_other (h.cm i hi) (Or.inr (by show L.om + i ≠ L.of + j; omega)), fun i hi => cell_other (h.co i hi) (Or.inr (by show L.oo + i ≠ L.of + j; omega)), fun i hi => cell_other (h.cd i hi) (Or.inr (by show L.od + i ≠ L.of + j; omega)), fun i hi => ?_, fun i hi => cell_other (h.cr i hi) (Or.inr (by show L.orr + i ≠ L.of + j; omega)), fun k => by rw [World.frozen?_setCell]; exact h.fc k, fun k => by rw [World.frozen?_setCell]; exact h.fp k⟩
  by_cases e : i = j
  · subst e
    rw [World.cell?_setCell_same _ _ _ (h.cf i hi)]
    show _ = some (Value.int .i64 (upd s.f i x i))
    rw [upd_at]
  · show _ = some (Value.int .i64 (upd s.f j x i))
    rw [upd_ne _ _ e]
    exact cell_other (h.cf i hi) (Or.inr (by show L.of + i ≠ L.of + j; omega))
theorem SQ.setr {w : World} {L : Lay} {b n : Nat} {s : Sq} (h : SQ w L n s) (hL : L.Ok b n) {j : Nat} (hj : j < n) (x : Int) : SQ (w.setCell ⟨L.bp, L.orr + j, none⟩ (.int .i64 x)) L n { s with r := upd s.r j x } := by
  obtain ⟨a1, a2, a3, a4, a5, a6⟩ := hL.ap
  obtain ⟨e1, e2, e3⟩ := hL.o1
  obtain ⟨e4, e5, e6, e7, e8⟩ := hL.o2
  refine ⟨cell_other h.s0 (Or.inl ‹L.bs ≠ L.bp›), cell_other h.s1 (Or.inl ‹L.bs ≠ L.bp›), cell_other h.s2 (Or.inl ‹L.bs ≠ L.bp›), cell_other h.s3 (Or.inl ‹L.bs ≠ L.bp›), cell_other h.s4 (Or.inl ‹L.bs ≠ L.bp›), cell_other h.s5 (Or.inl ‹L.bs ≠ L.bp›), cell_other h.s6 (Or.inl ‹L.bs ≠ L.bp›), cell_other h.s7 (Or.inl ‹L.bs ≠ L.bp›), cell_other h.s8 (Or.inl ‹L.bs ≠ L.bp›), fun i hi => cell_other (h.ct i hi) (Or.inl ‹L.bt ≠ L.bp›), fun i k hi hk => cell_other (h.cc i k hi hk) (Or.inl (hL.ar i hi).2.2.2.2), fun i hi => cell_other (h.cu i hi) (Or.inl a6), fun i hi => cell_other (h.cv i hi) (Or.inl a6), fun i hi => cell_other (h.cq i hi) (Or.inl a6), fun i hi => cell_other (h.cm i hi) (Or.inr (by show L.om + i ≠ L.orr + j; omega)), fun i hi => cell_other (h.co i hi) (Or.inr (by show L.oo + i ≠ L.orr + j; omega)), fun i hi => cell_other (h.cd i hi) (Or.inr (by show L.od + i ≠ L.orr + j; omega)), fun i hi => cell_other (h.cf i hi) (Or.inr (by show L.of + i ≠ L.orr + j; omega)), fun i hi => ?_, fun k => by rw [World.frozen?_setCell]; exact h.fc k, fun k => by rw [World.frozen?_setCell]; exact h.fp k⟩
  by_cases e : i = j
  · subst e
    rw [World.cell?_setCell_same _ _ _ (h.cr i hi)]
    show _ = some (Value.int .i64 (upd s.r i x i))
    rw [upd_at]
  · show _ = some (Value.int .i64 (upd s.r j x i))
    rw [upd_ne _ _ e]
    exact cell_other (h.cr i hi) (Or.inr (by show L.orr + i ≠ L.orr + j; omega))
/-- Nothing below b has turned, and of what was there nothing but the square's numbers. -/
def Kq (L : Lay) (b : Nat) (w w' : World) : Prop := Below b w w' ∧ ∀ k, k < w.heap.size → k ≠ L.bc → k ≠ L.bp → w'.heap[k]? = w.heap[k]?
theorem Kq.refl (L : Lay) (b : Nat) (w : World) : Kq L b w w := ⟨Below.refl _ _, fun _ _ _ _ => rfl⟩
theorem Kq.trans {L : Lay} {b : Nat} {w1 w2 w3 : World} (h : Kq L b w1 w2) (k : Kq L b w2 w3) : Kq L b w1 w3 := ⟨Below.trans h.1 k.1, fun j hj h1 h2 => (k.2 j (Nat.lt_of_lt_of_le hj h.1.size) h1 h2).trans (h.2 j hj h1 h2)⟩
theorem Kq.drewN {L : Lay} {b : Nat} {w w' : World} (h : Kq L b w w') (n : Nat) : Kq L b w (w'.drewN n) := ⟨below_drewN h.1 n, h.2⟩
theorem Kq.alloc {L : Lay} {b : Nat} {w w' : World} (h : Kq L b w w') (hb : b ≤ w'.heap.size) (o : Obj) : Kq L b w (w'.alloc o) := ⟨h.1.alloc hb o, fun j hj h1 h2 => ((Up.alloc w' o).block j (Nat.lt_of_lt_of_le hj h.1.size)).trans (h.2 j hj h1 h2)⟩
theorem Kq.setCell {L : Lay} {b : Nat} {w w' : World} {g o : Nat} (h : Kq L b w w') (hb : b ≤ g) (hg : g = L.bc ∨ g = L.bp) (v : Value) : Kq L b w (w'.setCell ⟨g, o, none⟩ v) := ⟨Below.setCell h.1 hb v, fun j hj h1 h2 => by
  have hne : j ≠ g := by rcases hg with e | e <;> subst e <;> assumption
  rw [Below.heap_setCell w' ⟨g, o, none⟩ v j hne]
  exact h.2 j hj h1 h2⟩
end Go.Proofs.Ytdajgnchgealhaa
