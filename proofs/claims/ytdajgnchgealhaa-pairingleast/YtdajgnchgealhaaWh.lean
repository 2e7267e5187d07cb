/- The law's try: what it keeps. -/
import Derived.Test.YtdajgnchgealhaaWg
import Derived.ArgAppend
namespace Go.Proofs.Ytdajgnchgealhaa
open Go.ChangeShapes Go.WideShapes Go.ChangeAt Go.RowKit

/-- The blocks of a 'Best'. -/
structure BL where
  s : Nat
  u : Nat
  m : Nat
/-- A 'Best' in memory. -/
structure BS (w0 w : World) (p : Option Addr) (cap N M : Nat) (T : Nat → Nat → Int) (L : BL) (us : Nat → Bool) (mt : Nat → Int) (fd : Bool) (f : Nat → Int) : Prop where
  lo : w0.heap.size ≤ L.s ∧ w0.heap.size ≤ L.u ∧ w0.heap.size ≤ L.m
  ne : L.s ≠ L.u ∧ L.s ≠ L.m ∧ L.u ≠ L.m
  c0 : w.cell? ⟨L.s, 0, none⟩ = some (.slice p N cap)
  c1 : w.cell? ⟨L.s, 1, none⟩ = some (.slice (some ⟨L.u, 0, none⟩) M M)
  c2 : w.cell? ⟨L.s, 2, none⟩ = some (.slice (some ⟨L.m, 0, none⟩) N N)
  c3 : w.cell? ⟨L.s, 3, none⟩ = some (.bool fd)
  c4 : ∃ x : Int, w.cell? ⟨L.s, 4, none⟩ = some (.int .i64 x) ∧ (fd = true → x = cnt N f)
  c5 : ∃ x : Int, w.cell? ⟨L.s, 5, none⟩ = some (.int .i64 x) ∧ (fd = true → x = tot N T f)
  c6 : ∃ (q : Option Addr) (l c : Nat), w.cell? ⟨L.s, 6, none⟩ = some (.slice q l c) ∧ (fd = true → ∃ g, q = some ⟨g, 0, none⟩ ∧ l = N ∧ g ≠ L.s ∧ g ≠ L.u ∧ g ≠ L.m ∧ ∀ i, i < N → w.cell? ⟨g, i, none⟩ = some (.int .i64 (f i)))
  u : ∀ j, j < M → w.cell? ⟨L.u, j, none⟩ = some (.bool (us j))
  m : ∀ i, i < N → w.cell? ⟨L.m, i, none⟩ = some (.int .i64 (mt i))
  fz : ∀ k, w.frozen? ⟨L.s, k, none⟩ = false ∧ w.frozen? ⟨L.u, k, none⟩ = false ∧ w.frozen? ⟨L.m, k, none⟩ = false
  ul : L.u < w.heap.size
  up : Up w0 w
theorem BS.drewN {w0 w : World} {p : Option Addr} {cap N M : Nat} {T : Nat → Nat → Int} {L : BL} {us : Nat → Bool} {mt : Nat → Int} {fd : Bool} {f : Nat → Int} (h : BS w0 w p cap N M T L us mt fd f) (q : Nat) : BS w0 (w.drewN q) p cap N M T L us mt fd f := ⟨h.lo, h.ne, h.c0, h.c1, h.c2, h.c3, h.c4, h.c5, h.c6, h.u, h.m, h.fz, h.ul, below_drewN h.up q⟩
def updB (f : Nat → Bool) (k : Nat) (x : Bool) : Nat → Bool := fun i => if i = k then x else f i
theorem BS.setu {w0 w : World} {p : Option Addr} {cap N M : Nat} {T : Nat → Nat → Int} {L : BL} {us : Nat → Bool} {mt : Nat → Int} {fd : Bool} {f : Nat → Int} (h : BS w0 w p cap N M T L us mt fd f) {j : Nat} (hj : j < M) (b : Bool) : BS w0 (w.setCell ⟨L.u, j, none⟩ (.bool b)) p cap N M T L (updB us j b) mt fd f := by
  obtain ⟨n1, n2, n3⟩ := h.ne
  obtain ⟨x4, a4, b4⟩ := h.c4
  obtain ⟨x5, a5, b5⟩ := h.c5
  obtain ⟨q, l, c, a6, b6⟩ := h.c6
  refine ⟨h.lo, h.ne, cell_other h.c0 (Or.inl n1), cell_other h.c1 (Or.inl n1), cell_other h.c2 (Or.inl n1), cell_other h.c3 (Or.inl n1), ⟨x4, cell_other a4 (Or.inl n1), b4⟩, ⟨x5, cell_other a5 (Or.inl n1), b5⟩, ⟨q, l, c, cell_other a6 (Or.inl n1), fun e => ?_⟩, fun i hi => ?_, fun i hi => cell_other (h.m i hi) (Or.inl n3.symm), fun k => by rw [World.frozen?_setCell, World.frozen?_setCell, World.frozen?_setCell]; exact h.fz k, by rw [World.size_setCell]; exact h.ul, Below.setCell h.up h.lo.2.1 _⟩
  · obtain ⟨g, e1, e2, e3, e4, e5, e6⟩ := b6 e
    exact ⟨g, e1, e2, e3, e4, e5, fun i hi => cell_other (e6 i hi) (Or.inl e4)⟩
  · show _ = some (Value.bool (if i = j then b else us i))
    by_cases e : i = j
    · subst e; rw [if_pos rfl]; exact World.cell?_setCell_same _ _ _ (h.u i hi)
    · rw [if_neg e]; exact cell_other (h.u i hi) (Or.inr e)
theorem BS.setm {w0 w : World} {p : Option Addr} {cap N M : Nat} {T : Nat → Nat → Int} {L : BL} {us : Nat → Bool} {mt : Nat → Int} {fd : Bool} {f : Nat → Int} (h : BS w0 w p cap N M T L us mt fd f) {i0 : Nat} (hi0 : i0 < N) (x : Int) : BS w0 (w.setCell ⟨L.m, i0, none⟩ (.int .i64 x)) p cap N M T L us (upd mt i0 x) fd f := by
  obtain ⟨n1, n2, n3⟩ := h.ne
  obtain ⟨x4, a4, b4⟩ := h.c4
  obtain ⟨x5, a5, b5⟩ := h.c5
  obtain ⟨q, l, c, a6, b6⟩ := h.c6
  refine ⟨h.lo, h.ne, cell_other h.c0 (Or.inl n2), cell_other h.c1 (Or.inl n2), cell_other h.c2 (Or.inl n2), cell_other h.c3 (Or.inl n2), ⟨x4, cell_other a4 (Or.inl n2), b4⟩, ⟨x5, cell_other a5 (Or.inl n2), b5⟩, ⟨q, l, c, cell_other a6 (Or.inl n2), fun e => ?_⟩, fun i hi => cell_other (h.u i hi) (Or.inl n3), fun i hi => ?_, fun k => by rw [World.frozen?_setCell, World.frozen?_setCell, World.frozen?_setCell]; exact h.fz k, by rw [World.size_setCell]; exact h.ul, Below.setCell h.up h.lo.2.2 _⟩
  · obtain ⟨g, e1, e2, e3, e4, e5, e6⟩ := b6 e
    exact ⟨g, e1, e2, e3, e4, e5, fun i hi => cell_other (e6 i hi) (Or.inl e5)⟩
  · by_cases e : i = i0
    · subst e; rw [upd_at]; exact World.cell?_setCell_same _ _ _ (h.m i hi)
    · rw [upd_ne _ _ e]; exact cell_other (h.m i hi) (Or.inr e)
/-- A better one is kept. -/
theorem BS.found {w0 w w4 : World} {p : Option Addr} {cap N M : Nat} {T : Nat → Nat → Int} {L : BL} {us : Nat → Bool} {mt : Nat → Int} {fd : Bool} {f : Nat → Int} (h : BS w0 w p cap N M T L us mt fd f) (hN : 0 < N) {v : Value} {b : Nat} (hb : b = w.heap.size)
    (hown : w4.ownsRow b 3 1 v N ((List.range N).map fun i => Value.int .i64 (mt i))) (hgr : (((w.setCell ⟨L.s, 3, none⟩ (.bool true)).setCell ⟨L.s, 4, none⟩ (.int .i64 (cnt N mt))).setCell ⟨L.s, 5, none⟩ (.int .i64 (tot N T mt))).grownBy w4 none) : BS w0 (w4.setCell ⟨L.s, 6, none⟩ v) p cap N M T L us mt true mt := by
  obtain ⟨n1, n2, n3⟩ := h.ne
  obtain ⟨x4, a4, b4⟩ := h.c4
  obtain ⟨x5, a5, b5⟩ := h.c5
  obtain ⟨q, l, c, a6, b6⟩ := h.c6
  have hup : Up w0 (((w.setCell ⟨L.s, 3, none⟩ (.bool true)).setCell ⟨L.s, 4, none⟩ (.int .i64 (cnt N mt))).setCell ⟨L.s, 5, none⟩ (.int .i64 (tot N T mt))) := Below.setCell (Below.setCell (Below.setCell h.up h.lo.1 _) h.lo.1 _) h.lo.1 _
  have hsz : (((w.setCell ⟨L.s, 3, none⟩ (.bool true)).setCell ⟨L.s, 4, none⟩ (.int .i64 (cnt N mt))).setCell ⟨L.s, 5, none⟩ (.int .i64 (tot N T mt))).heap.size = w.heap.size := by rw [World.size_setCell, World.size_setCell, World.size_setCell]
  have far : ∀ (a : Addr) (y : Value), w.cell? a = some y → (a.block ≠ L.s ∨ (a.off ≠ 3 ∧ a.off ≠ 4 ∧ a.off ≠ 5 ∧ a.off ≠ 6)) → (w4.setCell ⟨L.s, 6, none⟩ v).cell? a = some y := fun a y hy hor => by
    have h1 : ∀ k : Nat, (k = 3 ∨ k = 4 ∨ k = 5 ∨ k = 6) → a.block ≠ L.s ∨ a.off ≠ k := fun k hk => by
      rcases hor with e | ⟨e3, e4, e5, e6⟩
      · exact Or.inl e
      · exact Or.inr (by omega)
    exact cell_other (hgr.cell (cell_other (cell_other (cell_other hy (h1 3 (by omega))) (h1 4 (by omega))) (h1 5 (by omega))) (by simp)) (h1 6 (by omega))
  have sl : L.s < w.heap.size := World.block_lt_of_cell? w _ h.c0
  have ml : L.m < w.heap.size := World.block_lt_of_cell? w _ (h.m 0 hN)
  have hfz : ∀ g k, g < w.heap.size → w.frozen? ⟨g, k, none⟩ = false → (w4.setCell ⟨L.s, 6, none⟩ v).frozen? ⟨g, k, none⟩ = false := fun g k hg hf => by
    rw [World.frozen?_setCell, World.frozen?_of_block (hgr.block g (by rw [hsz]; exact hg) (by simp)), World.frozen?_setCell, World.frozen?_setCell, World.frozen?_setCell]
    exact hf
  have k3 : (w.setCell ⟨L.s, 3, none⟩ (.bool true)).cell? ⟨L.s, 3, none⟩ = some (.bool true) := World.cell?_setCell_same _ _ _ h.c3
  have k4 : ((w.setCell ⟨L.s, 3, none⟩ (.bool true)).setCell ⟨L.s, 4, none⟩ (.int .i64 (cnt N mt))).cell? ⟨L.s, 4, none⟩ = some (.int .i64 (cnt N mt)) := World.cell?_setCell_same _ _ _ (cell_other a4 (Or.inr (by simp)))
  have k5 : (((w.setCell ⟨L.s, 3, none⟩ (.bool true)).setCell ⟨L.s, 4, none⟩ (.int .i64 (cnt N mt))).setCell ⟨L.s, 5, none⟩ (.int .i64 (tot N T mt))).cell? ⟨L.s, 5, none⟩ = some (.int .i64 (tot N T mt)) := World.cell?_setCell_same _ _ _ (cell_other (cell_other a5 (Or.inr (by simp))) (Or.inr (by simp)))
  have k6 := hgr.cell (cell_other (cell_other (cell_other a6 (Or.inr (by omega : (6 : Nat) ≠ 3)) (y := .bool true) (a' := ⟨L.s, 3, none⟩)) (Or.inr (by omega : (6 : Nat) ≠ 4)) (y := .int .i64 (cnt N mt)) (a' := ⟨L.s, 4, none⟩)) (Or.inr (by omega : (6 : Nat) ≠ 5)) (y := .int .i64 (tot N T mt)) (a' := ⟨L.s, 5, none⟩)) (by simp)
  obtain ⟨g, hv, hg⟩ : ∃ g, (∃ c', v = .slice (some ⟨g, 0, none⟩) N c') ∧ b ≤ g := by
    rcases hown.2 with ⟨_, e⟩ | ⟨g, cap', cur, e, e2, _⟩
    · omega
    · exact ⟨g, ⟨cap', e⟩, e2⟩
  obtain ⟨c', rfl⟩ := hv
  have gne : g ≠ L.s ∧ g ≠ L.m := ⟨by omega, by omega⟩
  refine ⟨h.lo, h.ne, far _ _ h.c0 (Or.inr (by simp)), far _ _ h.c1 (Or.inr (by simp)), far _ _ h.c2 (Or.inr (by simp)), ?_, ⟨_, ?_, fun _ => rfl⟩, ⟨_, ?_, fun _ => rfl⟩, ⟨some ⟨g, 0, none⟩, N, c', World.cell?_setCell_same _ _ _ k6, fun _ => ⟨g, rfl, rfl, gne.1, ?_, gne.2, fun i hi => ?_⟩⟩, fun j hj => far _ _ (h.u j hj) (Or.inl n1.symm), fun i hi => far _ _ (h.m i hi) (Or.inl n2.symm), fun k => ⟨hfz _ _ sl (h.fz k).1, hfz _ _ h.ul (h.fz k).2.1, hfz _ _ ml (h.fz k).2.2⟩, by rw [World.size_setCell]; have := hgr.size; rw [hsz] at this; have := h.ul; omega, Below.setCell (RowKit.Below.grown hup hgr (by rw [hsz]; exact h.up.size) (fun j hj => by cases hj)) h.lo.1 _⟩
  · exact cell_other (hgr.cell (cell_other (cell_other k3 (Or.inr (by simp))) (Or.inr (by simp))) (by simp)) (Or.inr (by simp))
  · exact cell_other (hgr.cell (cell_other k4 (Or.inr (by simp))) (by simp)) (Or.inr (by simp))
  · exact cell_other (hgr.cell k5 (by simp)) (Or.inr (by simp))
  · have := h.ul; omega
  · refine cell_other ?_ (Or.inl gne.1)
    rw [World.ownsRow.cellAt hown i (by omega)]
    simp [hi]
end Go.Proofs.Ytdajgnchgealhaa
