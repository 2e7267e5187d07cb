/- What was there is kept; slices of floats; rows of one's own. -/
import Derived.Test.YtijfmaepoamkgabT
import Derived.Deep.WholeRow
import Derived.Laws.CopyOwn
import Derived.Laws.Cover3
namespace Go.Proofs.Ytijfmaepoamkgab
open Go.ChangeShapes Go.WideShapes Go.ChangeAt Go.RowKit Go.Fl Go.Sort
attribute [local go_sem] run_store_float call18 run_neg fold_eq fold_ne fold_lt fold_gt abs_eq

/-- Of what was there nothing has turned. -/
def Up (w w' : World) : Prop := RowKit.Below w.heap.size w w'
theorem Up.refl (w : World) : Up w w := Below.refl _ _
theorem Up.trans {a b c : World} (h : Up a b) (k : Up b c) : Up a c := RowKit.Below.trans h (RowKit.Below.mono k (RowKit.Below.size h))
theorem Up.drewN (w : World) (n : Nat) : Up w (w.drewN n) := below_drewN (Below.refl _ _) n
theorem Up.alloc (w : World) (o : Obj) : Up w (w.alloc o) := (Below.refl _ _).alloc (Nat.le_refl _) _
theorem Up.putRow {w w1 : World} (h : Up w w1) {g : Nat} (hg : w.heap.size ≤ g) (off : Nat) (d : Array Nat) : Up w (Sort.putRow fe w1 g off d) := by
  have hb : ∀ k, k ≠ g → (Sort.putRow fe w1 g off d).heap[k]? = w1.heap[k]? := fun k hk => by
    simp only [Sort.putRow, mapBlock, Array.getElem?_modify, if_neg (Ne.symm hk)]
  have h' : RowKit.Below w.heap.size w w1 := h
  exact ⟨(h'.os : w1.os = w.os), (h'.tape : w1.tape = w.tape), (h'.output : w1.output = w.output), by rw [size_putRow]; exact RowKit.Below.size h, fun k hk => by rw [hb k (by omega)]; exact RowKit.Below.block h k hk⟩

/-- The cells of a slice hold these floats. -/
def Reads (w : World) (blk off : Nat) (d : Array Nat) : Prop := ∀ j, j < d.size → w.cell? ⟨blk, off + j, none⟩ = some (fe d[j]!)
theorem Reads.lt {w : World} {blk off : Nat} {d : Array Nat} (h : Reads w blk off d) (hp : 0 < d.size) : blk < w.heap.size := by
  obtain ⟨c, e, fr, hb, _⟩ := cells_of_cell? (h 0 hp)
  exact (Array.getElem?_eq_some_iff.1 hb).1
theorem Reads.up {w w' : World} {blk off : Nat} {d : Array Nat} (h : Reads w blk off d) (hu : Up w w') : Reads w' blk off d := fun j hj => by
  rw [RowKit.Below.cell hu (h.lt (by omega))]; exact h j hj
theorem info23 : (Try.prog.info? 23).map (fun i => (i.zero, i.size, i.bytes)) = some (some (.float .f64 0), 1, 8) := by kernel_rfl
/-- A row of one's own: its cells can be written. -/
def Own (b : Nat) (w : World) (v : Value) (d : Array Nat) : Prop := ∃ g cap, v = .slice (some ⟨g, 0, none⟩) d.size cap ∧ b ≤ g ∧ (g < w.heap.size ∧ d.size ≤ cap) ∧ Holds fe w g 0 d
theorem own_of {b : Nat} {w : World} {v : Value} {d : Array Nat} (hp : 0 < d.size) (h : w.ownsRow b 23 1 v d.size (d.toList.map fe)) : Own b w v d := by
  obtain ⟨_, h⟩ := h
  rcases h with ⟨_, h0⟩ | ⟨g, cap, cur, rfl, hg, hc, hle, _, hs, ht⟩
  · omega
  · refine ⟨g, cap, rfl, hg, ⟨(Array.getElem?_eq_some_iff.1 hc).1, hle⟩, fun j hj => ?_⟩
    have e : cur[j]? = some (fe d[j]!) := by
      have := congrArg (fun l => l[j]?) ht
      simp only [List.getElem?_take] at this
      rw [if_pos (by omega)] at this
      rw [← Array.getElem?_toList, this]
      simp [getElem!_pos d j hj, Array.getElem?_eq_getElem hj]
    constructor
    · rw [cell_of_row _ _ _ _ _ _ hc, Nat.zero_add, e]
    · simp [World.frozen?, hc]
theorem reads_news {w : World} {blk off : Nat} {d : Array Nat} (h : Reads w blk off d) : ∀ j u, (d.toList.map fe)[j]? = some u → w.cell? ((⟨blk, off, none⟩ : Addr).add j) = some u := by
  intro j u hj
  rw [List.getElem?_map, Option.map_eq_some_iff] at hj
  obtain ⟨x, hx, rfl⟩ := hj
  rw [Array.getElem?_toList, Array.getElem?_eq_some_iff] at hx
  obtain ⟨hl, hx⟩ := hx
  have := h j hl
  rw [getElem!_pos d j hl, hx] at this
  rw [← this]
  unfold Addr.add
  split
  · rename_i h0; rw [h0]; rfl
  · rfl
theorem one_cells (l : List Nat) : ∀ u ∈ l.map fe, u.oneCell' = true := by
  intro u hu
  obtain ⟨x, _, rfl⟩ := List.mem_map.1 hu
  rfl

theorem own_empty (w : World) : (w.alloc (.cells #[] 23)).ownsRow w.heap.size 23 1 (.slice (some ⟨w.heap.size, 0, none⟩) 0 0) 0 [] :=
  ⟨by simp, .inr ⟨w.heap.size, 0, #[], rfl, Nat.le_refl _, heap_alloc_last _ _, Nat.le_refl _, Nat.zero_le _, rfl, rfl⟩⟩
theorem reads_sub {w : World} {blk off : Nat} {d : Array Nat} (h : Reads w blk off d) (a b : Nat) (hb : b ≤ d.size) : Reads w blk (off + a) (d.extract a b) := by
  intro j hj
  have hj' : j < b - a := by simpa [Nat.min_eq_left hb] using hj
  have := h (a + j) (by omega)
  rw [show off + a + j = off + (a + j) by omega, this, getElem!_pos _ j hj, getElem!_pos d (a + j) (by omega)]
  simp
theorem fit_sub {d : Array Nat} (h : Fit d) (a b : Nat) (hb : b ≤ d.size) : Fit (d.extract a b) := by
  intro j hj
  have hj' : j < b - a := by simpa [Nat.min_eq_left hb] using hj
  have := h (a + j) (by omega)
  rw [getElem!_pos d (a + j) (by omega)] at this
  rw [getElem!_pos _ j hj]
  simpa using this
theorem fit_perm {d d' : Array Nat} (h : Fit d) (hp : d'.toList.Perm d.toList) : Fit d' := by
  intro j hj
  rw [getElem!_pos d' j hj]
  have hm : d'[j] ∈ d.toList := hp.mem_iff.1 (by simp)
  obtain ⟨i, hi, e⟩ := List.mem_iff_getElem.1 hm
  have hi' : i < d.size := by simpa using hi
  have := h i hi'
  rw [getElem!_pos d i hi'] at this
  rw [← e]
  simpa using this
theorem own_reads {b : Nat} {w : World} {v : Value} {d : Array Nat} (h : Own b w v d) : ∃ g cap, v = .slice (some ⟨g, 0, none⟩) d.size cap ∧ b ≤ g ∧ d.size ≤ cap ∧ Reads w g 0 d := by
  obtain ⟨g, cap, hv, hb, hl, hH⟩ := h
  exact ⟨g, cap, hv, hb, hl.2, fun j hj => (hH j hj).1⟩

theorem own_list {b : Nat} {w : World} {v : Value} {l : List Nat} (hp : 0 < l.length) (h : w.ownsRow b 23 1 v l.length (l.map fe)) : Own b w v l.toArray :=
  own_of (by simpa using hp) (by simpa using h)

end Go.Proofs.Ytijfmaepoamkgab
