/- Rows of beats and of lists that were appended; Go's remainder from 0 on. -/
import Derived.Test.YtijfmaepoamkgabRe
namespace Go.Proofs.Ytijfmaepoamkgab
open Go.ChangeShapes Go.WideShapes Go.ChangeAt Go.RowKit Go.Fl Go.Sort
attribute [local go_sem] run_store_float call18 run_neg fold_eq fold_ne fold_lt fold_gt abs_eq

def bL (p : Bt) : List Value := [.float .f64 p.c, .float .f64 p.v, .float .f64 p.r, .int .i64 p.E, .int .i64 p.R]
/-- The beats of a row, up to a number. -/
def bF (B : Nat → Bt) (n : Nat) : List Value := (List.range n).flatMap fun i => bL (B i)
theorem bF_len (B : Nat → Bt) : ∀ n, (bF B n).length = n * 5
  | 0 => rfl
  | n + 1 => by
    unfold bF
    rw [List.range_succ, List.flatMap_append, List.length_append]
    have := bF_len B n
    unfold bF at this
    rw [this]
    simp [bL]
    omega
theorem bF_next (B : Nat → Bt) (n : Nat) : bF B (n + 1) = bF B n ++ bL (B n) := by
  unfold bF
  rw [List.range_succ, List.flatMap_append]
  simp
theorem bF_at (B : Nat → Bt) : ∀ {n i k : Nat} (_ : i < n) (_ : k < 5), (bF B n)[i * 5 + k]? = (bL (B i))[k]?
  | n + 1, i, k, hi, hk => by
    rw [bF_next]
    by_cases e : i = n
    · subst e
      rw [List.getElem?_append_right (by rw [bF_len]; omega), bF_len]
      congr 1
      omega
    · rw [List.getElem?_append_left (by rw [bF_len]; omega)]
      exact bF_at B (by omega) hk
theorem bF_congr {B B' : Nat → Bt} {n : Nat} (h : ∀ i, i < n → B i = B' i) : bF B n = bF B' n := by
  unfold bF
  rw [List.flatMap_def, List.flatMap_def]
  congr 1
  apply List.map_congr_left
  intro i hi
  rw [h i (List.mem_range.1 hi)]
/-- A row of beats of one's own can be read. -/
theorem bv_of {b : Nat} {w : World} {p : Option Addr} {n cap : Nat} {B : Nat → Bt} (h : w.ownsRow b 38 5 (.slice p n cap) n (bF B n)) : BV w p n B := by
  intro i hi
  rcases h.2 with ⟨_, h1⟩ | ⟨g, cap', cur, e, h1, h2, h3, h4, h5, h6⟩
  · omega
  · simp only [Value.slice.injEq] at e
    obtain ⟨rfl, _, rfl⟩ := e
    refine ⟨g, 0, rfl, ?_⟩
    have c : ∀ k v, k < 5 → (bL (B i))[k]? = some v → w.cell? ⟨g, 0 + i * 5 + k, none⟩ = some v := fun k v hk hv => by
      rw [← bF_at B hi hk, ← h6, List.getElem?_take, if_pos (by omega)] at hv
      unfold World.cell?
      simp only [h2, Nat.zero_add]
      rw [Array.getElem?_toList] at hv
      simpa using hv
    exact ⟨c 0 _ (by omega) rfl, c 1 _ (by omega) rfl, c 2 _ (by omega) rfl, c 3 _ (by omega) rfl, c 4 _ (by omega) rfl⟩
theorem info24 : (Try.prog.info? 38).map (fun i => (i.zero, i.size, i.bytes)) = some (some (.agg #[.float .f64 0, .float .f64 0, .float .f64 0, .int .i64 0, .int .i64 0]), 5, 40) := by kernel_rfl
theorem info39 : (Try.prog.info? 36).map (fun i => (i.zero, i.size, i.bytes)) = some (some (.slice none 0 0), 1, 24) := by kernel_rfl
theorem beat_new (w : World) (p : Bt) (t : TypeId) : ∀ (j : Nat) (u : Value), (bL p)[j]? = some u → (w.alloc (.cells #[.float .f64 p.c, .float .f64 p.v, .float .f64 p.r, .int .i64 p.E, .int .i64 p.R] t)).cell? ((⟨w.heap.size, 0, none⟩ : Addr).add j) = some u := by
  intro j u hj
  have hl : j < 5 := by
    have := (List.getElem?_eq_some_iff.1 hj).1
    simpa [bL] using this
  rcases (show j = 0 ∨ j = 1 ∨ j = 2 ∨ j = 3 ∨ j = 4 by omega) with rfl | rfl | rfl | rfl | rfl <;>
    (simp [bL] at hj; subst hj; exact World.cell?_alloc_at _ _ _ _ rfl)
theorem beat_one (p : Bt) : ∀ u ∈ bL p, u.oneCell' = true := by
  intro u hu
  simp [bL] at hu
  rcases hu with rfl | rfl | rfl | rfl | rfl <;> rfl
/-- Lists that were appended to a list, each in memory of its own. -/
structure LL (w wr : World) (i : Nat) (v : Value) (C : Nat → List Int) (gf cf : Nat → Nat) : Prop where
  own : wr.ownsRow w.heap.size 36 1 v i ((List.range i).map fun j => .slice (some ⟨gf j, 0, none⟩) (C j).length (cf j))
  lt : ∀ j, j < i → w.heap.size ≤ gf j ∧ gf j < wr.heap.size
  apart : ∀ j, j < i → v.ownBlock ≠ some (gf j)
  rows : ∀ j, j < i → ∀ k, k < (C j).length → wr.cell? ⟨gf j, k, none⟩ = some (.int .i64 (C j)[k]!)
  tag : ∀ j, j < i → ∃ cs fr, wr.heap[gf j]? = some (.cells cs 2 fr)
theorem LL.nil (w wr : World) (C : Nat → List Int) : LL w wr 0 (.slice none 0 0) C (fun _ => 0) (fun _ => 0) := ⟨World.ownsRow_nil _ _ _ _, fun j hj => by omega, fun j hj => by omega, fun j hj => by omega, fun j hj => by omega⟩
theorem LL.up {w wr w2 : World} {i : Nat} {v : Value} {C : Nat → List Int} {gf cf : Nat → Nat} (h : LL w wr i v C gf cf) (hu : Up wr w2) : LL w w2 i v C gf cf := ⟨owns_up h.own hu, fun j hj => ⟨(h.lt j hj).1, Nat.lt_of_lt_of_le (h.lt j hj).2 hu.size⟩, h.apart, fun j hj k hk => cell_up (h.rows j hj k hk) hu, fun j hj => by
  obtain ⟨cs, fr, e⟩ := h.tag j hj
  exact ⟨cs, fr, (RowKit.Below.block hu _ (h.lt j hj).2).trans e⟩⟩
/-- Another row grows. -/
theorem LL.grown {w wr w2 : World} {i : Nat} {v : Value} {C : Nat → List Int} {gf cf : Nat → Nat} {row : Option Nat} (h : LL w wr i v C gf cf) (hg : wr.grownBy w2 row) (hv : ∀ g, row = some g → v.ownBlock ≠ some g) (hr : ∀ j, j < i → row ≠ some (gf j)) : LL w w2 i v C gf cf := by
  refine ⟨owns_grown h.own hg hv, fun j hj => ⟨(h.lt j hj).1, Nat.lt_of_lt_of_le (h.lt j hj).2 hg.size⟩, h.apart, fun j hj k hk => ?_, fun j hj => ?_⟩
  · exact World.grownBy.cell hg (h.rows j hj k hk) (fun e => hr j hj e.symm)
  · obtain ⟨cs, fr, e⟩ := h.tag j hj
    exact ⟨cs, fr, (hg.block (gf j) (h.lt j hj).2 (fun e => hr j hj e.symm)).trans e⟩
/-- One list more. -/
theorem LL.next {w wr wa w3 : World} {i g c : Nat} {v v' : Value} {C : Nat → List Int} {gf cf : Nat → Nat} (h : LL w wr i v C gf cf) (ha : Up wr wa) (hwg : w.heap.size ≤ g) (hgl : g < wr.heap.size) (hvg : v.ownBlock ≠ some g) (htag : ∃ cs fr, wr.heap[g]? = some (.cells cs 2 fr)) (hrow : ∀ k, k < (C i).length → wr.cell? ⟨g, k, none⟩ = some (.int .i64 (C i)[k]!)) (hown : w3.ownsRow w.heap.size 36 1 v' (i + 1) (((List.range i).map fun j => Value.slice (some ⟨gf j, 0, none⟩) (C j).length (cf j)) ++ [.slice (some ⟨g, 0, none⟩) (C i).length c])) (hg : wa.grownBy w3 v.ownBlock) (hat : v'.ownBlock = v.ownBlock ∨ v'.ownBlock = some wa.heap.size) : LL w w3 (i + 1) v' C (fun j => if j < i then gf j else g) (fun j => if j < i then cf j else c) := by
  have h2 := h.up ha
  have hsz := ha.size
  refine ⟨?_, fun j hj => ?_, fun j hj => ?_, fun j hj k hk => ?_, fun j hj => ?_⟩
  · have e : ((List.range (i + 1)).map fun j => Value.slice (some ⟨if j < i then gf j else g, 0, none⟩) (C j).length (if j < i then cf j else c)) = ((List.range i).map fun j => Value.slice (some ⟨gf j, 0, none⟩) (C j).length (cf j)) ++ [.slice (some ⟨g, 0, none⟩) (C i).length c] := by
      rw [List.range_succ, List.map_append]
      congr 1
      · refine List.map_congr_left fun j hj => ?_
        rw [List.mem_range] at hj
        rw [if_pos hj, if_pos hj]
      · simp
    rw [e]
    exact hown
  · by_cases e : j < i
    · simp only [if_pos e]
      exact ⟨(h2.lt j e).1, Nat.lt_of_lt_of_le (h2.lt j e).2 hg.size⟩
    · simp only [if_neg e]
      exact ⟨hwg, Nat.lt_of_lt_of_le (Nat.lt_of_lt_of_le hgl hsz) hg.size⟩
  · have hb : v.ownBlock ≠ some (if j < i then gf j else g) := by
      by_cases e : j < i
      · rw [if_pos e]; exact h.apart j e
      · rw [if_neg e]; exact hvg
    rcases hat with e | e
    · rw [e]; exact hb
    · rw [e]
      intro e2
      have e2 := Option.some.inj e2
      by_cases e3 : j < i
      · rw [if_pos e3] at e2
        have := (h2.lt j e3).2
        omega
      · rw [if_neg e3] at e2
        omega
  · by_cases e : j < i
    · simp only [if_pos e]
      exact World.grownBy.cell hg (h2.rows j e k hk) (fun e2 => h.apart j e e2.symm)
    · obtain rfl : j = i := by omega
      simp only [if_neg e]
      exact World.grownBy.cell hg (cell_up (hrow k hk) ha) (fun e2 => hvg e2.symm)
  · by_cases e : j < i
    · simp only [if_pos e]
      obtain ⟨cs, fr, e4⟩ := h2.tag j e
      exact ⟨cs, fr, (hg.block (gf j) (h2.lt j e).2 (fun e2 => h.apart j e e2.symm)).trans e4⟩
    · simp only [if_neg e]
      obtain ⟨cs, fr, e4⟩ := htag
      exact ⟨cs, fr, (hg.block g (by omega) (fun e2 => hvg e2.symm)).trans ((RowKit.Below.block ha _ hgl).trans e4)⟩
/-- A row of another kind is none of them. -/
theorem LL.kind {w wr : World} {i : Nat} {v u : Value} {C : Nat → List Int} {gf cf : Nat → Nat} {b s m : Nat} {t : TypeId} {xs : List Value} (h : LL w wr i v C gf cf) (hu : wr.ownsRow b t s u m xs) (ht : t ≠ 2) : ∀ j, j < i → u.ownBlock ≠ some (gf j) := by
  intro j hj e
  obtain ⟨cs, fr, e2⟩ := h.tag j hj
  rcases hu.2 with ⟨rfl, _⟩ | ⟨g, cap, cur, rfl, _, e3, _⟩
  · cases e
  · have e := Option.some.inj e
    simp only at e
    rw [e] at e3
    rw [e2] at e3
    simp only [Option.some.injEq, Obj.cells.injEq] at e3
    exact ht e3.2.1.symm
theorem LL.cv {w wr : World} {n cap : Nat} {p : Option Addr} {C : Nat → List Int} {gf cf : Nat → Nat} (h : LL w wr n (.slice p n cap) C gf cf) : CV wr p n C := by
  intro i hi
  obtain ⟨p', cap', e1, e2⟩ := own_form h.own
  obtain ⟨g, hg⟩ := e2 (by omega)
  simp only [Value.slice.injEq] at e1
  obtain ⟨rfl, _, rfl⟩ := e1
  subst hg
  refine ⟨g, 0, some ⟨gf i, 0, none⟩, cf i, rfl, ?_, fun k hk => ⟨gf i, 0, rfl, by rw [Nat.zero_add]; exact h.rows i hi k hk⟩⟩
  rw [Nat.zero_add]
  have := World.ownsRow.cellAt h.own i (by omega)
  rw [this, List.getElem?_map, List.getElem?_range hi]
  rfl
end Go.Proofs.Ytijfmaepoamkgab
