/- Rows of samples: the program's, the reference's. -/
import Derived.Test.YtcocliilapeelaaR
import Derived.OwnWalk
import Derived.Laws.Rows
namespace Go.Proofs.Ytcocliilapeelaa
open Go.ChangeShapes Go.WideShapes Go.ChangeAt Go.RowKit Go.Fl Ieee
attribute [local go_sem] run_store_float run_store_complex call38 call37 run_neg fold_eq fold_ne fold_lt fold_gt abs_eq

theorem info40 : (Try.prog.info? 40).map (fun i => (i.zero, i.size, i.bytes)) = some (some (.complex .f64 0 0), 1, 16) := by kernel_rfl
def rowF (s : Int) (x n : Nat) : List (Option Nat × Option Nat) := (List.range n).map fun i => pairF (it s (24 * i)) x
theorem But.over {b g : Nat} {w w1 w2 : World} (h : But b w w1) (k : But g w1 w2) (hg : w.heap.size ≤ g) : But b w w2 := by
  obtain ⟨h1, h2, h3, h4, h5⟩ := h
  obtain ⟨k1, k2, k3, k4, k5⟩ := k
  exact ⟨k1.trans h1, k2.trans h2, k3.trans h3, Nat.le_trans h4 k4, fun j hj hn => (k5 j (Nat.lt_of_lt_of_le hj h4) (fun e => by cases e; omega)).trans (h5 j hj hn)⟩
/-- The way back with a struct of two floats that lies in memory. -/
theorem ret2 {fn : Func} {p : Tmp} (hres : fn.results = #[.cell p 53]) {W : World} {R : Ending → World → Prop} {g : Nat} {tmps : Array Value} {r i : Nat} {u v : Value} (hp : tmps.getD p undef = .pointer (some ⟨g, 0, none⟩))
    (hk : W.heap[g]? = some (.cells #[u, v] 53 (0, 0))) (hR : R (.returned (.agg #[.float .f64 r, .float .f64 i])) ((W.setCell ⟨g, 0, none⟩ (.float .f64 r)).setCell ⟨g, 1, none⟩ (.float .f64 i))) :
    bodyPost Try.prog fn R .ret ⟨tmps, []⟩ ((W.setCell ⟨g, 0, none⟩ (.float .f64 r)).setCell ⟨g, 1, none⟩ (.float .f64 i)) := by
  have e1 := setCell_eq_setRow W g 0 #[u, v] 53 (0, 0) (.float .f64 r) hk
  have g1 := setRow_heap W g #[u, v] #[.float .f64 r, v] 53 (0, 0) hk
  have e2 := setCell_eq_setRow _ g 1 #[.float .f64 r, v] 53 (0, 0) (.float .f64 i) g1
  have g2 := setRow_heap _ g #[.float .f64 r, v] #[.float .f64 r, .float .f64 i] 53 (0, 0) g1
  refine bodyPost_ret (results_cell_row hres _ _ g 53 #[.float .f64 r, .float .f64 i] (0, 0) _ hp ?_ Try.underlying53 rfl (by kernel_rfl)) rfl hR
  rw [e1]
  show ((W.setRow g #[.float .f64 r, v]).setCell ⟨g, 1, none⟩ (.float .f64 i)).heap[g]? = _
  rw [e2]
  exact g2
theorem But.set2 (g : Nat) (W : World) (u v : Value) : But g W ((W.setCell ⟨g, 0, none⟩ u).setCell ⟨g, 1, none⟩ v) := by
  have a : ∀ (w : World) (k : Nat) (u : Value), But g w (w.setCell ⟨g, k, none⟩ u) := fun w k u => ⟨rfl, rfl, rfl, by simp, fun j _ hj => heap_setCell_other w ⟨g, k, none⟩ j u (fun e => hj (by rw [e]))⟩
  exact (a W 0 u).trans (a _ 1 v)
/-- The reference's Pair, its struct's place laid. -/
structure PW (w W : World) (b : Nat) (s : Int) : Prop where
  sc : SC W b s
  but : But b w W
  row : W.heap[w.heap.size]? = some (.cells #[.float .f64 0, .float .f64 0] 53 (0, 0))
  lt : b < w.heap.size
theorem PW.new {w : World} {b : Nat} {s : Int} (h : SC w b s) : PW w (w.alloc (.cells #[.float .f64 0, .float .f64 0] 53)) b s :=
  ⟨h.up (Up.alloc _ _), But.of_up (Up.alloc _ _), heap_alloc_last _ _, h.lt⟩
theorem PW.step {w W W' : World} {b : Nat} {s s' : Int} (h : PW w W b s) (hs : SC W' b s') (hb : But b W W') : PW w W' b s' := by
  refine ⟨hs, h.but.trans hb, ?_, h.lt⟩
  have hl : w.heap.size < W.heap.size := by
    have := h.row
    rcases Nat.lt_or_ge w.heap.size W.heap.size with h1 | h1
    · exact h1
    · rw [Array.getElem?_eq_none h1] at this; cases this
  exact (hb.block _ hl (fun e => by have := h.lt; cases e; omega)).trans h.row
theorem PW.cells {w W : World} {b : Nat} {s : Int} (h : PW w W b s) : W.cell? ⟨w.heap.size, 0, none⟩ = some (.float .f64 0) ∧ W.cell? ⟨w.heap.size, 1, none⟩ = some (.float .f64 0) ∧ W.frozen? ⟨w.heap.size, 0, none⟩ = false ∧ W.frozen? ⟨w.heap.size, 1, none⟩ = false := by
  have hh := h.row
  refine ⟨by rw [cell_of_row _ _ _ _ _ _ hh]; rfl, by rw [cell_of_row _ _ _ _ _ _ hh]; rfl, frozen_of_row _ _ _ _ _ hh, frozen_of_row _ _ _ _ _ hh⟩
set_option maxHeartbeats 1000000 in
theorem t29 {b : Nat} {s : Int} {w : World} (h : SC w b s) (x : Nat) : Calls Try.prog 29 #[.pointer (some ⟨b, 0, none⟩), .float .f64 x] w (NQ w b (it s 24) (pairF s x)) := by
  have HP : Hid (PW w (w.alloc (.cells #[.float .f64 0, .float .f64 0] 53)) b s) := PW.new h
  clear h
  go_enter Try.func29, Try.ntmps29
  go_wp2_with (first
    | (go_at_call 26; (with_reducible refine (t26 HP.out.sc).mono ?_); rintro e w1 ⟨r1, rfl, hr1, h1, hb1⟩; have HP1 : Hid (PW w w1 b (it s 12)) := HP.out.step h1.out hb1.out; clear HP h1 hb1)
    | (go_at_call 26; (with_reducible refine (t26 HP1.out.sc).mono ?_); rintro e w2 ⟨r2, rfl, hr2, h2, hb2⟩; have HP2 : Hid (PW w w2 b (it (it s 12) 12)) := HP1.out.step h2.out hb2.out; clear HP1 h2 hb2; obtain ⟨c0, c1, f0, f1⟩ := HP2.out.cells)
    | ((with_reducible refine upon_fl (by simp) ?_); intro r n hr))
  refine ret2 rfl rfl (by exact HP2.out.row) ?_
  refine ⟨_, _, rfl, ?_, ?_, ?_⟩
  · show (_, _) = pairF s x
    simp_all [Hid, pairF]
  · rw [show it s 24 = it (it s 12) 12 from (it_add s 12 12).symm]
    exact (HP2.out.sc.up (Up.drewN w2 _)).but (But.set2 w.heap.size _ _ _) (Nat.ne_of_lt HP2.out.lt)
  · exact (HP2.out.but.trans (But.drewN _ _ _)).over (But.set2 w.heap.size _ _ _) (Nat.le_refl _)
theorem t29n (x : Nat) (w : World) : Calls Try.prog 29 #[.pointer none, .float .f64 x] w fun e w' => e = .returned (.agg #[.float .f64 0, .float .f64 0]) ∧ Hid (Up w w') := by
  go_enter Try.func29, Try.ntmps29
  go_wp2
  exact bodyPost_ret (results_cell_row rfl _ _ w.heap.size 53 #[.float .f64 0, .float .f64 0] (0, 0) _ rfl (heap_alloc_last _ _) Try.underlying53 rfl (by kernel_rfl)) rfl ⟨rfl, Up.alloc _ _⟩
/-- A row that is being filled by a source. -/
structure RF (w W : World) (b : Nat) (s : Int) (x g n k k' : Nat) : Prop where
  row : ∃ d : List (Nat × Nat), d.length = n ∧ CRow w.heap.size W (.slice (some ⟨g, 0, none⟩) n n) d ∧ ∀ j, j < k → ab2 d[j]! = pairF (it s (24 * j)) x
  sc : SC W b (it s (24 * k'))
  but : But b w W
  lt : b < w.heap.size
theorem RF.new {w W : World} {b : Nat} {s : Int} (x : Nat) {n : Nat} (h : W.ownsRow w.heap.size 40 1 (.slice (some ⟨w.heap.size, 0, none⟩) n n) n (madeCells (Value.complex .f64 0 0).cells (n * 1)).toList) (hg : w.grownBy W none) (hs : SC w b s) : RF w W b s x w.heap.size n 0 0 := by
  have hu : Up w W := Below.grown (Below.refl _ _) hg (Nat.le_refl _) (fun j hj => by cases hj)
  refine ⟨⟨List.replicate n (0, 0), by simp, ?_, fun j hj => by omega⟩, hs.up hu, But.of_up hu, hs.lt⟩
  unfold CRow
  have e : (madeCells (Value.complex .f64 0 0).cells (n * 1)).toList = List.replicate n (.complex .f64 0 0) := by
    rw [Nat.mul_one]; exact toList_madeCells_one _ _
  rw [e] at h
  simpa [ce] using h
theorem RF.gl {w W : World} {b : Nat} {s : Int} {x g n k k' : Nat} (h : RF w W b s x g n k k') : w.heap.size ≤ g := by
  obtain ⟨d, _, h2, _⟩ := h.row
  exact (World.ownsRow.lt h2 g rfl).1
theorem RF.took {w W W' : World} {b : Nat} {s : Int} {x g n k : Nat} (h : RF w W b s x g n k k) (hs : SC W' b (it (it s (24 * k)) 24)) (hb : But b W W') : RF w W' b s x g n k (k + 1) := by
  have hg := h.gl
  obtain ⟨d, h1, h2, h3⟩ := h.row
  refine ⟨⟨d, h1, ?_, h3⟩, ?_, h.but.trans hb, h.lt⟩
  · exact World.ownsRow.kept h2 hb (Or.inr (fun e => by have := h.lt; simp [Value.ownBlock] at e; omega))
  · rw [it_add] at hs
    exact hs
theorem RF.cell {w W : World} {b : Nat} {s : Int} {x g n k k' : Nat} (h : RF w W b s x g n k k') {i : Nat} (hi : i < n) : (∃ x y, W.cell? ⟨g, i, none⟩ = some (.complex .f64 x y)) ∧ W.frozen? ⟨g, i, none⟩ = false := by
  obtain ⟨d, rfl, h2, h3⟩ := h.row
  exact ⟨⟨_, _, h2.cell hi⟩, World.ownsRow.frozenAt h2 i⟩
theorem RF.stored {w W : World} {b : Nat} {s : Int} {x g n k u v : Nat} (h : RF w W b s x g n k (k + 1)) (hk : k < n) (hr : ab2 (u, v) = pairF (it s (24 * k)) x) : RF w (W.setCell ⟨g, k, none⟩ (.complex .f64 u v)) b s x g n (k + 1) (k + 1) := by
  have hg := h.gl
  obtain ⟨d, rfl, h2, h3⟩ := h.row
  obtain ⟨s1, s2⟩ := World.ownsRow.stored h2 k (.complex .f64 u v)
  refine ⟨⟨d.set k (u, v), by simp, ?_, ?_⟩, h.sc.but s2 (by have := h.lt; omega), h.but.over s2 hg, h.lt⟩
  · unfold CRow
    rw [List.length_set, List.map_set]
    exact s1
  · intro j hj
    rw [getElem!_pos _ j (by simp; omega), List.getElem_set]
    split
    · rename_i e; subst e; exact hr
    · rw [← getElem!_pos d j (by omega)]; exact h3 j (by omega)
/-- What Row leaves. -/
def RC (w : World) (b : Nat) (s : Int) (x n : Nat) (e : Ending) (W : World) : Prop := ∃ v d, e = .returned v ∧ Hid (CRow w.heap.size W v d) ∧ Hid (SC W b (it s (24 * n))) ∧ Hid (But b w W) ∧ Hid (d.map ab2 = rowF s x n)
def RS (w : World) (b : Nat) (s : Int) (x n : Nat) (e : Ending) (W : World) : Prop := ∃ v d, e = .returned v ∧ Hid (SRow w.heap.size W v d) ∧ Hid (SC W b (it s (24 * n))) ∧ Hid (But b w W) ∧ Hid (d.map ab2 = rowF s x n)
theorem rows_of {d : List (Nat × Nat)} {s : Int} {x : Nat} (h : ∀ j, j < d.length → ab2 d[j]! = pairF (it s (24 * j)) x) : d.map ab2 = rowF s x d.length := by
  refine List.ext_getElem (by simp [rowF]) fun i hi _ => ?_
  have hi' : i < d.length := by simpa using hi
  have := h i hi'
  rw [getElem!_pos d i hi'] at this
  simpa [rowF] using this
theorem RF.done {w W : World} {b : Nat} {s : Int} {x g n : Nat} (h : RF w W b s x g n n n) : RC w b s x n (.returned (.slice (some ⟨g, 0, none⟩) n n)) W := by
  obtain ⟨d, rfl, h2, h3⟩ := h.row
  exact ⟨_, d, rfl, h2, h.sc, h.but, rows_of h3⟩
set_option maxHeartbeats 1000000 in
theorem t16 {b : Nat} {s : Int} {w : World} (h : SC w b s) (n x : Nat) (hn : n ≤ 16384) : Calls Try.prog 16 #[.pointer (some ⟨b, 0, none⟩), .int .i64 n, .float .f64 x] w (RC w b s x n) := by
  obtain ⟨i0, hi, hz0, hz1, hz2⟩ := info_parts info40
  have H : Hid (SC w b s) := h
  clear h
  go_enter Try.func16, Try.ntmps16
  go_wp2_with (refine wpList_make_full _ rfl _ _ 38 rfl w.heap.size 40 i0 (.complex .f64 0 0) 1 Try.underlying38 hi hz0 hz1 .i64 .i64 _ _ n rfl rfl rfl rfl (by rw [hz2]; omega) (by unfold maxLen; omega) (Nat.le_refl _) ?_; intro w1 hown hgr; have HF : Hid (RF w w1 b s x w.heap.size n 0 0) := RF.new _ hown hgr H.out; clear hown hgr H)
  generalize w.heap.size = g at *
  go_loopw [8, 23] (fun _ i wr => ∃ k : Nat, k ≤ n ∧ i = .int .i64 k ∧ Hid (RF w wr b s x g n k k)) (fun _ i _ => n - (intOf i).toNat)
  case atStart => exact ⟨0, by omega, rfl, HF⟩
  case round =>
    clear HF
    obtain ⟨k, hk, rfl, HF⟩ := hrel
    by_cases hlt : k < n
    · have hkz : (k : Int) < (n : Int) := by omega
      go_wp2_with (go_at_call 22; (with_reducible refine (t22 HF.out.sc x).mono ?_); rintro e w2 ⟨u, v, rfl, hr, hs, hb⟩; have HF2 : Hid (RF w w2 b s x g n k (k + 1)) := HF.out.took hs.out hb.out; obtain ⟨⟨x0, y0, hcell⟩, hfr⟩ := HF2.out.cell hlt; clear HF hs hb)
      go_roundw
      case rel => exact ⟨k + 1, by omega, by go_num, HF2.out.stored hlt hr.out⟩
      case measure => simp [intOf]; omega
    · obtain rfl : n = k := by omega
      go_wp2
      go_ret
      exact HF.out.done
end Go.Proofs.Ytcocliilapeelaa
