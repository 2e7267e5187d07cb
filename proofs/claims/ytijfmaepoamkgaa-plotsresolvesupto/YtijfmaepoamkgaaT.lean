/- Rows of floats. -/
import Derived.Test.YtijfmaepoamkgaaA
import Derived.Sort.Row
import Derived.Sort.LotA
import Derived.Deep.LoopGhost
import Derived.Deep.QuietTactic
import Derived.BigQuiet
import Derived.BigRegion
import Derived.WalkKit
import Derived.Deep.WholeRow
import Derived.Laws.CopyOwn
import Derived.Laws.Cover3
namespace Go.Proofs.Ytijfmaepoamkgaa
open Go.ChangeShapes Go.WideShapes Go.ChangeAt Go.RowKit Go.Fl Go.Sort
attribute [local go_sem] run_store_float call53 run_neg fold_eq fold_ne fold_lt fold_gt abs_eq

abbrev fe : Nat → Value := Value.float .f64
/-- Every float of the row is one of 64 bits. -/
def Fit (d : Array Nat) : Prop := ∀ i, i < d.size → d[i]! < 2 ^ 64
theorem swoK : SWO ltK where
  irrefl x := by simp [ltK]
  trans x y z h1 h2 := by simp only [ltK, decide_eq_true_eq] at *; omega
  ntrans x y z h1 h2 := by simp only [ltK, decide_eq_false_iff_not] at *; omega
theorem cmpK_neg (x y : Nat) : cmpK x y < 0 ↔ ltK x y = true := by
  unfold cmpK ltK
  split
  · simp; omega
  · split <;> simp <;> omega
theorem Fit.perm {d d' : Array Nat} (h : Fit d) {a b : Nat} (hb : b ≤ d.size) (hp : PermIn a b d d') : Fit d' := by
  intro i hi
  rw [hp.1] at hi
  by_cases hin : a ≤ i ∧ i < b
  · exact permIn_all d d' a b (fun x => x < 2 ^ 64) hb hp (fun j hj1 hj2 => h j (by omega)) i hin.1 hin.2
  · rw [hp.2.1 i (by omega)]; exact h i hi
theorem fit_at {d d0 : Array Nat} (h : Fit d) (hs : d.size = d0.size) {i x : Nat} (hi : i < d0.size) (hx : d[i]! = x) : x < 2 ^ 64 := by
  rw [← hx]; exact h i (by omega)
theorem fam {w W : World} {blk off n : Nat} {d0 d : Array Nat} (hw : W = (putRow fe w blk off d).drewN n) (hH : Holds fe w blk off d0) (hs : d.size = d0.size) {i x : Nat} (hi : i < d0.size) (hx : d[i]! = x) :
    W.cell? ⟨blk, off + i, none⟩ = some (.float .f64 x) ∧ W.frozen? ⟨blk, off + i, none⟩ = false := by
  rw [hw, ← hx]
  exact holds_putRow fe w blk off d0 d hH hs i (by omega)

end Go.Proofs.Ytijfmaepoamkgaa
/- What was there is kept; slices of floats; rows of one's own. -/
namespace Go.Proofs.Ytijfmaepoamkgaa
open Go.ChangeShapes Go.WideShapes Go.ChangeAt Go.RowKit Go.Fl Go.Sort
attribute [local go_sem] run_store_float call53 run_neg fold_eq fold_ne fold_lt fold_gt abs_eq

/-- Of what was there nothing has turned. -/
def Up (w w' : World) : Prop := RowKit.Below w.heap.size w w'
theorem Up.refl (w : World) : Up w w := Below.refl _ _
theorem Up.trans {a b c : World} (h : Up a b) (k : Up b c) : Up a c := RowKit.Below.trans h (RowKit.Below.mono k (RowKit.Below.size h))
theorem Up.drewN (w : World) (n : Nat) : Up w (w.drewN n) := below_drewN (Below.refl _ _) n
theorem Up.alloc (w : World) (o : Obj) : Up w (w.alloc o) := (Below.refl _ _).alloc (Nat.le_refl _) _
theorem Up.putRow {w w1 : World} (h : Up w w1) {g : Nat} (hg : w.heap.size ≤ g) (off : Nat) (d : Array Nat) : Up w (Sort.putRow fe w1 g off d) := by
  have hb : ∀ k, k ≠ g → (Sort.putRow fe w1 g off d).heap[k]? = w1.heap[k]? := fun k hk => by
    simp only [Sort.putRow, mapBlock, Array.getElem?_modify, if_neg (Ne.symm hk)]
  have h' : RowKit.Below w.heap.size w w1 := h
  exact ⟨(h'.os : w1.os = w.os), (h'.tape : w1.tape = w.tape), (h'.output : w1.output = w.output), by rw [size_putRow]; exact RowKit.Below.size h, fun k hk => by rw [hb k (by omega)]; exact RowKit.Below.block h k hk⟩

/-- The cells of a slice hold these floats. -/
def Reads (w : World) (blk off : Nat) (d : Array Nat) : Prop := ∀ j, j < d.size → w.cell? ⟨blk, off + j, none⟩ = some (fe d[j]!)
theorem Reads.lt {w : World} {blk off : Nat} {d : Array Nat} (h : Reads w blk off d) (hp : 0 < d.size) : blk < w.heap.size := by
  obtain ⟨c, e, fr, hb, _⟩ := cells_of_cell? (h 0 hp)
  exact (Array.getElem?_eq_some_iff.1 hb).1
theorem Reads.up {w w' : World} {blk off : Nat} {d : Array Nat} (h : Reads w blk off d) (hu : Up w w') : Reads w' blk off d := fun j hj => by
  rw [RowKit.Below.cell hu (h.lt (by omega))]; exact h j hj
theorem info23 : (Try.prog.info? 22).map (fun i => (i.zero, i.size, i.bytes)) = some (some (.float .f64 0), 1, 8) := by kernel_rfl
/-- A row of one's own: its cells can be written. -/
def Own (b : Nat) (w : World) (v : Value) (d : Array Nat) : Prop := ∃ g cap, v = .slice (some ⟨g, 0, none⟩) d.size cap ∧ b ≤ g ∧ (g < w.heap.size ∧ d.size ≤ cap) ∧ Holds fe w g 0 d
theorem own_of {b : Nat} {w : World} {v : Value} {d : Array Nat} (hp : 0 < d.size) (h : w.ownsRow b 22 1 v d.size (d.toList.map fe)) : Own b w v d := by
  obtain ⟨_, h⟩ := h
  rcases h with ⟨_, h0⟩ | ⟨g, cap, cur, rfl, hg, hc, hle, _, hs, ht⟩
  · omega
  · refine ⟨g, cap, rfl, hg, ⟨(Array.getElem?_eq_some_iff.1 hc).1, hle⟩, fun j hj => ?_⟩
    have e : cur[j]? = some (fe d[j]!) := by
      have := congrArg (fun l => l[j]?) ht
      simp only [List.getElem?_take] at this
      rw [if_pos (by omega)] at this
      rw [← Array.getElem?_toList, this]
      simp [getElem!_pos d j hj, Array.getElem?_eq_getElem hj]
    constructor
    · rw [cell_of_row _ _ _ _ _ _ hc, Nat.zero_add, e]
    · simp [World.frozen?, hc]
theorem reads_news {w : World} {blk off : Nat} {d : Array Nat} (h : Reads w blk off d) : ∀ j u, (d.toList.map fe)[j]? = some u → w.cell? ((⟨blk, off, none⟩ : Addr).add j) = some u := by
  intro j u hj
  rw [List.getElem?_map, Option.map_eq_some_iff] at hj
  obtain ⟨x, hx, rfl⟩ := hj
  rw [Array.getElem?_toList, Array.getElem?_eq_some_iff] at hx
  obtain ⟨hl, hx⟩ := hx
  have := h j hl
  rw [getElem!_pos d j hl, hx] at this
  rw [← this]
  unfold Addr.add
  split
  · rename_i h0; rw [h0]; rfl
  · rfl
theorem one_cells (l : List Nat) : ∀ u ∈ l.map fe, u.oneCell' = true := by
  intro u hu
  obtain ⟨x, _, rfl⟩ := List.mem_map.1 hu
  rfl

theorem eql_nil (a : Option Addr) (l c : Nat) (w : World) : (binOp .eql 71 (.slice a l c) (.slice none 0 0)).run Try.prog w = .ok (.bool a.isNone) w := by
  have h := run_equal_slice_nil (P := Try.prog) w 71 22 a l c Try.underlying71
  simp [binOp, h]
attribute [local go_sem] eql_nil
theorem own_empty (w : World) : (w.alloc (.cells #[] 22)).ownsRow w.heap.size 22 1 (.slice (some ⟨w.heap.size, 0, none⟩) 0 0) 0 [] :=
  ⟨by simp, .inr ⟨w.heap.size, 0, #[], rfl, Nat.le_refl _, heap_alloc_last _ _, Nat.le_refl _, Nat.zero_le _, rfl, rfl⟩⟩
theorem reads_sub {w : World} {blk off : Nat} {d : Array Nat} (h : Reads w blk off d) (a b : Nat) (hb : b ≤ d.size) : Reads w blk (off + a) (d.extract a b) := by
  intro j hj
  have hj' : j < b - a := by simpa [Nat.min_eq_left hb] using hj
  have := h (a + j) (by omega)
  rw [show off + a + j = off + (a + j) by omega, this, getElem!_pos _ j hj, getElem!_pos d (a + j) (by omega)]
  simp
theorem fit_sub {d : Array Nat} (h : Fit d) (a b : Nat) (hb : b ≤ d.size) : Fit (d.extract a b) := by
  intro j hj
  have hj' : j < b - a := by simpa [Nat.min_eq_left hb] using hj
  have := h (a + j) (by omega)
  rw [getElem!_pos d (a + j) (by omega)] at this
  rw [getElem!_pos _ j hj]
  simpa using this
theorem fit_perm {d d' : Array Nat} (h : Fit d) (hp : d'.toList.Perm d.toList) : Fit d' := by
  intro j hj
  rw [getElem!_pos d' j hj]
  have hm : d'[j] ∈ d.toList := hp.mem_iff.1 (by simp)
  obtain ⟨i, hi, e⟩ := List.mem_iff_getElem.1 hm
  have hi' : i < d.size := by simpa using hi
  have := h i hi'
  rw [getElem!_pos d i hi'] at this
  rw [← e]
  simpa using this
theorem own_reads {b : Nat} {w : World} {v : Value} {d : Array Nat} (h : Own b w v d) : ∃ g cap, v = .slice (some ⟨g, 0, none⟩) d.size cap ∧ b ≤ g ∧ d.size ≤ cap ∧ Reads w g 0 d := by
  obtain ⟨g, cap, hv, hb, hl, hH⟩ := h
  exact ⟨g, cap, hv, hb, hl.2, fun j hj => (hH j hj).1⟩

theorem own_list {b : Nat} {w : World} {v : Value} {l : List Nat} (hp : 0 < l.length) (h : w.ownsRow b 22 1 v l.length (l.map fe)) : Own b w v l.toArray :=
  own_of (by simpa using hp) (by simpa using h)

end Go.Proofs.Ytijfmaepoamkgaa
/- Sums of floats, the first alone. -/
namespace Go.Proofs.Ytijfmaepoamkgaa
open Go.ChangeShapes Go.WideShapes Go.ChangeAt Go.RowKit Go.Fl Go.Sort
attribute [local go_sem] run_store_float run_store_complex call53 run_neg fold_eq fold_ne fold_lt fold_gt abs_eq

/-- The sum of n numbers, the first alone. -/
def sumN (F : Nat → Option Nat) : Nat → Option Nat
  | 0 => ab 0
  | 1 => F 0
  | n + 2 => bin .add (sumN F (n + 1)) (F (n + 1))
theorem sumN_step (F : Nat → Option Nat) (k : Nat) : sumN F (k + 1 + 1) = bin .add (sumN F (k + 1)) (F (k + 1)) := rfl
theorem sumN_congr {F G : Nat → Option Nat} : ∀ n, (∀ i, i < n → F i = G i) → sumN F n = sumN G n
  | 0, _ => rfl
  | 1, h => h 0 (by omega)
  | n + 2, h => by rw [sumN, sumN, sumN_congr (n + 1) fun i hi => h i (by omega), h (n + 1) (by omega)]

/-- The sum of a row. -/
def sumD (d : Array Nat) : Option Nat := sumN (fun i => ab d[i]!) d.size
/-- What a call leaves that hands back one float. -/
def FU (w : World) (v : Option Nat) (e : Ending) (w' : World) : Prop := ∃ r, e = .returned (.float .f64 r) ∧ Hid (ab r = v) ∧ Hid (Up w w')
theorem FU.mk {w w' : World} {v : Option Nat} {r : Nat} (h : ab r = v) (hu : Up w w') : FU w v (.returned (.float .f64 r)) w' := ⟨r, rfl, h, hu⟩
theorem enters {f : FuncId} {fn : Func} (hf : Try.prog.funcs[f]? = some fn) (hn : (fn.name == "runtime.NumGoroutine") = false) (hb : fn.body.isSome = true) (args : Array Value) (w : World) : (callFunc f args).run Try.prog w = .ok (.enter f args) w := by
  have h1 : fn.name ≠ "runtime.NumGoroutine" := by simpa using hn
  obtain ⟨c, hc⟩ := Option.isSome_iff_exists.1 hb
  simp [callFunc, hf, h1, hc]
theorem box_cell (w : World) (v : Value) (t : TypeId) (k : Nat) : ((w.alloc (.cells #[v] t)).drewN k).cell? ⟨w.heap.size, 0, none⟩ = some v := World.cell?_alloc_at _ _ _ _ rfl
theorem t41e (p : Option Addr) (cap : Nat) (w : World) : Calls Try.prog 41 #[.slice p 0 cap] w (FR w (ab 0)) := by
  go_enter Try.func41, Try.ntmps41
  go_wp2
  go_ret
  exact FR.mk0 rfl
set_option maxHeartbeats 1000000 in
theorem t41 (blk off cap : Nat) (d : Array Nat) (w : World) (hR : Reads w blk off d) (hp : 0 < d.size) (hn : d.size < 4611686018427387904) : Calls Try.prog 41 #[.slice (some ⟨blk, off, none⟩) d.size cap] w (FR w (sumD d)) := by
  have HR : Hid (Reads w blk off d) := hR
  obtain ⟨x, hx⟩ : ∃ x, d[0]! = x := ⟨_, rfl⟩
  have c0 := hR 0 hp
  rw [hx, Nat.add_zero] at c0
  have HX : Hid _ := hx
  clear hR hx
  have h0 : ((d.size : Int) == 0) = false := by rw [beq_eq_false_iff_ne]; omega
  have h1 : (0 : Int) < (d.size : Int) := by omega
  have h2 : ¬ d.size = 0 := by omega
  go_enter Try.func41, Try.ntmps41
  go_wp2
  go_loopw [3, 4] (fun vs vi wr => ∃ i r k : Nat, i < d.size ∧ vs = .float .f64 r ∧ vi = .int .i64 ((i : Int) + 1) ∧ wr = w.drewN k ∧ Hid (ab r = sumN (fun i => ab d[i]!) (i + 1))) (fun _ vi _ => (d.size : Int).toNat - (intOf vi).toNat)
  case atStart => exact ⟨0, x, 0, hp, rfl, rfl, rfl, by show _ = _; rw [← HX.out]; rfl⟩
  case round =>
    obtain ⟨i, r, k, hi, rfl, rfl, rfl, hr⟩ := hrel
    by_cases hlt : i + 1 < d.size
    · obtain ⟨y, hy⟩ : ∃ y, d[i + 1]! = y := ⟨_, rfl⟩
      have cy := HR.out (i + 1) hlt
      rw [hy] at cy
      have cy2 : (w.drewN k).cell? ⟨blk, off + (i + 1), none⟩ = some (.float .f64 y) := cy
      have HY : Hid _ := hy
      clear hy cy
      have hz : (i : Int) + 1 < (d.size : Int) := by omega
      have p0 : (0 : Int) ≤ (i : Int) + 1 := by omega
      have e0 : ((i : Int) + 1).toNat = i + 1 := by omega
      go_wp2_with ((with_reducible refine upon_fl (by simp) ?_); intro r3 k3 hr3)
      go_roundw
      case rel =>
        refine ⟨i + 1, r3, _, by omega, rfl, by go_num, by first | rfl | (simp only [World.drewN_drewN]; rfl), ?_⟩
        show _ = _
        rw [sumN_step, ← hr.out, HY.out, ← hr3.out]
      case measure => simp [intOf]; omega
    · have he : i + 1 = d.size := by omega
      have hz : ¬ (i : Int) + 1 < (d.size : Int) := by omega
      have HE : Hid _ := he
      clear he
      go_wp2
      go_ret
      refine FR.mkN ?_
      rw [hr.out, HE.out]; rfl
end Go.Proofs.Ytijfmaepoamkgaa
