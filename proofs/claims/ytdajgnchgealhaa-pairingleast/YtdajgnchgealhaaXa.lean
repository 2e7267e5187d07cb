/- Tables that are handed in, opened. -/
import Derived.Test.YtdajgnchgealhaaBj
import Derived.ProofKit
import Derived.OpenShut
import Derived.SizedLaws
import Derived.Carry
import Derived.Deep.Slices
import Derived.Deep.Grids
import Derived.ChangeSlices
namespace Go.Proofs.Ytdajgnchgealhaa
open Go.ChangeShapes Go.WideShapes Go.ChangeAt Go.RowKit

theorem ownK : ownKnob Try.prog.godebug = none := by kernel_rfl
set_option maxRecDepth 100000 in
theorem laidOut : laidOutB Try.prog = true := by kernel_rfl
theorem int_wf {n : Int} (h : (Lit.int .i64 n).wf = true) : -9223372036854775808 ≤ n ∧ n ≤ 9223372036854775807 := by
  have h2 : (decide ((-9223372036854775808 : Int) ≤ n) && decide (n ≤ 9223372036854775807)) = true := h
  simpa using h2
set_option maxRecDepth 20000 in
theorem cells2 : Try.prog.cellsOf 2 = 1 := by kernel_rfl
set_option maxRecDepth 20000 in
theorem cells43 : Try.prog.cellsOf 43 = 1 := by kernel_rfl
theorem spot_of {w : World} {blk off : Nat} {spot : Option Nat} {x : Int} (h : w.cell? ⟨blk, off, spot⟩ = some (.int .i64 x)) : spot = none := by
  unfold World.cell? at h
  split at h
  · cases spot with
    | none => rfl
    | some s => simp at h
  · simp at h
theorem ir_of {w : World} {a : Addr} {len : Nat} {zs : List Int} (hl : len ≤ zs.length) (hc : ∀ i, i < zs.length → w.cell? (a.add i) = some (.int .i64 (zs.getD i 0))) : IRo w (some a) (zs.take len).length (fun i => (zs.take len)[i]!) := by
  have el : (zs.take len).length = len := by simp; omega
  intro i hi
  rw [el] at hi
  have h0 := hc 0 (by omega)
  have hi' := hc i (by omega)
  obtain ⟨blk, off, spot⟩ := a
  have hs : spot = none := by
    simp only [Addr.add, if_true] at h0
    exact spot_of h0
  subst hs
  refine ⟨blk, off, rfl, ?_⟩
  have e : (⟨blk, off, none⟩ : Addr).add i = ⟨blk, off + i, none⟩ := by
    unfold Addr.add
    split
    · rename_i hj0; rw [hj0]; rfl
    · rfl
  rw [e] at hi'
  rw [hi']
  show _ = some (Value.int .i64 (zs.take len)[i]!)
  rw [getElem!_pos _ i (by rw [el]; exact hi), List.getElem_take]
  simp [List.getD, List.getElem?_eq_getElem (show i < zs.length by omega)]
set_option maxRecDepth 20000 in
/-- Its numbers, its cells; nil is empty. -/
theorem list_cells {H : Type} {enc : TypeId × Value → H} {W : World} {base fuel : Nat} {held : Bool} {c : Value} {x : DataW H × List MemPlace} (hf : DataW.trod enc Try.prog W base (fun _ => true) held fuel 43 [c] = some x) :
    ∃ (o : List Int) (p : Option Addr) (cap : Nat), c = .slice p o.length cap ∧ IRo W p o.length (fun i => o[i]!) ∧ (p = none → o.length = 0 ∧ cap = 0) := by
  rcases open_ints Try.underlying43 Try.underlying2 cells2 hf with ⟨hcs, _⟩ | ⟨a, len, cap, zs, hcs, hb, hl, hm, hz, hx, hcell, hwf⟩
  · simp only [List.cons.injEq, and_true] at hcs
    subst hcs
    exact ⟨[], none, 0, rfl, fun i hi => absurd hi (by simp), fun _ => ⟨rfl, rfl⟩⟩
  · simp only [List.cons.injEq, and_true] at hcs
    subst hcs
    simp only [if_true] at hz
    have el : (zs.take len).length = len := by simp; omega
    exact ⟨zs.take len, some a, cap, by rw [el], ir_of (by omega) hcell, fun h => by cases h⟩
set_option maxRecDepth 20000 in
theorem open_list {H : Type} {enc : TypeId × Value → H} {W : World} {base : Nat} {v : Value} {d : DataW H} {ps : List MemPlace} (hv : Value.okWide Try.prog W .any base 43 v) (h : DataW.Trod enc Try.prog W 0 (fun _ => true) true 43 v d ps) :
    ∃ (o : List Int) (p : Option Addr) (cap : Nat), v = .slice p o.length cap ∧ IRo W p o.length (fun i => o[i]!) ∧ (p = none → o.length = 0 ∧ cap = 0) := by
  obtain ⟨a, len, cap, rfl⟩ := okWide_slice Try.underlying43 hv
  obtain ⟨fuel, hf⟩ := h
  exact list_cells hf
theorem spotV {w : World} {blk off : Nat} {spot : Option Nat} {x : Value} (h : w.cell? ⟨blk, off, spot⟩ = some x) : spot = none := by
  unfold World.cell? at h
  split at h
  · cases spot with
    | none => rfl
    | some s => simp at h
  · simp at h
theorem add_at (blk off j : Nat) : (⟨blk, off, none⟩ : Addr).add j = ⟨blk, off + j, none⟩ := by
  unfold Addr.add
  split
  · rename_i hj0; rw [hj0]; rfl
  · rfl
set_option maxRecDepth 20000 in
/-- Lists of lists. -/
theorem rows_cells {H : Type} {enc : TypeId × Value → H} {w : World} {base fuel : Nat} {held : Bool} {cs : List Value} {x : DataW H × List MemPlace} (h : DataW.trod enc Try.prog w base (fun _ => true) held fuel 22 cs = some x) :
    ∃ (p : Option Addr) (len cap : Nat) (C : Nat → List Int), cs = [.slice p len cap] ∧ TV w p len (fun i => (C i).length) (fun i j => (C i)[j]!) ∧ len ≤ cap := by
  rcases Go.Deep.open_slice1 Try.underlying22 cells43 h with ⟨h0, _⟩ | ⟨a, len, cap, m, n, V, D, Pl, rfl, hb, hl, hm, hmm, rfl, hx⟩
  · exact ⟨none, 0, 0, fun _ => [], h0, fun i hi => by omega, by omega⟩
  simp only [if_true] at hmm
  subst hmm
  rcases Nat.eq_zero_or_pos len with rfl | hp
  · exact ⟨some a, 0, m, fun _ => [], rfl, fun i hi => by omega, by omega⟩
  have h0 := (hx 0 (by omega)).1
  obtain ⟨blk, off, spot⟩ := a
  have hs : spot = none := by
    simp only [Addr.add, if_true] at h0
    exact spotV h0
  subst hs
  have each : ∀ i, i < len → ∃ y : List Int × Option Addr × Nat, V i = .slice y.2.1 y.1.length y.2.2 ∧ IRo w y.2.1 y.1.length (fun j => y.1[j]!) := by
    intro i hi
    obtain ⟨o, p, cap', hcs, hf, _⟩ := list_cells (hx i (by omega)).2
    exact ⟨(o, p, cap'), hcs, hf⟩
  obtain ⟨y, hy⟩ := Go.Deep.choose_lt each
  refine ⟨_, len, m, fun i => (y i).1, rfl, fun i hi => ⟨blk, off, (y i).2.1, (y i).2.2, rfl, ?_, (hy i hi).2⟩, hl⟩
  have h1 := (hx i (by omega)).1
  rw [(hy i hi).1, add_at] at h1
  exact h1
set_option maxRecDepth 20000 in
theorem open_rows {H : Type} {enc : TypeId × Value → H} {W : World} {base : Nat} {v : Value} {d : DataW H} {ps : List MemPlace} (hv : Value.okWide Try.prog W .any base 22 v) (h : DataW.Trod enc Try.prog W 0 (fun _ => true) true 22 v d ps) :
    ∃ (p : Option Addr) (n cap : Nat) (C : Nat → List Int), v = .slice p n cap ∧ TV W p n (fun i => (C i).length) (fun i j => (C i)[j]!) := by
  obtain ⟨a, len, cap, rfl⟩ := okWide_slice Try.underlying22 hv
  obtain ⟨fuel, hf⟩ := h
  obtain ⟨p, n, c, C, hcs, hC, _⟩ := rows_cells hf
  simp [Value.cells] at hcs
  obtain ⟨rfl, rfl, rfl⟩ := hcs
  exact ⟨_, _, _, C, rfl, hC⟩
end Go.Proofs.Ytdajgnchgealhaa
