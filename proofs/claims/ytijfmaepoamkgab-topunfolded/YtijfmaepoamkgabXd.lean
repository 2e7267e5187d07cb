/- Lists of whole numbers that are handed in, opened. -/
import Derived.Test.YtijfmaepoamkgabRa
import Derived.ProofKit
import Derived.OpenShut
import Derived.SizedLaws
import Derived.Carry
import Derived.Deep.Slices
import Derived.Deep.Grids
import Derived.ChangeSlices
namespace Go.Proofs.Ytijfmaepoamkgab
open Go.ChangeShapes Go.WideShapes Go.ChangeAt Go.RowKit Go.Fl

theorem ownK : ownKnob Try.prog.godebug = none := by kernel_rfl
set_option maxRecDepth 100000 in
theorem laidOut : laidOutB Try.prog = true := by kernel_rfl
set_option maxRecDepth 20000 in
theorem cells3 : Try.prog.cellsOf 3 = 1 := by kernel_rfl
theorem spot_of {w : World} {blk off : Nat} {spot : Option Nat} {x : Int} (h : w.cell? ⟨blk, off, spot⟩ = some (.int .i64 x)) : spot = none := by
  unfold World.cell? at h
  split at h
  · cases spot with
    | none => rfl
    | some s => simp at h
  · simp at h
theorem ir_of {w : World} {a : Addr} {len : Nat} {zs : List Int} (hl : len ≤ zs.length) (hc : ∀ i, i < zs.length → w.cell? (a.add i) = some (.int .i64 (zs.getD i 0))) : Fo.IR w (some a) (zs.take len).length (fun i => (zs.take len)[i]!) := by
  have el : (zs.take len).length = len := by simp; omega
  intro i hi
  rw [el] at hi
  have h0 := hc 0 (by omega)
  have hi' := hc i (by omega)
  obtain ⟨blk, off, spot⟩ := a
  have hs : spot = none := by
    simp only [Addr.add, if_true] at h0
    exact spot_of h0
  subst hs
  refine ⟨blk, off, rfl, ?_⟩
  have e : (⟨blk, off, none⟩ : Addr).add i = ⟨blk, off + i, none⟩ := by
    unfold Addr.add
    split
    · rename_i hj0; rw [hj0]; rfl
    · rfl
  rw [e] at hi'
  rw [hi']
  show _ = some (Value.int .i64 (zs.take len)[i]!)
  rw [getElem!_pos _ i (by rw [el]; exact hi), List.getElem_take]
  simp [List.getD, List.getElem?_eq_getElem (show i < zs.length by omega)]
set_option maxRecDepth 20000 in
/-- Its numbers, its cells; nil is empty. -/
theorem list_cells {H : Type} {enc : TypeId × Value → H} {W : World} {base fuel : Nat} {held : Bool} {c : Value} {x : DataW H × List MemPlace} (hf : DataW.trod enc Try.prog W base (fun _ => true) held fuel 29 [c] = some x) :
    ∃ (o : List Int) (p : Option Addr) (cap : Nat), c = .slice p o.length cap ∧ Fo.IR W p o.length (fun i => o[i]!) ∧ (p = none → o.length = 0 ∧ cap = 0) := by
  rcases open_ints Try.underlying29 Try.underlying3 cells3 hf with ⟨hcs, _⟩ | ⟨a, len, cap, zs, hcs, hb, hl, hm, hz, hx, hcell, hwf⟩
  · simp only [List.cons.injEq, and_true] at hcs
    subst hcs
    exact ⟨[], none, 0, rfl, fun i hi => absurd hi (by simp), fun _ => ⟨rfl, rfl⟩⟩
  · simp only [List.cons.injEq, and_true] at hcs
    subst hcs
    simp only [if_true] at hz
    have el : (zs.take len).length = len := by simp; omega
    exact ⟨zs.take len, some a, cap, by rw [el], ir_of (by omega) hcell, fun h => by cases h⟩
set_option maxRecDepth 20000 in
theorem list_in {H : Type} {enc : TypeId × Value → H} {W : World} {base : Nat} {v : Value} {d : DataW H} {ps : List MemPlace} (hv : Value.okWide Try.prog W .any base 29 v) (h : DataW.Trod enc Try.prog W 0 (fun _ => true) true 29 v d ps) :
    ∃ (o : List Int) (p : Option Addr) (cap : Nat), v = .slice p o.length cap ∧ Fo.IR W p o.length (fun i => o[i]!) ∧ (p = none → o.length = 0 ∧ cap = 0) := by
  obtain ⟨a, len, cap, rfl⟩ := okWide_slice Try.underlying29 hv
  obtain ⟨fuel, hf⟩ := h
  exact list_cells hf
end Go.Proofs.Ytijfmaepoamkgab
