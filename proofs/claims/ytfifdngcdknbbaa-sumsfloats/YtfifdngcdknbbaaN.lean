/- A list of floats that came in: what its cells hold; how it is read again behind a call that turns nothing. -/
import Derived.Test.YtfifdngcdknbbaaM
import Derived.ProofKit
import Derived.SizedLaws
import Derived.Carry
import Derived.Deep.Slices
namespace Go.Proofs.Ytfifdngcdknbbaa
open Go.ChangeShapes Go.WideShapes Go.ChangeAt Go.RowKit Go.Fl Go.Sort

theorem own : ownKnob Try.prog.godebug = none := by kernel_rfl
theorem laidOut : laidOutB Try.prog = true := by kernel_rfl
theorem cells23 : Try.prog.cellsOf 23 = 1 := by kernel_rfl
theorem bytes23 : Try.prog.bytesOf 23 = 8 := by kernel_rfl
theorem trod_float1 {H : Type} {enc : TypeId × Value → H} {w : World} {base fuel : Nat} {spare : Nat → Bool} {held : Bool} {v : Value} {x : DataW H × List MemPlace} (h : DataW.trod enc Try.prog w base spare held fuel 23 [v] = some x) : ∃ b, v = .float .f64 b ∧ b < 2 ^ 64 := by
  cases fuel with
  | zero => simp [DataW.trod] at h
  | succ n =>
    simp only [DataW.trod, Try.underlying23] at h
    cases v <;> try (simp at h; done)
    rename_i k b
    by_cases hw : k = .f64 ∧ (Lit.float k b).wf = true
    · obtain ⟨rfl, hw⟩ := hw
      refine ⟨b, rfl, ?_⟩
      simpa [Lit.wf] using hw
    · exfalso
      simp_all
/-- A LIST OF FLOATS, OPENED. -/
theorem open_floats {H : Type} {enc : TypeId × Value → H} {w : World} {base fuel : Nat} {held : Bool} {cs : List Value} {x : DataW H × List MemPlace} (h : DataW.trod enc Try.prog w base (fun _ => true) held fuel 22 cs = some x) :
    (cs = [.slice none 0 0] ∧ x = (.nil, [])) ∨ ∃ (a : Addr) (len cap : Nat) (es rs : List (DataW H)) (d : Array Nat), cs = [.slice (some a) len cap] ∧ len ≤ cap ∧ x.1 = .slice es rs ∧ es.length = len ∧ d.size = len ∧ Fit d ∧ (0 < len → ∃ blk off, a = ⟨blk, off, none⟩ ∧ Reads w blk off d) := by
  rcases Go.Deep.open_slice1 Try.underlying22 cells23 h with h0 | ⟨a, len, cap, m, n, V, D, Pl, rfl, hb, hl, hm, hmm, rfl, hx⟩
  · exact Or.inl h0
  right
  simp only [if_true] at hmm
  subst hmm
  obtain ⟨B, hB⟩ := Go.Deep.choose_lt (α := Nat) (p := fun i b => V i = .float .f64 b ∧ b < 2 ^ 64) (fun i hi => trod_float1 (hx i hi).2)
  refine ⟨a, len, m, _, _, ((List.range len).map B).toArray, rfl, hl, rfl, by simp, by simp, ?_, fun hp => ?_⟩
  · intro i hi
    have hi' : i < len := by simpa using hi
    rw [getElem!_pos _ i hi]
    simpa using (hB i (by omega)).2
  · have h0 := (hx 0 (by omega)).1
    obtain ⟨blk, off, spot⟩ := a
    have hs : spot = none := by
      simp only [Addr.add, if_true] at h0
      unfold World.cell? at h0
      split at h0
      · cases spot with
        | none => rfl
        | some s => simp at h0
      · simp at h0
    subst hs
    refine ⟨blk, off, rfl, fun j hj => ?_⟩
    have hj' : j < len := by simpa using hj
    have h1 := (hx j (by omega)).1
    rw [(hB j (by omega)).1] at h1
    rw [getElem!_pos _ j hj]
    have e : (⟨blk, off, none⟩ : Addr).add j = ⟨blk, off + j, none⟩ := by
      unfold Addr.add
      split
      · rename_i hj0; rw [hj0]; rfl
      · rfl
    rw [e] at h1
    rw [h1]
    simp
end Go.Proofs.Ytfifdngcdknbbaa
