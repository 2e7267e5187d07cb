/- A list of floats that came in: what its cells hold. -/
import Derived.Test.YtgalgnopjcpocaaRb
import Derived.ProofKit
import Derived.OpenShut
import Derived.SizedLaws
import Derived.Carry
import Derived.Deep.Slices
namespace Go.Proofs.Ytgalgnopjcpocaa
open Go.ChangeShapes Go.WideShapes Go.ChangeAt Go.RowKit Go.Fl

theorem ownK : ownKnob Try.prog.godebug = none := by kernel_rfl
set_option maxRecDepth 100000 in
theorem laidOut : laidOutB Try.prog = true := by kernel_rfl
set_option maxRecDepth 20000 in
theorem cells26 : Try.prog.cellsOf 26 = 1 := by kernel_rfl
set_option maxRecDepth 20000 in
theorem bytes26 : Try.prog.bytesOf 26 = 8 := by kernel_rfl
theorem trod_float1 {H : Type} {enc : TypeId × Value → H} {w : World} {base fuel : Nat} {spare : Nat → Bool} {held : Bool} {v : Value} {x : DataW H × List MemPlace} (h : DataW.trod enc Try.prog w base spare held fuel 26 [v] = some x) : ∃ b, v = .float .f64 b ∧ b < 2 ^ 64 := by
  cases fuel with
  | zero => simp [DataW.trod] at h
  | succ n =>
    simp only [DataW.trod, Try.underlying26] at h
    cases v <;> try (simp at h; done)
    rename_i k b
    by_cases hw : k = .f64 ∧ (Lit.float k b).wf = true
    · obtain ⟨rfl, hw⟩ := hw
      refine ⟨b, rfl, ?_⟩
      simpa [Lit.wf] using hw
    · exfalso
      simp_all
/-- A list of floats, opened. -/
theorem open_floats {H : Type} {enc : TypeId × Value → H} {w : World} {base fuel : Nat} {held : Bool} {cs : List Value} {x : DataW H × List MemPlace} (h : DataW.trod enc Try.prog w base (fun _ => true) held fuel 28 cs = some x) :
    (cs = [.slice none 0 0] ∧ x = (.nil, [])) ∨ ∃ (a : Addr) (len cap : Nat) (es rs : List (DataW H)) (f : Nat → Nat), cs = [.slice (some a) len cap] ∧ len ≤ cap ∧ x.1 = .slice es rs ∧ es.length = len ∧ rs.length = cap - len ∧ (∀ i, i < len → f i < 2 ^ 64) ∧ (0 < len → ∃ blk off, a = ⟨blk, off, none⟩ ∧ RF w blk off len f) := by
  rcases Go.Deep.open_slice1 Try.underlying28 cells26 h with h0 | ⟨a, len, cap, m, n, V, D, Pl, rfl, hb, hl, hm, hmm, rfl, hx⟩
  · exact Or.inl h0
  right
  simp only [if_true] at hmm
  subst hmm
  obtain ⟨B, hB⟩ := Go.Deep.choose_lt (α := Nat) (p := fun i b => V i = .float .f64 b ∧ b < 2 ^ 64) (fun i hi => trod_float1 (hx i hi).2)
  refine ⟨a, len, m, _, _, B, rfl, hl, rfl, by simp, by simp, fun i hi => (hB i (by omega)).2, fun hp => ?_⟩
  have h0 := (hx 0 (by omega)).1
  obtain ⟨blk, off, spot⟩ := a
  have hs : spot = none := by
    simp only [Addr.add, if_true] at h0
    unfold World.cell? at h0
    split at h0
    · cases spot with
      | none => rfl
      | some s => simp at h0
    · simp at h0
  subst hs
  refine ⟨blk, off, rfl, fun j hj => ?_⟩
  have h1 := (hx j (by omega)).1
  rw [(hB j (by omega)).1] at h1
  have e : (⟨blk, off, none⟩ : Addr).add j = ⟨blk, off + j, none⟩ := by
    unfold Addr.add
    split
    · rename_i hj0; rw [hj0]; rfl
    · rfl
  rw [e] at h1
  exact h1
end Go.Proofs.Ytgalgnopjcpocaa
