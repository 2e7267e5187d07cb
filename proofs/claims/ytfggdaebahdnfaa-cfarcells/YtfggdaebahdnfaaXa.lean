/- A list of floats, a look that are handed in, opened. -/
import Derived.Test.YtfggdaebahdnfaaHb
import Derived.ProofKit
import Derived.OpenShut
import Derived.SizedLaws
import Derived.Carry
import Derived.Deep.Slices
import Derived.Deep.Grids
namespace Go.Proofs.Ytfggdaebahdnfaa
open Go.ChangeShapes Go.WideShapes Go.ChangeAt Go.RowKit Go.Fl Go.Sort

theorem ownK : ownKnob Try.prog.godebug = none := by kernel_rfl
set_option maxRecDepth 100000 in
theorem laidOut : laidOutB Try.prog = true := by kernel_rfl
theorem cells24 : Try.prog.cellsOf 24 = 1 := by kernel_rfl
theorem bytes24 : Try.prog.bytesOf 24 = 8 := by kernel_rfl
theorem cells26 : Try.prog.cellsOf 26 = 5 := by kernel_rfl
theorem cells23 : Try.prog.cellsOf 23 = 1 := by kernel_rfl
theorem cells3 : Try.prog.cellsOf 3 = 1 := by kernel_rfl
theorem trod_float1 {H : Type} {enc : TypeId × Value → H} {w : World} {base fuel : Nat} {spare : Nat → Bool} {held : Bool} {v : Value} {x : DataW H × List MemPlace} (h : DataW.trod enc Try.prog w base spare held fuel 24 [v] = some x) : ∃ b, v = .float .f64 b ∧ b < 2 ^ 64 := by
  cases fuel with
  | zero => simp [DataW.trod] at h
  | succ n =>
    simp only [DataW.trod, Try.underlying24] at h
    cases v <;> try (simp at h; done)
    rename_i k b
    by_cases hw : k = .f64 ∧ (Lit.float k b).wf = true
    · obtain ⟨rfl, hw⟩ := hw
      refine ⟨b, rfl, ?_⟩
      simpa [Lit.wf] using hw
    · exfalso
      simp_all
/-- A LIST OF FLOATS, OPENED. -/
theorem open_floats {H : Type} {enc : TypeId × Value → H} {w : World} {base fuel : Nat} {held : Bool} {cs : List Value} {x : DataW H × List MemPlace} (h : DataW.trod enc Try.prog w base (fun _ => true) held fuel 22 cs = some x) :
    (cs = [.slice none 0 0] ∧ x = (.nil, [])) ∨ ∃ (a : Addr) (len cap : Nat) (es rs : List (DataW H)) (d : Array Nat), cs = [.slice (some a) len cap] ∧ len ≤ cap ∧ x.1 = .slice es rs ∧ es.length = len ∧ d.size = len ∧ Fit d ∧ (0 < len → ∃ blk off, a = ⟨blk, off, none⟩ ∧ Reads w blk off d) := by
  rcases Go.Deep.open_slice1 Try.underlying22 cells24 h with h0 | ⟨a, len, cap, m, n, V, D, Pl, rfl, hb, hl, hm, hmm, rfl, hx⟩
  · exact Or.inl h0
  right
  simp only [if_true] at hmm
  subst hmm
  obtain ⟨B, hB⟩ := Go.Deep.choose_lt (α := Nat) (p := fun i b => V i = .float .f64 b ∧ b < 2 ^ 64) (fun i hi => trod_float1 (hx i hi).2)
  refine ⟨a, len, m, _, _, ((List.range len).map B).toArray, rfl, hl, rfl, by simp, by simp, ?_, fun hp => ?_⟩
  · intro i hi
    have hi' : i < len := by simpa using hi
    rw [getElem!_pos _ i hi]
    simpa using (hB i (by omega)).2
  · have h0 := (hx 0 (by omega)).1
    obtain ⟨blk, off, spot⟩ := a
    have hs : spot = none := by
      simp only [Addr.add, if_true] at h0
      unfold World.cell? at h0
      split at h0
      · cases spot with
        | none => rfl
        | some s => simp at h0
      · simp at h0
    subst hs
    refine ⟨blk, off, rfl, fun j hj => ?_⟩
    have hj' : j < len := by simpa using hj
    have h1 := (hx j (by omega)).1
    rw [(hB j (by omega)).1] at h1
    rw [getElem!_pos _ j hj]
    have e : (⟨blk, off, none⟩ : Addr).add j = ⟨blk, off + j, none⟩ := by
      unfold Addr.add
      split
      · rename_i hj0; rw [hj0]; rfl
      · rfl
    rw [e] at h1
    rw [h1]
    simp
/-- A list of floats that is handed in. -/
theorem open_sv {H : Type} {enc : TypeId × Value → H} {W : World} {base : Nat} {held : Bool} {v : Value} {d : DataW H} {p : List MemPlace} {r : Reach} {b0 : Nat} (hv : Value.okWide Try.prog W r b0 22 v) (h : DataW.Trod enc Try.prog W base (fun _ => true) held 22 v d p) :
    ∃ q n cap D, v = .slice q n cap ∧ SV W q n cap D ∧ ((d = .nil ∧ n = 0) ∨ ∃ es rs, d = .slice es rs ∧ es.length = n) := by
  obtain ⟨a0, len, cap, rfl⟩ := okWide_slice Try.underlying22 hv
  obtain ⟨fuel, hf⟩ := h
  rcases open_floats hf with ⟨hcs, hx⟩ | ⟨a, len', cap', es, rs, D, hcs, hl, hx, hel, hd, hF, hR⟩
  · simp [Value.cells] at hcs
    obtain ⟨rfl, rfl, rfl⟩ := hcs
    refine ⟨none, 0, 0, #[], rfl, ⟨rfl, by omega, fun i hi => by simp at hi, fun h => by omega⟩, Or.inl ⟨?_, rfl⟩⟩
    exact congrArg Prod.fst hx
  · simp [Value.cells] at hcs
    obtain ⟨rfl, rfl, rfl⟩ := hcs
    refine ⟨some a, len, cap, D, rfl, ⟨hd, hl, hF, fun hp => ?_⟩, Or.inr ⟨es, rs, hx, hel⟩⟩
    obtain ⟨b, o, e, r⟩ := hR hp
    exact ⟨b, o, by rw [e], r⟩
theorem five {α : Type} {cs : Array α} (h : cs.size = 5) : ∃ a b c d e, cs = #[a, b, c, d, e] := by
  obtain ⟨l⟩ := cs
  match l, h with
  | [a, b, c, d, e], _ => exact ⟨a, b, c, d, e, rfl⟩
theorem five_list {α : Type} {l : List α} (h : l.length = 5) : ∃ a b c d e, l = [a, b, c, d, e] := by
  match l, h with
  | [a, b, c, d, e], _ => exact ⟨a, b, c, d, e, rfl⟩
theorem trod_float {H : Type} {enc : TypeId × Value → H} {P : Program} {w : World} {base : Nat} {spare : Nat → Bool} {held : Bool} {fuel : Nat} {t : TypeId} {cs : List Value} {x : DataW H × List MemPlace} {k : FloatKind} (ht : P.underlying t = some (.float k)) (h : DataW.trod enc P w base spare held fuel t cs = some x) : ∃ n, cs = [.float k n] ∧ (Lit.float k n).wf = true := by
  cases fuel with
  | zero => simp [DataW.trod] at h
  | succ n =>
    unfold DataW.trod at h
    rw [ht] at h
    split at h <;> simp_all
theorem int_wf {n : Int} (h : (Lit.int .i64 n).wf = true) : -9223372036854775808 ≤ n ∧ n ≤ 9223372036854775807 := by
  have h2 : (decide ((-9223372036854775808 : Int) ≤ n) && decide (n ≤ 9223372036854775807)) = true := h
  simpa using h2
theorem float_wf {b : Nat} (h : (Lit.float .f64 b).wf = true) : b < 2 ^ 64 := by
  have h2 : decide (b < 2 ^ 64) = true := h
  simpa using h2
theorem byte_wf {n : Int} (h : (Lit.int .i8 n).wf = true) : -128 ≤ n ∧ n ≤ 127 := by
  have h2 : (decide ((-128 : Int) ≤ n) && decide (n ≤ 127)) = true := h
  simpa using h2
/-- A look that is handed in. -/
theorem open_look {H : Type} {enc : TypeId × Value → H} {W : World} {base : Nat} {spare : Nat → Bool} {held : Bool} {v : Value} {d : DataW H} {p : List MemPlace} {r : Reach} {b0 : Nat} (hv : Value.okWide Try.prog W r b0 26 v) (h : DataW.Trod enc Try.prog W base spare held 26 v d p) :
    ∃ (a g t m : Int) (x : Nat), v = .agg #[.int .i8 a, .int .i64 g, .int .i64 t, .int .i64 m, .float .f64 x] ∧ (-128 ≤ a ∧ a ≤ 127) ∧ x < 2 ^ 64 := by
  obtain ⟨cs, rfl, hsz⟩ := okWide_struct Try.underlying26 hv
  obtain ⟨c0, c1, c2, c3, c4, rfl⟩ := five (hsz.trans cells26)
  obtain ⟨fuel, hf⟩ := h
  obtain ⟨xs, n, _, _, _, hlen, hall⟩ := DataW.trod_struct Try.underlying26 hf
  obtain ⟨y0, y1, y2, y3, y4, rfl⟩ := five_list (by simpa using hlen)
  have e0 : DataW.trod enc Try.prog W base spare held n 23 [c0] = some y0 := by simpa [Value.cells, cells23] using hall 0 _ rfl
  have e1 : DataW.trod enc Try.prog W base spare held n 3 [c1] = some y1 := by simpa [Value.cells, cells23, cells3] using hall 1 _ rfl
  have e2 : DataW.trod enc Try.prog W base spare held n 3 [c2] = some y2 := by simpa [Value.cells, cells23, cells3] using hall 2 _ rfl
  have e3 : DataW.trod enc Try.prog W base spare held n 3 [c3] = some y3 := by simpa [Value.cells, cells23, cells3] using hall 3 _ rfl
  have e4 : DataW.trod enc Try.prog W base spare held n 24 [c4] = some y4 := by simpa [Value.cells, cells23, cells3, cells24] using hall 4 _ rfl
  obtain ⟨x0, k0, _, w0⟩ := DataW.trod_int Try.underlying23 e0
  obtain ⟨x1, k1, _, w1⟩ := DataW.trod_int Try.underlying3 e1
  obtain ⟨x2, k2, _, w2⟩ := DataW.trod_int Try.underlying3 e2
  obtain ⟨x3, k3, _, w3⟩ := DataW.trod_int Try.underlying3 e3
  obtain ⟨x4, k4, w4⟩ := trod_float Try.underlying24 e4
  simp only [List.cons.injEq, and_true] at k0 k1 k2 k3 k4
  subst k0 k1 k2 k3 k4
  exact ⟨x0, x1, x2, x3, x4, rfl, byte_wf w0, float_wf w4⟩
end Go.Proofs.Ytfggdaebahdnfaa
