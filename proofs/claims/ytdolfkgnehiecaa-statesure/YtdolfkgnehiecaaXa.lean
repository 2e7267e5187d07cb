/- A state that is handed in, opened. -/
import Derived.Test.YtdolfkgnehiecaaAa
import Derived.ProofKit
import Derived.OpenShut
import Derived.SizedLaws
import Derived.Carry
import Derived.Deep.Slices
import Derived.Deep.Grids
import Derived.Laws.IdiomArrays
namespace Go.Proofs.Ytdolfkgnehiecaa
open Go.ChangeShapes Go.WideShapes Go.ChangeAt Go.RowKit Go.Fl

theorem ownK : ownKnob Try.prog.godebug = none := by kernel_rfl
set_option maxRecDepth 100000 in
theorem laidOut : laidOutB Try.prog = true := by kernel_rfl
theorem cells24 : Try.prog.cellsOf 24 = 5 := by kernel_rfl
theorem cells22 : Try.prog.cellsOf 22 = 1 := by kernel_rfl
theorem cells40 : Try.prog.cellsOf 40 = 3 := by kernel_rfl
theorem cells37 : Try.prog.cellsOf 37 = 4 := by kernel_rfl
theorem five {α : Type} {cs : Array α} (h : cs.size = 5) : ∃ a b c d e, cs = #[a, b, c, d, e] := by
  obtain ⟨l⟩ := cs
  match l, h with
  | [a, b, c, d, e], _ => exact ⟨a, b, c, d, e, rfl⟩
theorem five_list {α : Type} {l : List α} (h : l.length = 5) : ∃ a b c d e, l = [a, b, c, d, e] := by
  match l, h with
  | [a, b, c, d, e], _ => exact ⟨a, b, c, d, e, rfl⟩
theorem three_arr {α : Type} {cs : Array α} (h : cs.size = 3) : ∃ a b c, cs = #[a, b, c] := by
  obtain ⟨l⟩ := cs
  match l, h with
  | [a, b, c], _ => exact ⟨a, b, c, rfl⟩
theorem four_arr {α : Type} {cs : Array α} (h : cs.size = 4) : ∃ a b c d, cs = #[a, b, c, d] := by
  obtain ⟨l⟩ := cs
  match l, h with
  | [a, b, c, d], _ => exact ⟨a, b, c, d, rfl⟩
theorem trod_float {H : Type} {enc : TypeId × Value → H} {P : Program} {w : World} {base : Nat} {spare : Nat → Bool} {held : Bool} {fuel : Nat} {t : TypeId} {cs : List Value} {x : DataW H × List MemPlace} {k : FloatKind} (ht : P.underlying t = some (.float k)) (h : DataW.trod enc P w base spare held fuel t cs = some x) : ∃ n, cs = [.float k n] ∧ (Lit.float k n).wf = true := by
  cases fuel with
  | zero => simp [DataW.trod] at h
  | succ n =>
    unfold DataW.trod at h
    rw [ht] at h
    split at h <;> simp_all
theorem float_wf {b : Nat} (h : (Lit.float .f64 b).wf = true) : b < 2 ^ 64 := by
  have h2 : decide (b < 2 ^ 64) = true := h
  simpa using h2
/-- The five numbers, each as it reads. -/
theorem opened {H : Type} {enc : TypeId × Value → H} {W : World} {base : Nat} {spare : Nat → Bool} {held : Bool} {v : Value} {d : DataW H} {p : List MemPlace} {r : Reach} {b0 : Nat} (hv : Value.okWide Try.prog W r b0 24 v) (h : DataW.Trod enc Try.prog W base spare held 24 v d p) :
    ∃ x0 x1 x2 x3 x4 : Nat, v = .agg #[.float .f64 x0, .float .f64 x1, .float .f64 x2, .float .f64 x3, .float .f64 x4] ∧ x0 < 2 ^ 64 ∧ x1 < 2 ^ 64 ∧ x2 < 2 ^ 64 ∧ x3 < 2 ^ 64 ∧ x4 < 2 ^ 64 := by
  obtain ⟨cs, rfl, hsz⟩ := okWide_struct Try.underlying24 hv
  obtain ⟨c0, c1, c2, c3, c4, rfl⟩ := five (hsz.trans cells24)
  obtain ⟨fuel, hf⟩ := h
  obtain ⟨xs, n, _, _, _, hlen, hall⟩ := DataW.trod_struct Try.underlying24 hf
  obtain ⟨y0, y1, y2, y3, y4, rfl⟩ := five_list (by simpa using hlen)
  have e0 : DataW.trod enc Try.prog W base spare held n 22 [c0] = some y0 := by simpa [Value.cells, cells22] using hall 0 _ rfl
  have e1 : DataW.trod enc Try.prog W base spare held n 22 [c1] = some y1 := by simpa [Value.cells, cells22] using hall 1 _ rfl
  have e2 : DataW.trod enc Try.prog W base spare held n 22 [c2] = some y2 := by simpa [Value.cells, cells22] using hall 2 _ rfl
  have e3 : DataW.trod enc Try.prog W base spare held n 22 [c3] = some y3 := by simpa [Value.cells, cells22] using hall 3 _ rfl
  have e4 : DataW.trod enc Try.prog W base spare held n 22 [c4] = some y4 := by simpa [Value.cells, cells22] using hall 4 _ rfl
  obtain ⟨x0, k0, w0⟩ := trod_float Try.underlying22 e0
  obtain ⟨x1, k1, w1⟩ := trod_float Try.underlying22 e1
  obtain ⟨x2, k2, w2⟩ := trod_float Try.underlying22 e2
  obtain ⟨x3, k3, w3⟩ := trod_float Try.underlying22 e3
  obtain ⟨x4, k4, w4⟩ := trod_float Try.underlying22 e4
  simp only [List.cons.injEq, and_true] at k0 k1 k2 k3 k4
  subst k0 k1 k2 k3 k4
  exact ⟨x0, x1, x2, x3, x4, rfl, float_wf w0, float_wf w1, float_wf w2, float_wf w3, float_wf w4⟩
theorem okWide_arr {w : World} {r : Reach} {b t e : Nat} {n : Nat} {v : Value} (ht : Try.prog.underlying t = some (.array n e)) (h : Value.okWide Try.prog w r b t v) : ∃ cs, v = .agg cs ∧ cs.size = Try.prog.cellsOf t := by
  simp only [Value.okWide, ht] at h
  obtain ⟨cs, h1, h2, _⟩ := h
  exact ⟨cs, h1, h2⟩
/-- Three numbers. -/
theorem open_arr3 {H : Type} {enc : TypeId × Value → H} {W : World} {base : Nat} {spare : Nat → Bool} {held : Bool} {v : Value} {d : DataW H} {p : List MemPlace} {r : Reach} {b0 : Nat} (hv : Value.okWide Try.prog W r b0 40 v) (h : DataW.Trod enc Try.prog W base spare held 40 v d p) :
    ∃ z0 z1 z2 : Nat, v = .agg #[.float .f64 z0, .float .f64 z1, .float .f64 z2] ∧ z0 < 2 ^ 64 ∧ z1 < 2 ^ 64 ∧ z2 < 2 ^ 64 := by
  obtain ⟨cs, rfl, hsz⟩ := okWide_arr Try.underlying40 hv
  obtain ⟨c0, c1, c2, rfl⟩ := three_arr (hsz.trans cells40)
  obtain ⟨fuel, hf⟩ := h
  have hf' : DataW.trod enc Try.prog W base spare held fuel 40 [c0, c1, c2] = some (d, p) := by simpa [Value.cells] using hf
  obtain ⟨y0, y1, y2, n, _, e0, e1, e2⟩ := trod_array3 Try.underlying40 cells22 hf'
  obtain ⟨z0, k0, w0⟩ := trod_float Try.underlying22 e0
  obtain ⟨z1, k1, w1⟩ := trod_float Try.underlying22 e1
  obtain ⟨z2, k2, w2⟩ := trod_float Try.underlying22 e2
  simp only [List.cons.injEq, and_true] at k0 k1 k2
  subst k0 k1 k2
  exact ⟨z0, z1, z2, rfl, float_wf w0, float_wf w1, float_wf w2⟩
/-- Four numbers. -/
theorem open_arr4 {H : Type} {enc : TypeId × Value → H} {W : World} {base : Nat} {spare : Nat → Bool} {held : Bool} {v : Value} {d : DataW H} {p : List MemPlace} {r : Reach} {b0 : Nat} (hv : Value.okWide Try.prog W r b0 37 v) (h : DataW.Trod enc Try.prog W base spare held 37 v d p) :
    ∃ z0 z1 z2 z3 : Nat, v = .agg #[.float .f64 z0, .float .f64 z1, .float .f64 z2, .float .f64 z3] ∧ z0 < 2 ^ 64 ∧ z1 < 2 ^ 64 ∧ z2 < 2 ^ 64 ∧ z3 < 2 ^ 64 := by
  obtain ⟨cs, rfl, hsz⟩ := okWide_arr Try.underlying37 hv
  obtain ⟨c0, c1, c2, c3, rfl⟩ := four_arr (hsz.trans cells37)
  obtain ⟨fuel, hf⟩ := h
  have hf' : DataW.trod enc Try.prog W base spare held fuel 37 [c0, c1, c2, c3] = some (d, p) := by simpa [Value.cells] using hf
  obtain ⟨y0, y1, y2, y3, n, _, e0, e1, e2, e3⟩ := trod_array4 Try.underlying37 cells22 hf'
  obtain ⟨z0, k0, w0⟩ := trod_float Try.underlying22 e0
  obtain ⟨z1, k1, w1⟩ := trod_float Try.underlying22 e1
  obtain ⟨z2, k2, w2⟩ := trod_float Try.underlying22 e2
  obtain ⟨z3, k3, w3⟩ := trod_float Try.underlying22 e3
  simp only [List.cons.injEq, and_true] at k0 k1 k2 k3
  subst k0 k1 k2 k3
  exact ⟨z0, z1, z2, z3, rfl, float_wf w0, float_wf w1, float_wf w2, float_wf w3⟩
end Go.Proofs.Ytdolfkgnehiecaa
