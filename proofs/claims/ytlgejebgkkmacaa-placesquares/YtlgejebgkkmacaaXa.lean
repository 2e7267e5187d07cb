/- Points and sites that are handed in, opened. -/
import Derived.Test.YtlgejebgkkmacaaFl
import Derived.Test.YtlgejebgkkmacaaRows
import Derived.ProofKit
import Derived.OpenShut
import Derived.SizedLaws
import Derived.Carry
import Derived.Deep.Slices
import Derived.Deep.Grids
import Derived.Laws.IdiomArrays
namespace Go.Proofs.Ytlgejebgkkmacaa
open Go.ChangeShapes Go.WideShapes Go.ChangeAt Go.RowKit Go.Fl

theorem ownK : ownKnob Try.prog.godebug = none := by kernel_rfl
set_option maxRecDepth 100000 in
theorem laidOut : laidOutB Try.prog = true := by kernel_rfl
theorem cells24 : Try.prog.cellsOf 24 = 2 := by kernel_rfl
theorem cells26 : Try.prog.cellsOf 26 = 3 := by kernel_rfl
theorem cells22 : Try.prog.cellsOf 22 = 1 := by kernel_rfl
theorem two_arr {α : Type} {cs : Array α} (h : cs.size = 2) : ∃ a b, cs = #[a, b] := by
  obtain ⟨l⟩ := cs
  match l, h with
  | [a, b], _ => exact ⟨a, b, rfl⟩
theorem three_arr {α : Type} {cs : Array α} (h : cs.size = 3) : ∃ a b c, cs = #[a, b, c] := by
  obtain ⟨l⟩ := cs
  match l, h with
  | [a, b, c], _ => exact ⟨a, b, c, rfl⟩
theorem two_list {α : Type} {l : List α} (h : l.length = 2) : ∃ a b, l = [a, b] := by
  match l, h with
  | [a, b], _ => exact ⟨a, b, rfl⟩
theorem trod_float {H : Type} {enc : TypeId × Value → H} {P : Program} {w : World} {base : Nat} {spare : Nat → Bool} {held : Bool} {fuel : Nat} {t : TypeId} {cs : List Value} {x : DataW H × List MemPlace} {k : FloatKind} (ht : P.underlying t = some (.float k)) (h : DataW.trod enc P w base spare held fuel t cs = some x) : ∃ n, cs = [.float k n] ∧ (Lit.float k n).wf = true := by
  cases fuel with
  | zero => simp [DataW.trod] at h
  | succ n =>
    unfold DataW.trod at h
    rw [ht] at h
    split at h <;> simp_all
theorem float_wf {b : Nat} (h : (Lit.float .f64 b).wf = true) : b < 2 ^ 64 := by
  have h2 : decide (b < 2 ^ 64) = true := h
  simpa using h2
theorem trod_pt {H : Type} {enc : TypeId × Value → H} {W : World} {base : Nat} {spare : Nat → Bool} {held : Bool} {fuel : Nat} {c0 c1 : Value} {z : DataW H × List MemPlace} (hf : DataW.trod enc Try.prog W base spare held fuel 24 [c0, c1] = some z) : ∃ x y : Nat, c0 = .float .f64 x ∧ c1 = .float .f64 y ∧ x < 2 ^ 64 ∧ y < 2 ^ 64 := by
  obtain ⟨d, p⟩ := z
  obtain ⟨xs, n, _, _, _, hlen, hall⟩ := DataW.trod_struct Try.underlying24 hf
  obtain ⟨y0, y1, rfl⟩ := two_list (by simpa using hlen)
  have e0 : DataW.trod enc Try.prog W base spare held n 22 [c0] = some y0 := by simpa [Value.cells, cells22] using hall 0 _ rfl
  have e1 : DataW.trod enc Try.prog W base spare held n 22 [c1] = some y1 := by simpa [Value.cells, cells22] using hall 1 _ rfl
  obtain ⟨x0, k0, w0⟩ := trod_float Try.underlying22 e0
  obtain ⟨x1, k1, w1⟩ := trod_float Try.underlying22 e1
  simp only [List.cons.injEq, and_true] at k0 k1
  exact ⟨x0, x1, k0, k1, float_wf w0, float_wf w1⟩
theorem open_pt {H : Type} {enc : TypeId × Value → H} {W : World} {base : Nat} {spare : Nat → Bool} {held : Bool} {v : Value} {d : DataW H} {p : List MemPlace} {r : Reach} {b0 : Nat} (hv : Value.okWide Try.prog W r b0 24 v) (h : DataW.Trod enc Try.prog W base spare held 24 v d p) :
    ∃ x y : Nat, v = .agg #[.float .f64 x, .float .f64 y] ∧ x < 2 ^ 64 ∧ y < 2 ^ 64 := by
  obtain ⟨cs, rfl, hsz⟩ := okWide_struct Try.underlying24 hv
  obtain ⟨c0, c1, rfl⟩ := two_arr (hsz.trans cells24)
  obtain ⟨fuel, hf⟩ := h
  obtain ⟨x, y, rfl, rfl, h1, h2⟩ := trod_pt (by simpa [Value.cells] using hf)
  exact ⟨x, y, rfl, h1, h2⟩
theorem open_site {H : Type} {enc : TypeId × Value → H} {W : World} {base : Nat} {spare : Nat → Bool} {held : Bool} {v : Value} {d : DataW H} {p : List MemPlace} {r : Reach} {b0 : Nat} (hv : Value.okWide Try.prog W r b0 26 v) (h : DataW.Trod enc Try.prog W base spare held 26 v d p) :
    ∃ x y t : Nat, v = .agg #[.float .f64 x, .float .f64 y, .float .f64 t] ∧ x < 2 ^ 64 ∧ y < 2 ^ 64 ∧ t < 2 ^ 64 := by
  obtain ⟨cs, rfl, hsz⟩ := okWide_struct Try.underlying26 hv
  obtain ⟨c0, c1, c2, rfl⟩ := three_arr (hsz.trans cells26)
  obtain ⟨fuel, hf⟩ := h
  obtain ⟨xs, n, _, _, _, hlen, hall⟩ := DataW.trod_struct Try.underlying26 hf
  obtain ⟨y0, y1, rfl⟩ := two_list (by simpa using hlen)
  have e0 : DataW.trod enc Try.prog W base spare held n 24 [c0, c1] = some y0 := by simpa [Value.cells, cells24] using hall 0 _ rfl
  have e1 : DataW.trod enc Try.prog W base spare held n 22 [c2] = some y1 := by simpa [Value.cells, cells22] using hall 1 _ rfl
  obtain ⟨x, y, rfl, rfl, h1, h2⟩ := trod_pt e0
  obtain ⟨x1, k1, w1⟩ := trod_float Try.underlying22 e1
  simp only [List.cons.injEq, and_true] at k1
  subst k1
  exact ⟨x, y, x1, rfl, h1, h2, float_wf w1⟩
theorem i64_wf {n : Int} (h : (Lit.int .i64 n).wf = true) : -9223372036854775808 ≤ n ∧ n ≤ 9223372036854775807 := by
  have h2 : (decide ((-9223372036854775808 : Int) ≤ n) && decide (n ≤ 9223372036854775807)) = true := h
  simpa using h2
end Go.Proofs.Ytlgejebgkkmacaa
