/- An array of three floats that is handed in, opened. -/
import Derived.Test.YtephkmahnbhmbaaXs
import Derived.Laws.IdiomArrays
namespace Go.Proofs.Ytephkmahnbhmbaa
open Go.ChangeShapes Go.WideShapes Go.ChangeAt Go.RowKit Go.Fl Go.Sort

set_option maxRecDepth 20000
theorem cells37 : Try.prog.cellsOf 37 = 3 := by kernel_rfl
theorem okWide_arr {w : World} {r : Reach} {b t e : Nat} {n : Nat} {v : Value} (ht : Try.prog.underlying t = some (.array n e)) (h : Value.okWide Try.prog w r b t v) : ∃ cs, v = .agg cs ∧ cs.size = Try.prog.cellsOf t := by
  simp only [Value.okWide, ht] at h
  obtain ⟨cs, h1, h2, _⟩ := h
  exact ⟨cs, h1, h2⟩
theorem three_arr {α : Type} {cs : Array α} (h : cs.size = 3) : ∃ a b c, cs = #[a, b, c] := by
  obtain ⟨l⟩ := cs
  match l, h with
  | [a, b, c], _ => exact ⟨a, b, c, rfl⟩
/-- The three numbers. -/
theorem open_arr3 {H : Type} {enc : TypeId × Value → H} {W : World} {base : Nat} {spare : Nat → Bool} {held : Bool} {v : Value} {d : DataW H} {p : List MemPlace} {r : Reach} {b0 : Nat} (hv : Value.okWide Try.prog W r b0 37 v) (h : DataW.Trod enc Try.prog W base spare held 37 v d p) :
    ∃ z0 z1 z2 : Nat, v = .agg #[.float .f64 z0, .float .f64 z1, .float .f64 z2] := by
  obtain ⟨cs, rfl, hsz⟩ := okWide_arr Try.underlying37 hv
  obtain ⟨c0, c1, c2, rfl⟩ := three_arr (hsz.trans cells37)
  obtain ⟨fuel, hf⟩ := h
  have hf' : DataW.trod enc Try.prog W base spare held fuel 37 [c0, c1, c2] = some (d, p) := by simpa [Value.cells] using hf
  obtain ⟨y0, y1, y2, n, _, e0, e1, e2⟩ := trod_array3 Try.underlying37 cells24 hf'
  obtain ⟨z0, k0, _⟩ := trod_float Try.underlying24 e0
  obtain ⟨z1, k1, _⟩ := trod_float Try.underlying24 e1
  obtain ⟨z2, k2, _⟩ := trod_float Try.underlying24 e2
  simp only [List.cons.injEq, and_true] at k0 k1 k2
  subst k0 k1 k2
  exact ⟨z0, z1, z2, rfl⟩
end Go.Proofs.Ytephkmahnbhmbaa
