/- An array of five int32s that is handed in, opened. -/
import Derived.Test.YtdolfkgnehiecaaXa
namespace Go.Proofs.Ytdolfkgnehiecaa
open Go.ChangeShapes Go.WideShapes Go.ChangeAt Go.RowKit Go.Fl

theorem cells45 : Try.prog.cellsOf 45 = 5 := by kernel_rfl
theorem cells21 : Try.prog.cellsOf 21 = 1 := by kernel_rfl
theorem i32_wf {n : Int} (h : (Lit.int .i32 n).wf = true) : -2147483648 ≤ n ∧ n ≤ 2147483647 := by
  have h2 : (decide ((-2147483648 : Int) ≤ n) && decide (n ≤ 2147483647)) = true := h
  simpa using h2
theorem u8_wf {n : Int} (h : (Lit.int .u8 n).wf = true) : 0 ≤ n ∧ n ≤ 255 := by
  have h2 : (decide ((0 : Int) ≤ n) && decide (n ≤ 255)) = true := h
  simpa using h2
theorem open_arr5 {H : Type} {enc : TypeId × Value → H} {W : World} {base : Nat} {spare : Nat → Bool} {held : Bool} {v : Value} {d : DataW H} {p : List MemPlace} {r : Reach} {b0 : Nat} (hv : Value.okWide Try.prog W r b0 45 v) (h : DataW.Trod enc Try.prog W base spare held 45 v d p) :
    ∃ z0 z1 z2 z3 z4 : Int, v = .agg #[.int .i32 z0, .int .i32 z1, .int .i32 z2, .int .i32 z3, .int .i32 z4] ∧ (-2147483648 ≤ z0 ∧ z0 ≤ 2147483647) ∧ (-2147483648 ≤ z1 ∧ z1 ≤ 2147483647) ∧ (-2147483648 ≤ z2 ∧ z2 ≤ 2147483647) ∧ (-2147483648 ≤ z3 ∧ z3 ≤ 2147483647) ∧ (-2147483648 ≤ z4 ∧ z4 ≤ 2147483647) := by
  obtain ⟨cs, rfl, hsz⟩ := okWide_arr Try.underlying45 hv
  obtain ⟨c0, c1, c2, c3, c4, rfl⟩ := five (hsz.trans cells45)
  obtain ⟨fuel, hf⟩ := h
  have hf' : DataW.trod enc Try.prog W base spare held fuel 45 [c0, c1, c2, c3, c4] = some (d, p) := by simpa [Value.cells] using hf
  obtain ⟨xs, m, _, _, _, hlen, hall⟩ := DataW.trod_array Try.underlying45 hf'
  obtain ⟨y0, y1, y2, y3, y4, rfl⟩ := five_list hlen
  have e0 : DataW.trod enc Try.prog W base spare held m 21 [c0] = some y0 := by simpa [cells21] using hall 0 (by omega)
  have e1 : DataW.trod enc Try.prog W base spare held m 21 [c1] = some y1 := by simpa [cells21] using hall 1 (by omega)
  have e2 : DataW.trod enc Try.prog W base spare held m 21 [c2] = some y2 := by simpa [cells21] using hall 2 (by omega)
  have e3 : DataW.trod enc Try.prog W base spare held m 21 [c3] = some y3 := by simpa [cells21] using hall 3 (by omega)
  have e4 : DataW.trod enc Try.prog W base spare held m 21 [c4] = some y4 := by simpa [cells21] using hall 4 (by omega)
  obtain ⟨z0, k0, _, w0⟩ := DataW.trod_int Try.underlying21 e0
  obtain ⟨z1, k1, _, w1⟩ := DataW.trod_int Try.underlying21 e1
  obtain ⟨z2, k2, _, w2⟩ := DataW.trod_int Try.underlying21 e2
  obtain ⟨z3, k3, _, w3⟩ := DataW.trod_int Try.underlying21 e3
  obtain ⟨z4, k4, _, w4⟩ := DataW.trod_int Try.underlying21 e4
  simp only [List.cons.injEq, and_true] at k0 k1 k2 k3 k4
  subst k0 k1 k2 k3 k4
  exact ⟨z0, z1, z2, z3, z4, rfl, i32_wf w0, i32_wf w1, i32_wf w2, i32_wf w3, i32_wf w4⟩
end Go.Proofs.Ytdolfkgnehiecaa
