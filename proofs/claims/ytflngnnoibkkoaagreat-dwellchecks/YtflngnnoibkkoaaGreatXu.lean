/- A setup that is handed in, opened. -/
import Derived.Test.YtflngnnoibkkoaaGreatEt
import Derived.ProofKit
import Derived.OpenShut
import Derived.SizedLaws
import Derived.Carry
import Derived.Deep.Grids
namespace Go.Proofs.YtflngnnoibkkoaaGreat
open Go.ChangeShapes Go.WideShapes Go.ChangeAt Go.RowKit Go.Fl

theorem ownK : ownKnob Tryz.prog.godebug = none := by kernel_rfl
set_option maxRecDepth 100000 in
theorem laidOut : laidOutB Tryz.prog = true := by kernel_rfl
theorem cells27 : Tryz.prog.cellsOf 27 = 14 := by kernel_rfl
theorem cells24 : Tryz.prog.cellsOf 24 = 5 := by kernel_rfl
theorem cells25 : Tryz.prog.cellsOf 25 = 1 := by kernel_rfl
theorem cells22 : Tryz.prog.cellsOf 22 = 1 := by kernel_rfl
theorem cells3 : Tryz.prog.cellsOf 3 = 1 := by kernel_rfl
theorem fourteen {α : Type} {cs : Array α} (h : cs.size = 14) : ∃ c0 c1 c2 c3 c4 c5 c6 c7 c8 c9 c10 c11 c12 c13, cs = #[c0, c1, c2, c3, c4, c5, c6, c7, c8, c9, c10, c11, c12, c13] := by
  obtain ⟨l⟩ := cs
  match l, h with
  | [c0, c1, c2, c3, c4, c5, c6, c7, c8, c9, c10, c11, c12, c13], _ => exact ⟨c0, c1, c2, c3, c4, c5, c6, c7, c8, c9, c10, c11, c12, c13, rfl⟩
theorem five_list {α : Type} {l : List α} (h : l.length = 5) : ∃ a b c d e, l = [a, b, c, d, e] := by
  match l, h with
  | [a, b, c, d, e], _ => exact ⟨a, b, c, d, e, rfl⟩
theorem ten_list {α : Type} {l : List α} (h : l.length = 10) : ∃ a b c d e f g h i j, l = [a, b, c, d, e, f, g, h, i, j] := by
  match l, h with
  | [a, b, c, d, e, f, g, h, i, j], _ => exact ⟨a, b, c, d, e, f, g, h, i, j, rfl⟩
theorem trod_float {H : Type} {enc : TypeId × Value → H} {P : Program} {w : World} {base : Nat} {spare : Nat → Bool} {held : Bool} {fuel : Nat} {t : TypeId} {cs : List Value} {x : DataW H × List MemPlace} {k : FloatKind} (ht : P.underlying t = some (.float k)) (h : DataW.trod enc P w base spare held fuel t cs = some x) : ∃ n, cs = [.float k n] := by
  cases fuel with
  | zero => simp [DataW.trod] at h
  | succ n =>
    unfold DataW.trod at h
    rw [ht] at h
    split at h <;> simp_all
theorem beat_cells {H : Type} {enc : TypeId × Value → H} {W : World} {base fuel : Nat} {spare : Nat → Bool} {held : Bool} {c0 c1 c2 c3 c4 : Value} {y : DataW H × List MemPlace} (hf : DataW.trod enc Tryz.prog W base spare held fuel 24 [c0, c1, c2, c3, c4] = some y) : ∃ (c v r : Nat) (E R : Int), c0 = .float .f64 c ∧ c1 = .float .f64 v ∧ c2 = .float .f64 r ∧ c3 = .int .i64 E ∧ c4 = .int .i64 R := by
  obtain ⟨xs, n, _, _, _, hlen, hall⟩ := DataW.trod_struct Tryz.underlying24 hf
  obtain ⟨y0, y1, y2, y3, y4, rfl⟩ := five_list (by simpa using hlen)
  have e0 : DataW.trod enc Tryz.prog W base spare held n 22 [c0] = some y0 := by simpa [cells22] using hall 0 _ rfl
  have e1 : DataW.trod enc Tryz.prog W base spare held n 22 [c1] = some y1 := by simpa [cells22] using hall 1 _ rfl
  have e2 : DataW.trod enc Tryz.prog W base spare held n 22 [c2] = some y2 := by simpa [cells22] using hall 2 _ rfl
  have e3 : DataW.trod enc Tryz.prog W base spare held n 3 [c3] = some y3 := by simpa [cells3] using hall 3 _ rfl
  have e4 : DataW.trod enc Tryz.prog W base spare held n 3 [c4] = some y4 := by simpa [cells3] using hall 4 _ rfl
  obtain ⟨x0, k0⟩ := trod_float Tryz.underlying22 e0
  obtain ⟨x1, k1⟩ := trod_float Tryz.underlying22 e1
  obtain ⟨x2, k2⟩ := trod_float Tryz.underlying22 e2
  obtain ⟨x3, k3, _, w3⟩ := DataW.trod_int Tryz.underlying3 e3
  obtain ⟨x4, k4, _, w4⟩ := DataW.trod_int Tryz.underlying3 e4
  simp only [List.cons.injEq, and_true] at k0 k1 k2 k3 k4
  exact ⟨x0, x1, x2, x3, x4, k0, k1, k2, k3, k4⟩
set_option maxRecDepth 100000
/-- The setup's fourteen cells, each as it reads. -/
theorem opened {H : Type} {enc : TypeId × Value → H} {W : World} {base : Nat} {spare : Nat → Bool} {held : Bool} {u : Value} {d : DataW H} {p : List MemPlace} {r0 : Reach} {b0 : Nat} (hv : Value.okWide Tryz.prog W r0 b0 27 u) (h : DataW.Trod enc Tryz.prog W base spare held 27 u d p) :
    ∃ (c v r : Nat) (E R cd win can way gu tr nth : Int) (ti no : Nat), u = .agg #[.float .f64 c, .float .f64 v, .float .f64 r, .int .i64 E, .int .i64 R, .int .i64 cd, .int .i8 win, .int .i64 can, .int .i8 way, .int .i64 gu, .int .i64 tr, .int .i64 nth, .float .f64 ti, .float .f64 no] := by
  obtain ⟨cs, rfl, hsz⟩ := okWide_struct Tryz.underlying27 hv
  obtain ⟨c0, c1, c2, c3, c4, c5, c6, c7, c8, c9, c10, c11, c12, c13, rfl⟩ := fourteen (hsz.trans cells27)
  obtain ⟨fuel, hf⟩ := h
  obtain ⟨xs, n, _, _, _, hlen, hall⟩ := DataW.trod_struct Tryz.underlying27 hf
  obtain ⟨y0, y1, y2, y3, y4, y5, y6, y7, y8, y9, rfl⟩ := ten_list (by simpa using hlen)
  have e0 : DataW.trod enc Tryz.prog W base spare held n 24 [c0, c1, c2, c3, c4] = some y0 := by simpa [Value.cells, cells24, cells22, cells3, cells25] using hall 0 _ rfl
  have e1 : DataW.trod enc Tryz.prog W base spare held n 3 [c5] = some y1 := by simpa [Value.cells, cells24, cells22, cells3, cells25] using hall 1 _ rfl
  have e2 : DataW.trod enc Tryz.prog W base spare held n 25 [c6] = some y2 := by simpa [Value.cells, cells24, cells22, cells3, cells25] using hall 2 _ rfl
  have e3 : DataW.trod enc Tryz.prog W base spare held n 3 [c7] = some y3 := by simpa [Value.cells, cells24, cells22, cells3, cells25] using hall 3 _ rfl
  have e4 : DataW.trod enc Tryz.prog W base spare held n 25 [c8] = some y4 := by simpa [Value.cells, cells24, cells22, cells3, cells25] using hall 4 _ rfl
  have e5 : DataW.trod enc Tryz.prog W base spare held n 3 [c9] = some y5 := by simpa [Value.cells, cells24, cells22, cells3, cells25] using hall 5 _ rfl
  have e6 : DataW.trod enc Tryz.prog W base spare held n 3 [c10] = some y6 := by simpa [Value.cells, cells24, cells22, cells3, cells25] using hall 6 _ rfl
  have e7 : DataW.trod enc Tryz.prog W base spare held n 3 [c11] = some y7 := by simpa [Value.cells, cells24, cells22, cells3, cells25] using hall 7 _ rfl
  have e8 : DataW.trod enc Tryz.prog W base spare held n 22 [c12] = some y8 := by simpa [Value.cells, cells24, cells22, cells3, cells25] using hall 8 _ rfl
  have e9 : DataW.trod enc Tryz.prog W base spare held n 22 [c13] = some y9 := by simpa [Value.cells, cells24, cells22, cells3, cells25] using hall 9 _ rfl
  obtain ⟨x0, x1, x2, x3, x4, rfl, rfl, rfl, rfl, rfl⟩ := beat_cells e0
  obtain ⟨x5, k1, _, w1⟩ := DataW.trod_int Tryz.underlying3 e1
  obtain ⟨x6, k2, _, w2⟩ := DataW.trod_int Tryz.underlying25 e2
  obtain ⟨x7, k3, _, w3⟩ := DataW.trod_int Tryz.underlying3 e3
  obtain ⟨x8, k4, _, w4⟩ := DataW.trod_int Tryz.underlying25 e4
  obtain ⟨x9, k5, _, w5⟩ := DataW.trod_int Tryz.underlying3 e5
  obtain ⟨x10, k6, _, w6⟩ := DataW.trod_int Tryz.underlying3 e6
  obtain ⟨x11, k7, _, w7⟩ := DataW.trod_int Tryz.underlying3 e7
  obtain ⟨x12, k8⟩ := trod_float Tryz.underlying22 e8
  obtain ⟨x13, k9⟩ := trod_float Tryz.underlying22 e9
  simp only [List.cons.injEq, and_true] at k1 k2 k3 k4 k5 k6 k7 k8 k9
  subst k1 k2 k3 k4 k5 k6 k7 k8 k9
  exact ⟨x0, x1, x2, x3, x4, x5, x6, x7, x8, x9, x10, x11, x12, x13, rfl⟩
end Go.Proofs.YtflngnnoibkkoaaGreat
