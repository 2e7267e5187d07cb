/- Lists of pairs of ints that are handed in, opened. -/
import Derived.Test.YtjnggbpifclpcabMe
import Derived.ProofKit
import Derived.OpenShut
import Derived.SizedLaws
import Derived.Carry
import Derived.Deep.Slices
import Derived.Deep.Grids
import Derived.ChangeSlices
import Derived.Laws.IdiomArrays
namespace Go.Proofs.Ytjnggbpifclpcab
open Go.ChangeShapes Go.WideShapes Go.ChangeAt Go.RowKit Go.Fl

theorem ownK : ownKnob Try.prog.godebug = none := by kernel_rfl
set_option maxRecDepth 100000 in
theorem laidOut : laidOutB Try.prog = true := by kernel_rfl
set_option maxRecDepth 20000 in
theorem cells2 : Try.prog.cellsOf 3 = 1 := by kernel_rfl
set_option maxRecDepth 20000 in
theorem cells47 : Try.prog.cellsOf 28 = 2 := by kernel_rfl
set_option maxRecDepth 20000 in
theorem cells22 : Try.prog.cellsOf 22 = 1 := by kernel_rfl
theorem okWide_arr {w : World} {r : Reach} {b t e : Nat} {n : Nat} {v : Value} (ht : Try.prog.underlying t = some (.array n e)) (h : Value.okWide Try.prog w r b t v) : ∃ cs, v = .agg cs ∧ cs.size = Try.prog.cellsOf t := by
  simp only [Value.okWide, ht] at h
  obtain ⟨cs, h1, h2, _⟩ := h
  exact ⟨cs, h1, h2⟩
theorem spot_of {w : World} {blk off : Nat} {spot : Option Nat} {x : Value} (h : w.cell? ⟨blk, off, spot⟩ = some x) : spot = none := by
  unfold World.cell? at h
  split at h
  · cases spot with
    | none => rfl
    | some s => simp at h
  · simp at h
theorem two {α : Type} {cs : Array α} (h : cs.size = 2) : ∃ a b, cs = #[a, b] := by
  obtain ⟨l⟩ := cs
  match l, h with
  | [a, b], _ => exact ⟨a, b, rfl⟩
theorem add_at (blk off j : Nat) : (⟨blk, off, none⟩ : Addr).add j = ⟨blk, off + j, none⟩ := by
  unfold Addr.add
  split
  · rename_i hj0; rw [hj0]; rfl
  · rfl
set_option maxRecDepth 20000 in
/-- The cells of a pair. -/
theorem pair_cells {H : Type} {enc : TypeId × Value → H} {W : World} {base : Nat} {spare : Nat → Bool} {held : Bool} {n : Nat} {c0 c1 : Value} {y : DataW H × List MemPlace} (h2 : DataW.trod enc Try.prog W base spare held n 28 [c0, c1] = some y) :
    ∃ x0 x1 : Int, c0 = .int .i64 x0 ∧ c1 = .int .i64 x1 := by
  obtain ⟨xs, m, _, _, _, hxl, hx⟩ := DataW.trod_array Try.underlying28 h2
  rw [cells2] at hx
  obtain ⟨y0, y1, rfl⟩ : ∃ y0 y1, xs = [y0, y1] := by
    match xs, hxl with
    | [y0, y1], _ => exact ⟨y0, y1, rfl⟩
  have e0 : DataW.trod enc Try.prog W base spare held m 3 [c0] = some y0 := by simpa using hx 0 (by omega)
  have e1 : DataW.trod enc Try.prog W base spare held m 3 [c1] = some y1 := by simpa using hx 1 (by omega)
  obtain ⟨z0, k0, _, _⟩ := DataW.trod_int Try.underlying3 e0
  obtain ⟨z1, k1, _, _⟩ := DataW.trod_int Try.underlying3 e1
  simp only [List.cons.injEq, and_true] at k0 k1
  exact ⟨z0, z1, k0, k1⟩
set_option maxRecDepth 20000 in
/-- A row of pairs, opened. -/
theorem open_pairs {H : Type} {enc : TypeId × Value → H} {w : World} {base fuel : Nat} {held : Bool} {cs : List Value} {x : DataW H × List MemPlace} (h : DataW.trod enc Try.prog w base (fun _ => true) held fuel 22 cs = some x) :
    ∃ (p : Option Addr) (len cap : Nat) (f : Nat → Int × Int), cs = [.slice p len cap] ∧ PI w p len f := by
  rcases Go.Deep.open_slice Try.underlying22 h with ⟨hcs, hx⟩ | ⟨a, len, cap, m, n, D, Pl, hcs, hb, hl, hm, hmm, hx, hcell⟩
  · exact ⟨none, 0, 0, fun _ => (0, 0), hcs, fun h => by omega⟩
  simp only [if_true] at hmm
  rcases Nat.eq_zero_or_pos len with rfl | hp
  · exact ⟨some a, 0, cap, fun _ => (0, 0), hcs, fun h => by omega⟩
  have each : ∀ i, i < len → ∃ y : Int × Int, w.cell? ((a.add (i * 2)).add 0) = some (.int .i64 y.1) ∧ w.cell? ((a.add (i * 2)).add 1) = some (.int .i64 y.2) := by
    intro i hi
    obtain ⟨cs', g1, g2⟩ := hcell i (by omega)
    rw [cells47] at g1
    obtain ⟨_, hll, hc⟩ := World.cells?_some g1
    obtain ⟨c0, c1, rfl⟩ : ∃ c0 c1, cs' = [c0, c1] := by
      match cs', hll with
      | [c0, c1], _ => exact ⟨c0, c1, rfl⟩
    obtain ⟨z0, z1, rfl, rfl⟩ := pair_cells g2
    exact ⟨(z0, z1), hc 0 (by omega), hc 1 (by omega)⟩
  obtain ⟨y, hy⟩ := Go.Deep.choose_lt each
  refine ⟨some a, len, cap, y, hcs, fun _ => ?_⟩
  obtain ⟨blk, off, spot⟩ := a
  have hs : spot = none := by
    have c0 := (hy 0 hp).1
    simp only [Nat.zero_mul, Addr.add, if_true] at c0
    exact spot_of c0
  subst hs
  refine ⟨blk, off, rfl, fun i hi => ?_⟩
  obtain ⟨c0, c1⟩ := hy i hi
  rw [add_at, add_at] at c0 c1
  exact ⟨c0, c1⟩
theorem open_pi {H : Type} {enc : TypeId × Value → H} {W : World} {base : Nat} {held : Bool} {v : Value} {d : DataW H} {p : List MemPlace} {r : Reach} {b0 : Nat} (hv : Value.okWide Try.prog W r b0 22 v) (h : DataW.Trod enc Try.prog W base (fun _ => true) held 22 v d p) :
    ∃ q n cap f, v = .slice q n cap ∧ PI W q n f := by
  obtain ⟨a0, len, cap, rfl⟩ := okWide_slice Try.underlying22 hv
  obtain ⟨fuel, hf⟩ := h
  obtain ⟨q, n, c, f, hcs, hp⟩ := open_pairs hf
  simp [Value.cells] at hcs
  obtain ⟨rfl, rfl, rfl⟩ := hcs
  exact ⟨_, _, _, f, rfl, hp⟩
end Go.Proofs.Ytjnggbpifclpcab
