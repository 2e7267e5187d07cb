/- StillWeighed (P13.6): whatever the rows of pairs, the order and the pair that is added are, the law returns true: each number that Cancel leaves is the weighed sum of the rows' numbers, and what is added to all rows is gone. No condition. -/
import Derived.Test.YtgalgnopjcpocaaVf
import Derived.ProofKit
import Derived.OpenShut
import Derived.SizedLaws
import Derived.Carry
import Derived.Deep.Slices
import Derived.Deep.Grids
import Derived.Laws.IdiomArrays
namespace Go.Proofs.Ytgalgnopjcpocaa
namespace stillWeighed
open Go.ChangeShapes Go.WideShapes Go.ChangeAt Go.RowKit Go.Fl

theorem ownK : ownKnob Try.prog.godebug = none := by kernel_rfl
set_option maxRecDepth 100000 in
theorem laidOut : laidOutB Try.prog = true := by kernel_rfl
set_option maxRecDepth 20000 in
theorem cells2 : Try.prog.cellsOf 2 = 1 := by kernel_rfl
set_option maxRecDepth 20000 in
theorem cells47 : Try.prog.cellsOf 47 = 2 := by kernel_rfl
set_option maxRecDepth 20000 in
theorem cells48 : Try.prog.cellsOf 48 = 1 := by kernel_rfl
set_option maxRecDepth 20000 in
theorem okWide_arr {w : World} {r : Reach} {b t e : Nat} {n : Nat} {v : Value} (ht : Try.prog.underlying t = some (.array n e)) (h : Value.okWide Try.prog w r b t v) : ∃ cs, v = .agg cs ∧ cs.size = Try.prog.cellsOf t := by
  simp only [Value.okWide, ht] at h
  obtain ⟨cs, h1, h2, _⟩ := h
  exact ⟨cs, h1, h2⟩
theorem spot_of {w : World} {blk off : Nat} {spot : Option Nat} {x : Value} (h : w.cell? ⟨blk, off, spot⟩ = some x) : spot = none := by
  unfold World.cell? at h
  split at h
  · cases spot with
    | none => rfl
    | some s => simp at h
  · simp at h
theorem two {α : Type} {cs : Array α} (h : cs.size = 2) : ∃ a b, cs = #[a, b] := by
  obtain ⟨l⟩ := cs
  match l, h with
  | [a, b], _ => exact ⟨a, b, rfl⟩
theorem add_at (blk off j : Nat) : (⟨blk, off, none⟩ : Addr).add j = ⟨blk, off + j, none⟩ := by
  unfold Addr.add
  split
  · rename_i hj0; rw [hj0]; rfl
  · rfl
set_option maxRecDepth 20000 in
/-- The cells of a pair. -/
theorem pair_cells {H : Type} {enc : TypeId × Value → H} {W : World} {base : Nat} {spare : Nat → Bool} {held : Bool} {n : Nat} {c0 c1 : Value} {y : DataW H × List MemPlace} (h2 : DataW.trod enc Try.prog W base spare held n 47 [c0, c1] = some y) :
    ∃ x0 x1 : Int, c0 = .int .i64 x0 ∧ c1 = .int .i64 x1 := by
  obtain ⟨xs, m, _, _, _, hxl, hx⟩ := DataW.trod_array Try.underlying47 h2
  rw [cells2] at hx
  obtain ⟨y0, y1, rfl⟩ : ∃ y0 y1, xs = [y0, y1] := by
    match xs, hxl with
    | [y0, y1], _ => exact ⟨y0, y1, rfl⟩
  have e0 : DataW.trod enc Try.prog W base spare held m 2 [c0] = some y0 := by simpa using hx 0 (by omega)
  have e1 : DataW.trod enc Try.prog W base spare held m 2 [c1] = some y1 := by simpa using hx 1 (by omega)
  obtain ⟨z0, k0, _, _⟩ := DataW.trod_int Try.underlying2 e0
  obtain ⟨z1, k1, _, _⟩ := DataW.trod_int Try.underlying2 e1
  simp only [List.cons.injEq, and_true] at k0 k1
  exact ⟨z0, z1, k0, k1⟩
set_option maxRecDepth 20000 in
/-- The pair that is added. -/
theorem opened {H : Type} {enc : TypeId × Value → H} {W : World} {base : Nat} {spare : Nat → Bool} {held : Bool} {v : Value} {d : DataW H} {p : List MemPlace} {r : Reach} {b0 : Nat} (hv : Value.okWide Try.prog W r b0 47 v) (h : DataW.Trod enc Try.prog W base spare held 47 v d p) :
    ∃ z0 z1 : Int, v = .agg #[.int .i64 z0, .int .i64 z1] := by
  obtain ⟨cs, rfl, hsz⟩ := okWide_arr Try.underlying47 hv
  obtain ⟨c0, c1, rfl⟩ := two (hsz.trans cells47)
  obtain ⟨fuel, hf⟩ := h
  have hf' : DataW.trod enc Try.prog W base spare held fuel 47 [c0, c1] = some (d, p) := by simpa [Value.cells] using hf
  obtain ⟨z0, z1, rfl, rfl⟩ := pair_cells hf'
  exact ⟨z0, z1, rfl⟩
set_option maxRecDepth 20000 in
/-- A row of pairs, opened. -/
theorem open_pairs {H : Type} {enc : TypeId × Value → H} {w : World} {base fuel : Nat} {held : Bool} {cs : List Value} {x : DataW H × List MemPlace} (h : DataW.trod enc Try.prog w base (fun _ => true) held fuel 48 cs = some x) :
    ∃ (p : Option Addr) (len cap : Nat) (f : Nat → Int × Int), cs = [.slice p len cap] ∧ PI w p len f := by
  rcases Go.Deep.open_slice Try.underlying48 h with ⟨hcs, hx⟩ | ⟨a, len, cap, m, n, D, Pl, hcs, hb, hl, hm, hmm, hx, hcell⟩
  · exact ⟨none, 0, 0, fun _ => (0, 0), hcs, fun h => by omega⟩
  simp only [if_true] at hmm
  rcases Nat.eq_zero_or_pos len with rfl | hp
  · exact ⟨some a, 0, cap, fun _ => (0, 0), hcs, fun h => by omega⟩
  have each : ∀ i, i < len → ∃ y : Int × Int, w.cell? ((a.add (i * 2)).add 0) = some (.int .i64 y.1) ∧ w.cell? ((a.add (i * 2)).add 1) = some (.int .i64 y.2) := by
    intro i hi
    obtain ⟨cs', g1, g2⟩ := hcell i (by omega)
    rw [cells47] at g1
    obtain ⟨_, hll, hc⟩ := World.cells?_some g1
    obtain ⟨c0, c1, rfl⟩ : ∃ c0 c1, cs' = [c0, c1] := by
      match cs', hll with
      | [c0, c1], _ => exact ⟨c0, c1, rfl⟩
    obtain ⟨z0, z1, rfl, rfl⟩ := pair_cells g2
    exact ⟨(z0, z1), hc 0 (by omega), hc 1 (by omega)⟩
  obtain ⟨y, hy⟩ := Go.Deep.choose_lt each
  refine ⟨some a, len, cap, y, hcs, fun _ => ?_⟩
  obtain ⟨blk, off, spot⟩ := a
  have hs : spot = none := by
    have c0 := (hy 0 hp).1
    simp only [Nat.zero_mul, Addr.add, if_true] at c0
    exact spot_of c0
  subst hs
  refine ⟨blk, off, rfl, fun i hi => ?_⟩
  obtain ⟨c0, c1⟩ := hy i hi
  rw [add_at, add_at] at c0 c1
  exact ⟨c0, c1⟩
set_option maxRecDepth 20000 in
/-- Rows of pairs, opened. -/
theorem open_rows {H : Type} {enc : TypeId × Value → H} {w : World} {base fuel : Nat} {held : Bool} {cs : List Value} {x : DataW H × List MemPlace} (h : DataW.trod enc Try.prog w base (fun _ => true) held fuel 46 cs = some x) :
    ∃ (p : Option Addr) (len cap R ro : Nat) (P : Nat → Option Addr) (Ln Cp : Nat → Nat) (f : Nat → Nat → Int × Int), cs = [.slice p len cap] ∧ (0 < len → p = some ⟨R, ro, none⟩) ∧ GP w R ro len P Ln Cp f := by
  rcases Go.Deep.open_slice1 Try.underlying46 cells48 h with ⟨h0, _⟩ | ⟨a, len, cap, m, n, V, D, Pl, rfl, hb, hl, hm, hmm, rfl, hx⟩
  · exact ⟨none, 0, 0, 0, 0, fun _ => none, fun _ => 0, fun _ => 0, fun _ _ => (0, 0), h0, fun h => by omega, ⟨fun i hi => by omega, fun i hi => by omega⟩⟩
  simp only [if_true] at hmm
  subst hmm
  rcases Nat.eq_zero_or_pos len with rfl | hp
  · exact ⟨some a, 0, m, 0, 0, fun _ => none, fun _ => 0, fun _ => 0, fun _ _ => (0, 0), rfl, fun h => by omega, ⟨fun i hi => by omega, fun i hi => by omega⟩⟩
  have h0 := (hx 0 (by omega)).1
  obtain ⟨blk, off, spot⟩ := a
  have hs : spot = none := by
    simp only [Addr.add, if_true] at h0
    exact spot_of h0
  subst hs
  have each : ∀ i, i < len → ∃ y : Option Addr × Nat × Nat × (Nat → Int × Int), V i = .slice y.1 y.2.1 y.2.2.1 ∧ PI w y.1 y.2.1 y.2.2.2 := by
    intro i hi
    obtain ⟨p, len', cap', f, hcs, hf⟩ := open_pairs (hx i (by omega)).2
    exact ⟨(p, len', cap', f), by simpa using hcs, hf⟩
  obtain ⟨y, hy⟩ := Go.Deep.choose_lt each
  refine ⟨_, len, m, blk, off, fun i => (y i).1, fun i => (y i).2.1, fun i => (y i).2.2.1, fun i => (y i).2.2.2, rfl, fun _ => rfl, fun i hi => ?_, fun i hi => (hy i hi).2⟩
  have h1 := (hx i (by omega)).1
  rw [(hy i hi).1, add_at] at h1
  exact h1
set_option maxRecDepth 100000 in
theorem lifted (os : Os) (started : os.Started) (H : Type) (enc : TypeId × Value → H) :
    ReturnsInHanded {} Try.checked os 6 .any (Rows.stillWeighedSpec.pre6 enc Try.prog Try.f6 Rows.stillWeighedRow.domain false) (Rows.stillWeighedSpec.post enc Try.prog Try.f6 false true false false) := by
  refine returnsInHanded_of_change (C := Try.checked) ownK started (by kernel_rfl) Try.func6
    (ChangeSpec.witness6 (enc := enc) (C := Try.checked) false ⟨#[], #[.slice none 0 0, .int .i64 0, .agg #[.int .i64 0, .int .i64 0]], []⟩ 8 (by kernel_rfl) (by kernel_rfl) (by kernel_rfl) (by kernel_rfl)) ?_
  intro W base args ds gs before hval0 hW hcnd _
  have hval : ∀ (j : Nat) t v, Try.f6.params[j]? = some t → args[j]? = some v → Value.okWide Try.prog W .any base t v := hval0
  have hW' := hW
  obtain ⟨p, q, hA0, hV, rfl, hfz, hnd⟩ := hW
  have hA : DataW.TrodAll enc Try.prog W 0 (fun _ => true) true Try.f6.params.toList args.toList ds p := hA0
  rw [Try.params6] at hA hval
  obtain ⟨v0, vs0, d0, ds0, p0, q0, hargs, rfl, rfl, h0, r0⟩ := trodAll_cons hA
  obtain ⟨v1, vs1, d1, ds1, p1, q1, rfl, rfl, rfl, h1, r1⟩ := trodAll_cons r0
  obtain ⟨v2, vs2, d2, ds2, p2, q2, rfl, rfl, rfl, h2, r2⟩ := trodAll_cons r1
  obtain ⟨rfl, rfl, rfl⟩ := trodAll_nil r2
  obtain rfl : args = #[v0, v1, v2] := by cases args; simp_all
  obtain ⟨rfl, rfl⟩ := trodVars_none hV
  obtain ⟨a0, len, cap, rfl⟩ := okWide_slice Try.underlying46 (hval 0 46 v0 rfl rfl)
  obtain ⟨o, rfl, rfl, rfl, w1⟩ := open_int Try.underlying3 (hval 1 3 v1 rfl rfl) h1
  obtain ⟨mx, my, rfl⟩ := opened (hval 2 47 v2 rfl rfl) h2
  clear hA0 hval0
  simp only [List.append_nil, List.nil_append] at hW'
  have hlt0 : ∀ x ∈ p0, x.block < W.heap.size := fun x hx => hW'.lt x (by simp [hx])
  have hlt2 : ∀ x ∈ p2, x.block < W.heap.size := fun x hx => hW'.lt x (by simp [hx])
  have h0k := h0
  obtain ⟨fuel, hf⟩ := h0k
  obtain ⟨p, len', cap', R, ro, P, Ln, Cp, f, hcs, hp, hG⟩ := open_rows hf
  simp [Value.cells] at hcs
  obtain ⟨rfl, rfl, rfl⟩ := hcs
  refine (t6 (c := cap) (od := o) (mx := mx) (my := my) hG hp).mono fun e W' ⟨he, hu⟩ => ?_
  subst he
  have hn : RowKit.Below W.heap.size W W' := hu.out
  have ht0 := Below.trod laidOut (by kernel_rfl) (of_decide_eq_true (by kernel_rfl)) h0 hn hlt0
  have ht2 := Below.trod laidOut (by kernel_rfl) (of_decide_eq_true (by kernel_rfl)) h2 hn hlt2
  have hh := trodAll_cons_mk ht0 (trodAll_cons_mk (shut_int Try.underlying3 w1) (trodAll_cons_mk ht2 trodAll_mk0))
  simp only [List.append_nil, List.nil_append] at hh
  refine ⟨_, rfl, _, _, _, [], p0 ++ p2, [], hW', ?_, ?_, rfl, hn.frame _, fun h => by cases h⟩
  · exact trodAll_cons_mk (shut_bool Try.underlying4 _) trodAll_mk0
  · exact hh

theorem over : Rows.stillWeighedRow.holds Try.pinned (OpenSpec.ofChange Rows.stillWeighedSpec) :=
  OpenClaim.holds_of_wide 6 Try.f6 rfl rfl rfl rfl rfl rfl rfl ⟨rfl, rfl, rfl, rfl, rfl⟩ rfl rfl rfl rfl rfl (by kernel_rfl) Try.func6 (by kernel_rfl)
    (of_decide_eq_true (by kernel_rfl)) (by unfold Func.isWrapper; first | (rw [if_pos (by decide +kernel)]; kernel_rfl) | (rw [if_neg (by decide +kernel)]; exact ⟨rfl, rfl⟩))
    (fun os started H enc _ => lifted os started H enc)
end stillWeighed

theorem stillWeighed_holds : Rows.StillWeighedSaid := stillWeighed.over
#print axioms stillWeighed_holds
end Go.Proofs.Ytgalgnopjcpocaa
