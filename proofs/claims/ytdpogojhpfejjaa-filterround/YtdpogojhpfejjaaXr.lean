/- lookoutlaw07.FilterRound returns true for every array of three ints and every list of pairs of ints: a ring whose numbers for what was told are noughts tells what the line of its three numbers tells, whole samples and whole numbers given; and the arguments stay. No condition. -/
import Derived.Test.YtdpogojhpfejjaaRm
import Derived.ProofKit
import Derived.OpenShut
import Derived.SizedLaws
import Derived.Carry
import Derived.Deep.Grids
import Derived.Laws.IdiomArrays
namespace Go.Proofs.Ytdpogojhpfejjaa
namespace filterRound
open Go.ChangeShapes Go.WideShapes Go.ChangeAt Go.RowKit Go.Fl

theorem ownK : ownKnob Try.prog.godebug = none := by kernel_rfl
theorem laidOut : laidOutB Try.prog = true := by kernel_rfl
theorem cells3 : Try.prog.cellsOf 3 = 1 := by kernel_rfl
theorem cells22 : Try.prog.cellsOf 22 = 3 := by kernel_rfl
theorem cells29 : Try.prog.cellsOf 29 = 2 := by kernel_rfl
theorem okWide_arr {w : World} {r : Reach} {b t e : Nat} {n : Nat} {v : Value} (ht : Try.prog.underlying t = some (.array n e)) (h : Value.okWide Try.prog w r b t v) : ∃ cs, v = .agg cs ∧ cs.size = Try.prog.cellsOf t := by
  simp only [Value.okWide, ht] at h
  obtain ⟨cs, h1, h2, _⟩ := h
  exact ⟨cs, h1, h2⟩
theorem spot_of {w : World} {blk off : Nat} {spot : Option Nat} {x : Int} (h : w.cell? ⟨blk, off, spot⟩ = some (.int .i64 x)) : spot = none := by
  unfold World.cell? at h
  split at h
  · cases spot with
    | none => rfl
    | some s => simp at h
  · simp at h
theorem three {α : Type} {cs : Array α} (h : cs.size = 3) : ∃ a b c, cs = #[a, b, c] := by
  obtain ⟨l⟩ := cs
  match l, h with
  | [a, b, c], _ => exact ⟨a, b, c, rfl⟩
/-- What an int's cell holds. -/
def intAt : Option Value → Int
  | some (.int _ x) => x
  | _ => 0
theorem add_at (blk off j : Nat) : (⟨blk, off, none⟩ : Addr).add j = ⟨blk, off + j, none⟩ := by
  unfold Addr.add
  split
  · rename_i hj0; rw [hj0]; rfl
  · rfl
/-- The three numbers. -/
theorem opened {H : Type} {enc : TypeId × Value → H} {W : World} {base : Nat} {spare : Nat → Bool} {held : Bool} {v : Value} {d : DataW H} {p : List MemPlace} {r : Reach} {b0 : Nat} (hv : Value.okWide Try.prog W r b0 22 v) (h : DataW.Trod enc Try.prog W base spare held 22 v d p) :
    ∃ z0 z1 z2 : Int, v = .agg #[.int .i64 z0, .int .i64 z1, .int .i64 z2] := by
  obtain ⟨cs, rfl, hsz⟩ := okWide_arr Try.underlying22 hv
  obtain ⟨c0, c1, c2, rfl⟩ := three (hsz.trans cells22)
  obtain ⟨fuel, hf⟩ := h
  have hf' : DataW.trod enc Try.prog W base spare held fuel 22 [c0, c1, c2] = some (d, p) := by simpa [Value.cells] using hf
  obtain ⟨y0, y1, y2, n, _, e0, e1, e2⟩ := trod_array3 Try.underlying22 cells3 hf'
  obtain ⟨z0, k0, _, _⟩ := DataW.trod_int Try.underlying3 e0
  obtain ⟨z1, k1, _, _⟩ := DataW.trod_int Try.underlying3 e1
  obtain ⟨z2, k2, _, _⟩ := DataW.trod_int Try.underlying3 e2
  simp only [List.cons.injEq, and_true] at k0 k1 k2
  subst k0 k1 k2
  exact ⟨z0, z1, z2, rfl⟩
/-- A pair of the list. -/
theorem pair_of {H : Type} {enc : TypeId × Value → H} {W : World} {base : Nat} {spare : Nat → Bool} {held : Bool} {n : Nat} {a : Addr} {cs : List Value} {y : DataW H × List MemPlace} (h1 : W.cells? base a (Try.prog.cellsOf 29) = some cs) (h2 : DataW.trod enc Try.prog W base spare held n 29 cs = some y) :
    ∃ x0 x1 : Int, W.cell? (a.add 0) = some (.int .i64 x0) ∧ W.cell? (a.add 1) = some (.int .i64 x1) := by
  rw [cells29] at h1
  obtain ⟨_, hl, hc⟩ := World.cells?_some h1
  obtain ⟨c0, c1, rfl⟩ : ∃ c0 c1, cs = [c0, c1] := by
    match cs, hl with
    | [c0, c1], _ => exact ⟨c0, c1, rfl⟩
  obtain ⟨xs, m, _, _, _, hxl, hx⟩ := DataW.trod_array Try.underlying29 h2
  rw [cells3] at hx
  obtain ⟨y0, y1, rfl⟩ : ∃ y0 y1, xs = [y0, y1] := by
    match xs, hxl with
    | [y0, y1], _ => exact ⟨y0, y1, rfl⟩
  have e0 : DataW.trod enc Try.prog W base spare held m 3 [c0] = some y0 := by simpa using hx 0 (by omega)
  have e1 : DataW.trod enc Try.prog W base spare held m 3 [c1] = some y1 := by simpa using hx 1 (by omega)
  obtain ⟨z0, k0, _, _⟩ := DataW.trod_int Try.underlying3 e0
  obtain ⟨z1, k1, _, _⟩ := DataW.trod_int Try.underlying3 e1
  simp only [List.cons.injEq, and_true] at k0 k1
  subst k0 k1
  exact ⟨z0, z1, hc 0 (by omega), hc 1 (by omega)⟩
theorem rows_of {w : World} {a : Addr} {len : Nat} (h0 : 0 < len) (hc : ∀ i, i < len → ∃ x0 x1 : Int, w.cell? ((a.add (i * 2)).add 0) = some (.int .i64 x0) ∧ w.cell? ((a.add (i * 2)).add 1) = some (.int .i64 x1)) :
    ∃ blk off, a = ⟨blk, off, none⟩ ∧ ∀ i, i < len → w.cell? ⟨blk, off + i * 2, none⟩ = some (.int .i64 (intAt (w.cell? ⟨blk, off + i * 2, none⟩))) ∧ w.cell? ⟨blk, off + i * 2 + 1, none⟩ = some (.int .i64 (intAt (w.cell? ⟨blk, off + i * 2 + 1, none⟩))) := by
  obtain ⟨x0, x1, c0, _⟩ := hc 0 h0
  obtain ⟨blk, off, spot⟩ := a
  have hs : spot = none := by
    simp only [Nat.zero_mul, Addr.add, if_true] at c0
    exact spot_of c0
  subst hs
  refine ⟨blk, off, rfl, fun i hi => ?_⟩
  obtain ⟨x0, x1, c0, c1⟩ := hc i hi
  rw [add_at, add_at] at c0 c1
  have c0' : w.cell? ⟨blk, off + i * 2, none⟩ = some (.int .i64 x0) := c0
  have c1' : w.cell? ⟨blk, off + i * 2 + 1, none⟩ = some (.int .i64 x1) := c1
  rw [c0', c1']
  exact ⟨rfl, rfl⟩
set_option maxRecDepth 100000 in
theorem lifted (os : Os) (started : os.Started) (H : Type) (enc : TypeId × Value → H) :
    ReturnsInHanded {} Try.checked os 3 .any (Rows.filterRoundSpec.pre6 enc Try.prog Try.f3 Rows.filterRoundRow.domain false) (Rows.filterRoundSpec.post enc Try.prog Try.f3 false true false false) := by
  refine returnsInHanded_of_change (C := Try.checked) ownK started (by kernel_rfl) Try.func3
    (ChangeSpec.witness6 (enc := enc) (C := Try.checked) false ⟨#[], #[.agg #[.int .i64 0, .int .i64 0, .int .i64 0], .slice none 0 0], []⟩ 8 (by kernel_rfl) (by kernel_rfl) (by kernel_rfl) (by kernel_rfl)) ?_
  intro W base args ds gs before hval0 hW hcnd _
  have hval : ∀ (j : Nat) t v, Try.f3.params[j]? = some t → args[j]? = some v → Value.okWide Try.prog W .any base t v := hval0
  have hW' := hW
  obtain ⟨p, q, hA0, hV, rfl, hfz, hnd⟩ := hW
  have hA : DataW.TrodAll enc Try.prog W 0 (fun _ => true) true Try.f3.params.toList args.toList ds p := hA0
  rw [Try.params3] at hA hval
  obtain ⟨v0, vs0, d0, ds0, p0, q0, hargs, rfl, rfl, h0, r0⟩ := trodAll_cons hA
  obtain ⟨v1, vs1, d1, ds1, p1, q1, rfl, rfl, rfl, h1, r1⟩ := trodAll_cons r0
  obtain ⟨rfl, rfl, rfl⟩ := trodAll_nil r1
  obtain rfl : args = #[v0, v1] := by cases args; simp_all
  obtain ⟨rfl, rfl⟩ := trodVars_none hV
  have hv := hval 0 22 v0 rfl rfl
  obtain ⟨a0, len, cap, rfl⟩ := okWide_slice Try.underlying23 (hval 1 23 v1 rfl rfl)
  clear hA0 hval0
  simp only [List.append_nil] at hW'
  have hlt0 : ∀ x ∈ p0, x.block < W.heap.size := fun x hx => hW'.lt x (by simp [hx])
  have hlt1 : ∀ x ∈ p1, x.block < W.heap.size := fun x hx => hW'.lt x (by simp [hx])
  have fin : ∀ e W', TU W e W' → ∃ v, e = Ending.returned v ∧ Rows.filterRoundSpec.post enc Try.checked.prog Try.f3 false true false false W #[v0, .slice a0 len cap] v W' := by
    intro e W' ⟨he, hu⟩
    subst he
    have hn : RowKit.Below W.heap.size W W' := hu.out
    refine ⟨_, rfl, _, _, _, [], p0 ++ p1, [], hW', ?_, ?_, rfl, hn.frame _, fun h => by cases h⟩
    · exact trodAll_cons_mk (shut_bool Try.underlying4 _) trodAll_mk0
    · have ht0 := Below.trod laidOut (by kernel_rfl) (of_decide_eq_true (by kernel_rfl)) h0 hn hlt0
      have ht1 := Below.trod laidOut (by kernel_rfl) (of_decide_eq_true (by kernel_rfl)) h1 hn hlt1
      have h3 := trodAll_cons_mk ht0 (trodAll_cons_mk ht1 trodAll_mk0)
      simp only [List.append_nil] at h3
      exact h3
  obtain ⟨z0, z1, z2, rfl⟩ := opened hv h0
  obtain ⟨fuel, hf⟩ := h1
  rcases Go.Deep.open_slice Try.underlying23 hf with ⟨hcs, hx⟩ | ⟨a, len', cap', m, n, D, Pl, hcs, hb, hl, hm, hmm, hx, hcell⟩
  · simp [Value.cells] at hcs
    obtain ⟨rfl, rfl, rfl⟩ := hcs
    exact (t3 z0 z1 z2 _ _ _ rfl rfl rfl none 0 0 0 0 (fun _ => 0) (fun _ => 0) W (fun h => by omega) (fun i hi => by omega) (by omega) (fun _ => (0, 0)) (fun i hi => by omega)).mono fun e W' h => fin e W' h
  · simp [Value.cells] at hcs
    obtain ⟨rfl, rfl, rfl⟩ := hcs
    simp only [if_true] at hmm
    unfold maxLen at hm
    rcases Nat.eq_zero_or_pos len with rfl | hp
    · exact (t3 z0 z1 z2 _ _ _ rfl rfl rfl (some a) 0 0 0 cap (fun _ => 0) (fun _ => 0) W (fun h => by omega) (fun i hi => by omega) (by omega) (fun _ => (0, 0)) (fun i hi => by omega)).mono fun e W' h => fin e W' h
    · obtain ⟨blk, off, rfl, hc⟩ := rows_of (w := W) (a := a) hp (fun i hi => by
        obtain ⟨cs', g1, g2⟩ := hcell i (by omega)
        rw [cells29] at g1
        exact pair_of (by rw [cells29]; exact g1) g2)
      exact (t3 z0 z1 z2 _ _ _ rfl rfl rfl (some ⟨blk, off, none⟩) blk off len cap _ _ W (fun _ => rfl) hc (by omega) (fun i => (floatOfInt .f64 ((intAt (W.cell? ⟨blk, off + i * 2, none⟩)).tmod 1048576), floatOfInt .f64 ((intAt (W.cell? ⟨blk, off + i * 2 + 1, none⟩)).tmod 1048576))) (fun i hi => rfl)).mono fun e W' h => fin e W' h

theorem over : Rows.filterRoundRow.holds Try.pinned (OpenSpec.ofChange Rows.filterRoundSpec) :=
  OpenClaim.holds_of_wide 3 Try.f3 rfl rfl rfl rfl rfl rfl rfl ⟨rfl, rfl, rfl, rfl, rfl⟩ rfl rfl rfl rfl rfl (by kernel_rfl) Try.func3 (by kernel_rfl)
    (of_decide_eq_true (by kernel_rfl)) (by unfold Func.isWrapper; first | (rw [if_pos (by decide +kernel)]; kernel_rfl) | (rw [if_neg (by decide +kernel)]; exact ⟨rfl, rfl⟩))
    (fun os started H enc _ => lifted os started H enc)
end filterRound

theorem filterRound_holds : Rows.FilterRoundSaid := filterRound.over
#print axioms filterRound_holds
end Go.Proofs.Ytdpogojhpfejjaa
