/- ScenePeak (P12.7): whatever the row's length, the number of rows, the pulse of whole numbers, the cell and the quarters are, the law returns true: the match of each row is greatest where the echo lies, and its squared magnitude is there the square of the pulse's power. No condition. -/
import Derived.Test.YthifemkbemhmnaaJe
import Derived.ProofKit
import Derived.OpenShut
import Derived.SizedLaws
import Derived.Carry
import Derived.ChangeSlices
namespace Go.Proofs.Ythifemkbemhmnaa
namespace scenePeak
open Go.ChangeShapes Go.WideShapes Go.ChangeAt Go.RowKit Go.Fl

theorem ownK : ownKnob Try.prog.godebug = none := by kernel_rfl
theorem laidOut : laidOutB Try.prog = true := by kernel_rfl
theorem cells26 : Try.prog.cellsOf 26 = 5 := by kernel_rfl
theorem cells22 : Try.prog.cellsOf 22 = 1 := by kernel_rfl
theorem cells23 : Try.prog.cellsOf 23 = 1 := by kernel_rfl
theorem cells24 : Try.prog.cellsOf 24 = 1 := by kernel_rfl
theorem cells5 : Try.prog.cellsOf 5 = 1 := by kernel_rfl
theorem spot_of {w : World} {blk off : Nat} {spot : Option Nat} {x : Int} (h : w.cell? ⟨blk, off, spot⟩ = some (.int .i8 x)) : spot = none := by
  unfold World.cell? at h
  split at h
  · cases spot with
    | none => rfl
    | some s => simp at h
  · simp at h
theorem row_of {w : World} {a : Addr} {len : Nat} {S : Nat → Int} (h0 : 0 < len) (hc : ∀ i, i < len → w.cell? (a.add i) = some (.int .i8 (S i))) : ∃ blk off, a = ⟨blk, off, none⟩ ∧ ∀ i, i < len → w.cell? ⟨blk, off + i, none⟩ = some (.int .i8 (S i)) := by
  have c0 := hc 0 h0
  obtain ⟨blk, off, spot⟩ := a
  have hs : spot = none := by
    simp only [Addr.add, if_true] at c0
    exact spot_of c0
  subst hs
  refine ⟨blk, off, rfl, fun i hi => ?_⟩
  have e : (⟨blk, off, none⟩ : Addr).add i = ⟨blk, off + i, none⟩ := by
    unfold Addr.add
    split
    · rename_i hj0; rw [hj0]; rfl
    · rfl
  rw [← e]
  exact hc i hi
theorem five {α : Type} {cs : Array α} (h : cs.size = 5) : ∃ a b c d e, cs = #[a, b, c, d, e] := by
  obtain ⟨l⟩ := cs
  match l, h with
  | [a, b, c, d, e], _ => exact ⟨a, b, c, d, e, rfl⟩
theorem five_list {α : Type} {l : List α} (h : l.length = 5) : ∃ a b c d e, l = [a, b, c, d, e] := by
  match l, h with
  | [a, b, c, d, e], _ => exact ⟨a, b, c, d, e, rfl⟩
theorem byte_of {n : Int} (h : (Lit.int .u8 n).wf = true) : ∃ k : Nat, n = (k : Int) ∧ k ≤ 255 := by
  have h1 : 0 ≤ n ∧ n ≤ 255 := by
    have h2 : (decide ((0 : Int) ≤ n) && decide (n ≤ 255)) = true := h
    simpa using h2
  exact ⟨n.toNat, by omega, by omega⟩
theorem word_of {n : Int} (h : (Lit.int .u16 n).wf = true) : ∃ k : Nat, n = (k : Int) ∧ k ≤ 65535 := by
  have h1 : 0 ≤ n ∧ n ≤ 65535 := by
    have h2 : (decide ((0 : Int) ≤ n) && decide (n ≤ 65535)) = true := h
    simpa using h2
  exact ⟨n.toNat, by omega, by omega⟩
theorem small_of {n : Int} (h : (Lit.int .i8 n).wf = true) : -128 ≤ n ∧ n ≤ 127 := by
  have h2 : (decide ((-128 : Int) ≤ n) && decide (n ≤ 127)) = true := h
  simpa using h2
set_option maxRecDepth 20000 in
/-- The struct's five cells, each as it reads. -/
theorem opened {H : Type} {enc : TypeId × Value → H} {W : World} {base : Nat} {spare : Nat → Bool} {held : Bool} {v : Value} {d : DataW H} {p : List MemPlace} {r : Reach} {b0 : Nat} (hv : Value.okWide Try.prog W r b0 26 v) (h : DataW.Trod enc Try.prog W base spare held 26 v d p) :
    ∃ (v0 : Value) (q : Int) (D M B : Nat) (y : DataW H × List MemPlace) (n : Nat), v = .agg #[.int .u16 D, .int .u8 M, v0, .int .u16 B, .int .i8 q] ∧ D ≤ 65535 ∧ M ≤ 255 ∧ B ≤ 65535 ∧ (-128 ≤ q ∧ q ≤ 127) ∧ DataW.trod enc Try.prog W base spare held n 23 [v0] = some y := by
  obtain ⟨cs, rfl, hsz⟩ := okWide_struct Try.underlying26 hv
  obtain ⟨c0, c1, c2, c3, c4, rfl⟩ := five (hsz.trans cells26)
  obtain ⟨fuel, hf⟩ := h
  obtain ⟨xs, n, _, _, _, hlen, hall⟩ := DataW.trod_struct Try.underlying26 hf
  obtain ⟨y0, y1, y2, y3, y4, rfl⟩ := five_list (by simpa using hlen)
  have e0 : DataW.trod enc Try.prog W base spare held n 22 [c0] = some y0 := by simpa [Value.cells, cells22] using hall 0 _ rfl
  have e1 : DataW.trod enc Try.prog W base spare held n 5 [c1] = some y1 := by simpa [Value.cells, cells5] using hall 1 _ rfl
  have e2 : DataW.trod enc Try.prog W base spare held n 23 [c2] = some y2 := by simpa [Value.cells, cells23] using hall 2 _ rfl
  have e3 : DataW.trod enc Try.prog W base spare held n 22 [c3] = some y3 := by simpa [Value.cells, cells22] using hall 3 _ rfl
  have e4 : DataW.trod enc Try.prog W base spare held n 24 [c4] = some y4 := by simpa [Value.cells, cells24] using hall 4 _ rfl
  obtain ⟨D, k1, _, w1⟩ := DataW.trod_int Try.underlying22 e0
  obtain ⟨M, k2, _, w2⟩ := DataW.trod_int Try.underlying5 e1
  obtain ⟨B, k3, _, w3⟩ := DataW.trod_int Try.underlying22 e3
  obtain ⟨q, k4, _, w4⟩ := DataW.trod_int Try.underlying24 e4
  obtain ⟨D, rfl, hD⟩ := word_of w1
  obtain ⟨M, rfl, hM⟩ := byte_of w2
  obtain ⟨B, rfl, hB⟩ := word_of w3
  have hq := small_of w4
  simp only [List.cons.injEq, and_true] at k1 k2 k3 k4
  subst k1 k2 k3 k4
  exact ⟨c2, q, D, M, B, y2, n, rfl, hD, hM, hB, hq, e2⟩
set_option maxRecDepth 100000 in
theorem lifted (os : Os) (started : os.Started) (H : Type) (enc : TypeId × Value → H) :
    ReturnsInHanded {} Try.checked os 3 .any (Rows.scenePeakSpec.pre6 enc Try.prog Try.f3 Rows.scenePeakRow.domain false) (Rows.scenePeakSpec.post enc Try.prog Try.f3 false true false false) := by
  refine returnsInHanded_of_change (C := Try.checked) ownK started (by kernel_rfl) Try.func3
    (ChangeSpec.witness6 (enc := enc) (C := Try.checked) false ⟨#[], #[.agg #[.int .u16 0, .int .u8 0, .slice none 0 0, .int .u16 0, .int .i8 0]], []⟩ 8 (by kernel_rfl) (by kernel_rfl) (by kernel_rfl) (by kernel_rfl)) ?_
  intro W base args ds gs before hval0 hW hcnd _
  have hval : ∀ (j : Nat) t v, Try.f3.params[j]? = some t → args[j]? = some v → Value.okWide Try.prog W .any base t v := hval0
  have hW' := hW
  obtain ⟨p, q, hA0, hV, rfl, hfz, hnd⟩ := hW
  have hA : DataW.TrodAll enc Try.prog W 0 (fun _ => true) true Try.f3.params.toList args.toList ds p := hA0
  rw [Try.params3] at hA hval
  obtain ⟨v0, vs0, d0, ds0, p0, q0, hargs, rfl, rfl, h0, r0⟩ := trodAll_cons hA
  obtain ⟨rfl, rfl, rfl⟩ := trodAll_nil r0
  obtain rfl : args = #[v0] := by cases args; simp_all
  obtain ⟨rfl, rfl⟩ := trodVars_none hV
  have hv := hval 0 26 v0 rfl rfl
  clear hA0 hval0
  simp only [List.append_nil] at hW'
  have hlt : ∀ x ∈ p0, x.block < W.heap.size := fun x hx => hW'.lt x (by simpa using hx)
  have fin : ∀ e W', TU W e W' → ∃ v, e = Ending.returned v ∧ Rows.scenePeakSpec.post enc Try.checked.prog Try.f3 false true false false W #[v0] v W' := by
    intro e W' ⟨he, hu⟩
    subst he
    have hn : RowKit.Below W.heap.size W W' := hu.out
    refine ⟨_, rfl, _, _, _, [], p0, [], hW', ?_, ?_, rfl, hn.frame _, fun h => by cases h⟩
    · exact trodAll_cons_mk (shut_bool Try.underlying4 _) trodAll_mk0
    · have ht := Below.trod laidOut (by kernel_rfl) (of_decide_eq_true (by kernel_rfl)) h0 hn hlt
      have h3 := trodAll_cons_mk ht trodAll_mk0
      simp only [List.append_nil] at h3
      exact h3
  obtain ⟨s0, K, D, M, B, y, n, rfl, hD, hM, hB, hK, hf⟩ := opened hv h0
  rcases open_ints Try.underlying23 Try.underlying24 cells24 hf with ⟨hcs, hx⟩ | ⟨a, len, cap, zs, hcs, hb, hl, hm, hzl, hx, hcell, hwf⟩
  · simp only [List.cons.injEq, and_true] at hcs
    subst hcs
    exact (t3 (w := W) (W := fun _ => 0) (bb := 0) (bo := 0) hD hM hB hK.1 hK.2 (fun h => by omega) (fun i hi => by omega)).mono fun e W' h => fin e W' h
  · simp only [List.cons.injEq, and_true] at hcs
    subst hcs
    simp only [if_true] at hzl
    by_cases hr : 1 ≤ len
    · obtain ⟨blk, off, rfl, hc⟩ := row_of (w := W) (a := a) (len := len) (S := fun i => zs.getD i 0) (by omega) (fun i hi => hcell i (by omega))
      exact (t3 (w := W) (W := fun i => zs.getD i 0) (bb := blk) (bo := off) hD hM hB hK.1 hK.2 (fun _ => rfl) (fun i hi => ⟨hc i hi, small_of (hwf _ (by
        have hi2 : i < zs.length := by omega
        rw [List.getD, List.getElem?_eq_getElem hi2]
        exact List.getElem_mem hi2))⟩)).mono fun e W' h => fin e W' h
    · obtain rfl : len = 0 := by omega
      exact (t3 (w := W) (W := fun _ => 0) (bb := 0) (bo := 0) hD hM hB hK.1 hK.2 (fun h => by omega) (fun i hi => by omega)).mono fun e W' h => fin e W' h

theorem over : Rows.scenePeakRow.holds Try.pinned (OpenSpec.ofChange Rows.scenePeakSpec) :=
  OpenClaim.holds_of_wide 3 Try.f3 rfl rfl rfl rfl rfl rfl rfl ⟨rfl, rfl, rfl, rfl, rfl⟩ rfl rfl rfl rfl rfl (by kernel_rfl) Try.func3 (by kernel_rfl)
    (of_decide_eq_true (by kernel_rfl)) (by unfold Func.isWrapper; first | (rw [if_pos (by decide +kernel)]; kernel_rfl) | (rw [if_neg (by decide +kernel)]; exact ⟨rfl, rfl⟩))
    (fun os started H enc _ => lifted os started H enc)
end scenePeak

theorem scenePeak_holds : Rows.ScenePeakSaid := scenePeak.over
#print axioms scenePeak_holds
end Go.Proofs.Ythifemkbemhmnaa
