/- lookoutlaw06.MatchPeak returns true for every stand: a pulse of 1 and -1, a whole number of times, among noughts: what Match tells where it stands, elsewhere, and of the pulse moved on. No condition. -/
import Derived.Test.YtfimolhndbfpgaaMi
import Derived.ProofKit
import Derived.OpenShut
import Derived.SizedLaws
import Derived.Carry
import Derived.Deep.Grids
namespace Go.Proofs.Ytfimolhndbfpgaa
namespace matchPeak
open Go.ChangeShapes Go.WideShapes Go.ChangeAt Go.RowKit Go.Fl

theorem ownK : ownKnob Try.prog.godebug = none := by kernel_rfl
theorem laidOut : laidOutB Try.prog = true := by kernel_rfl
theorem cells4 : Try.prog.cellsOf 4 = 1 := by kernel_rfl
theorem cells24 : Try.prog.cellsOf 24 = 5 := by kernel_rfl
theorem cells22 : Try.prog.cellsOf 22 = 1 := by kernel_rfl
theorem cells21 : Try.prog.cellsOf 21 = 1 := by kernel_rfl
theorem cells5 : Try.prog.cellsOf 5 = 1 := by kernel_rfl
theorem spot_of {w : World} {blk off : Nat} {spot : Option Nat} {x : Bool} (h : w.cell? ⟨blk, off, spot⟩ = some (.bool x)) : spot = none := by
  unfold World.cell? at h
  split at h
  · cases spot with
    | none => rfl
    | some s => simp at h
  · simp at h
theorem brow_of {w : World} {a : Addr} {len : Nat} {S : Nat → Bool} (h0 : 0 < len) (hc : ∀ i, i < len → w.cell? (a.add i) = some (.bool (S i))) : ∃ blk off, a = ⟨blk, off, none⟩ ∧ ∀ i, i < len → w.cell? ⟨blk, off + i, none⟩ = some (.bool (S i)) := by
  have c0 := hc 0 h0
  obtain ⟨blk, off, spot⟩ := a
  have hs : spot = none := by
    simp only [Addr.add, if_true] at c0
    exact spot_of c0
  subst hs
  refine ⟨blk, off, rfl, fun i hi => ?_⟩
  have e : (⟨blk, off, none⟩ : Addr).add i = ⟨blk, off + i, none⟩ := by
    unfold Addr.add
    split
    · rename_i hj0; rw [hj0]; rfl
    · rfl
  rw [← e]
  exact hc i hi
theorem five {α : Type} {cs : Array α} (h : cs.size = 5) : ∃ a b c d e, cs = #[a, b, c, d, e] := by
  obtain ⟨l⟩ := cs
  match l, h with
  | [a, b, c, d, e], _ => exact ⟨a, b, c, d, e, rfl⟩
theorem five_list {α : Type} {l : List α} (h : l.length = 5) : ∃ a b c d e, l = [a, b, c, d, e] := by
  match l, h with
  | [a, b, c, d, e], _ => exact ⟨a, b, c, d, e, rfl⟩
theorem byte_of {n : Int} (h : (Lit.int .u8 n).wf = true) : ∃ k : Nat, n = (k : Int) ∧ k ≤ 255 := by
  have h1 : 0 ≤ n ∧ n ≤ 255 := by
    have h2 : (decide ((0 : Int) ≤ n) && decide (n ≤ 255)) = true := h
    simpa using h2
  exact ⟨n.toNat, by omega, by omega⟩
/-- The struct's five cells, each as it reads. -/
theorem opened {H : Type} {enc : TypeId × Value → H} {W : World} {base : Nat} {spare : Nat → Bool} {held : Bool} {v : Value} {d : DataW H} {p : List MemPlace} {r : Reach} {b0 : Nat} (hv : Value.okWide Try.prog W r b0 24 v) (h : DataW.Trod enc Try.prog W base spare held 24 v d p) :
    ∃ (v0 : Value) (K : Int) (D M B : Nat) (y : DataW H × List MemPlace) (n : Nat), v = .agg #[v0, .int .i32 K, .int .u8 D, .int .u8 M, .int .u8 B] ∧ D ≤ 255 ∧ M ≤ 255 ∧ B ≤ 255 ∧ DataW.trod enc Try.prog W base spare held n 22 [v0] = some y := by
  obtain ⟨cs, rfl, hsz⟩ := okWide_struct Try.underlying24 hv
  obtain ⟨c0, c1, c2, c3, c4, rfl⟩ := five (hsz.trans cells24)
  obtain ⟨fuel, hf⟩ := h
  obtain ⟨xs, n, _, _, _, hlen, hall⟩ := DataW.trod_struct Try.underlying24 hf
  obtain ⟨y0, y1, y2, y3, y4, rfl⟩ := five_list (by simpa using hlen)
  have e0 : DataW.trod enc Try.prog W base spare held n 22 [c0] = some y0 := by simpa [Value.cells, cells22] using hall 0 _ rfl
  have e1 : DataW.trod enc Try.prog W base spare held n 21 [c1] = some y1 := by simpa [Value.cells, cells21] using hall 1 _ rfl
  have e2 : DataW.trod enc Try.prog W base spare held n 5 [c2] = some y2 := by simpa [Value.cells, cells5] using hall 2 _ rfl
  have e3 : DataW.trod enc Try.prog W base spare held n 5 [c3] = some y3 := by simpa [Value.cells, cells5] using hall 3 _ rfl
  have e4 : DataW.trod enc Try.prog W base spare held n 5 [c4] = some y4 := by simpa [Value.cells, cells5] using hall 4 _ rfl
  obtain ⟨K, k1, _, _⟩ := DataW.trod_int Try.underlying21 e1
  obtain ⟨D, k2, _, w2⟩ := DataW.trod_int Try.underlying5 e2
  obtain ⟨M, k3, _, w3⟩ := DataW.trod_int Try.underlying5 e3
  obtain ⟨B, k4, _, w4⟩ := DataW.trod_int Try.underlying5 e4
  obtain ⟨D, rfl, hD⟩ := byte_of w2
  obtain ⟨M, rfl, hM⟩ := byte_of w3
  obtain ⟨B, rfl, hB⟩ := byte_of w4
  simp only [List.cons.injEq, and_true] at k1 k2 k3 k4
  subst k1 k2 k3 k4
  exact ⟨c0, K, D, M, B, y0, n, rfl, hD, hM, hB, e0⟩
set_option maxRecDepth 100000 in
theorem lifted (os : Os) (started : os.Started) (H : Type) (enc : TypeId × Value → H) :
    ReturnsInHanded {} Try.checked os 3 .any (Rows.matchPeakSpec.pre6 enc Try.prog Try.f3 Rows.matchPeakRow.domain false) (Rows.matchPeakSpec.post enc Try.prog Try.f3 false true false false) := by
  refine returnsInHanded_of_change (C := Try.checked) ownK started (by kernel_rfl) Try.func3
    (ChangeSpec.witness6 (enc := enc) (C := Try.checked) false ⟨#[], #[.agg #[.slice none 0 0, .int .i32 0, .int .u8 0, .int .u8 0, .int .u8 0]], []⟩ 8 (by kernel_rfl) (by kernel_rfl) (by kernel_rfl) (by kernel_rfl)) ?_
  intro W base args ds gs before hval0 hW hcnd _
  have hval : ∀ (j : Nat) t v, Try.f3.params[j]? = some t → args[j]? = some v → Value.okWide Try.prog W .any base t v := hval0
  have hW' := hW
  obtain ⟨p, q, hA0, hV, rfl, hfz, hnd⟩ := hW
  have hA : DataW.TrodAll enc Try.prog W 0 (fun _ => true) true Try.f3.params.toList args.toList ds p := hA0
  rw [Try.params3] at hA hval
  obtain ⟨v0, vs0, d0, ds0, p0, q0, hargs, rfl, rfl, h0, r0⟩ := trodAll_cons hA
  obtain ⟨rfl, rfl, rfl⟩ := trodAll_nil r0
  obtain rfl : args = #[v0] := by cases args; simp_all
  obtain ⟨rfl, rfl⟩ := trodVars_none hV
  have hv := hval 0 24 v0 rfl rfl
  clear hA0 hval0
  simp only [List.append_nil] at hW'
  have hlt : ∀ x ∈ p0, x.block < W.heap.size := fun x hx => hW'.lt x (by simpa using hx)
  have fin : ∀ e W', TU W e W' → ∃ v, e = Ending.returned v ∧ Rows.matchPeakSpec.post enc Try.checked.prog Try.f3 false true false false W #[v0] v W' := by
    intro e W' ⟨he, hu⟩
    subst he
    have hn : RowKit.Below W.heap.size W W' := hu.out
    refine ⟨_, rfl, _, _, _, [], p0, [], hW', ?_, ?_, rfl, hn.frame _, fun h => by cases h⟩
    · exact trodAll_cons_mk (shut_bool Try.underlying4 _) trodAll_mk0
    · have ht := Below.trod laidOut (by kernel_rfl) (of_decide_eq_true (by kernel_rfl)) h0 hn hlt
      have h3 := trodAll_cons_mk ht trodAll_mk0
      simp only [List.append_nil] at h3
      exact h3
  obtain ⟨s0, K, D, M, B, y, n, rfl, hD, hM, hB, hf⟩ := opened hv h0
  rcases Go.Deep.open_bools Try.underlying22 Try.underlying4 cells4 hf with ⟨hcs, hx⟩ | ⟨a, len, cap, S, hcs, hb, hl, hm, hx, hcell⟩
  · simp only [List.cons.injEq, and_true] at hcs
    subst hcs
    exact (t3e none 0 K D M B W).mono fun e W' h => fin e W' h
  · simp only [List.cons.injEq, and_true] at hcs
    subst hcs
    by_cases hr : 1 ≤ len
    · obtain ⟨blk, off, rfl, hc⟩ := brow_of (w := W) (a := a) (len := len) (S := S) (by omega) (fun i hi => hcell i (by omega))
      exact (t3 blk off len cap (min len 200) S K D M B W hc hr (by omega) hD hM hB (by omega)).mono fun e W' h => fin e W' h
    · obtain rfl : len = 0 := by omega
      exact (t3e (some a) cap K D M B W).mono fun e W' h => fin e W' h

theorem over : Rows.matchPeakRow.holds Try.pinned (OpenSpec.ofChange Rows.matchPeakSpec) :=
  OpenClaim.holds_of_wide 3 Try.f3 rfl rfl rfl rfl rfl rfl rfl ⟨rfl, rfl, rfl, rfl, rfl⟩ rfl rfl rfl rfl rfl (by kernel_rfl) Try.func3 (by kernel_rfl)
    (of_decide_eq_true (by kernel_rfl)) (by unfold Func.isWrapper; first | (rw [if_pos (by decide +kernel)]; kernel_rfl) | (rw [if_neg (by decide +kernel)]; exact ⟨rfl, rfl⟩))
    (fun os started H enc _ => lifted os started H enc)
end matchPeak

theorem matchPeak_holds : Rows.MatchPeakSaid := matchPeak.over
#print axioms matchPeak_holds
end Go.Proofs.Ytfimolhndbfpgaa
