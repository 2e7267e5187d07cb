/- A line that is fed nothing; NewLine. -/
import Derived.Test.YtdpogojhpfejjaaRc
namespace Go.Proofs.Ytdpogojhpfejjaa
open Go.ChangeShapes Go.WideShapes Go.ChangeAt Go.RowKit Go.Fl Ieee
attribute [local go_sem] run_store_float run_store_c isSome_set call32 call31 run_neg fold_eq fold_ne fold_lt fold_gt abs_eq

theorem wpList_came0 {ops : Array Oper} {rest : List Oper} {o : Oper} {a : Act} {Q : Exit → Act → World → Prop} {w : World} {gp : Nat} (hgd : o.guard = none) (s y : Operand)
    (hop : o.op = Op.call { callee := Callee.builtin Builtin.append, args := #[s, y], argTypes := #[27, 27] }) (hs : a.eval s = .slice (some ⟨gp, 0, none⟩) 0 0) (hx : a.eval y = .slice none 0 0)
    (hK : wpList Try.prog ops Q rest (a.put o.dst (.slice (some ⟨gp, 0, none⟩) 0 0)) w) : wpList Try.prog ops Q (o :: rest) a w := by
  refine wpList_plain hgd fun K hK' => ?_
  obtain ⟨i0, hi, hz0, hz1, hz2⟩ := info_parts info26
  have e : (Builtin.append_ #[27, 27] o.type #[.slice (some ⟨gp, 0, none⟩) 0 0, .slice none 0 0]).run Try.prog w = .ok (.slice (some ⟨gp, 0, none⟩) 0 0) w := by
    simp [Builtin.append_, run_underlying Try.underlying27, sizeOf, typeInfo, hi, Builtin.lenOf, Builtin.firstCells, storeCells]
  unfold Oper.wp
  simp [execOp, hop, resolve, invoke, builtin, hs, hx, e, Result.andThen]
  exact hK' _ _ hK
set_option maxRecDepth 100000 in
set_option maxHeartbeats 2000000 in
theorem t8z {b0 : Nat} {w : World} {b gt ct gp R : Nat} {tp : Nat → Nat × Nat} (h : LN b0 w b gt ct gp R tp) (F : Nat → C2) (hR1 : 1 ≤ R) (hR2 : R ≤ 200) :
    Calls Try.prog 8 #[.pointer (some ⟨b, 0, none⟩), .slice none 0 0] w (FD w b gp 0 F) := by
  have H : Hid (LN b0 w b gt ct gp R tp) := h
  have c0 := h.c0
  have c1 := h.c1
  clear h
  have z : ((R : Int) + 1 == 0) = false := by rw [beq_eq_false_iff_ne]; omega
  go_enter Try.func8, Try.ntmps8
  go_wp2_with (first
    | (at_builtin; refine wpList_came0 rfl _ _ rfl rfl rfl ?_)
    | ((with_reducible refine up_make0 ?_); intro gl w2 HM))
  have HF : Hid (Fill w w2 gl 0 F 0) := HM.out.fill _
  have L3 : Hid (w.heap.size = gl) := HM.out.1
  clear HM c0 c1 z
  have HV : Hid (Up w w2) := HF.out.below
  have HL : Hid (LN b0 w2 b gt ct gp R tp) := H.out.up HV.out
  have c0 := HL.out.c0
  have c1 := HL.out.c1
  have fz := HL.out.fz
  have c1s : (w2.cell? ⟨b, 1, none⟩).isSome = true := by rw [c1]; rfl
  have WK : Hid (IntKind.i64.wrap (IntKind.i64.wrap ((0 : Int) - ((R : Int) + 1)) + 1) = -(R : Int)) := by
    show _ = _
    rw [i64_id (x := (0 : Int) - ((R : Int) + 1)) (by omega), i64_id (by omega)]; omega
  have RS : Hid (RD w2.drew gp 0 0 (fun _ => (0, 0))) := fun j hj => by omega
  have RM : Hid (w2.drew.ownsRow b0 28 1 (.slice (some ⟨gp, 0, none⟩) 0 R) 0 []) := owns_up HL.out.room (Up.drew _)
  have LD : Hid (LN b0 w2.drew b gt ct gp R tp) := HL.out.up (Up.drew _)
  have k1 : 0 ≤ R := by omega
  go_loopw [8, 38] (fun _ vi wr => vi = .int .i64 0 ∧ wr = w2) (fun _ _ _ => 0)
  case atStart => exact ⟨rfl, rfl⟩
  case round =>
    obtain ⟨rfl, rfl⟩ := hrel
    go_wp2_with fail
    go_region_law (first
      | (refine step_max (m := 0) (by rfl) _ _ (by rfl) (by rfl) (by rfl) (by first | (rw [WK.out]; split <;> omega) | (simp only [Int.zero_sub] at *; rw [WK.out]; split <;> omega)) ?_)
      | (refine step_fits (by rfl) _ _ (by rfl) (by rfl) (by rfl) RM RS k1 ?_; intro w5 HB; obtain ⟨g1, g2, g3, g4⟩ := ln_keep LD HB))
    all_goals (try go_wp2)
    all_goals go_ret
    all_goals
      obtain ⟨d, d1, d2⟩ := HF.out.done
      refine ⟨gl, d, w5, rfl, ?_, d2, (But.of_up (HV.out.trans (Up.drew _))).trans HB.out, grown_set _ _ _⟩
      have lb : b < w.heap.size := World.block_lt_of_cell? w _ H.out.c0
      have lp : gp < w.heap.size := (World.ownsRow.lt H.out.room _ rfl).2
      have l3 := L3.out
      exact ((d1.up (Up.drew _)).far HB.out (by omega)).far (grown_set _ _ _) (by simp only; omega)
end Go.Proofs.Ytdpogojhpfejjaa
