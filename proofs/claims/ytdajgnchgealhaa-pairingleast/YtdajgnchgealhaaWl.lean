/- best of no rows. -/
import Derived.Test.YtdajgnchgealhaaWk
namespace Go.Proofs.Ytdajgnchgealhaa
open Go.ChangeShapes Go.WideShapes Go.ChangeAt Go.RowKit
attribute [local go_sem] isSome_set

/-- append of nothing to nil. -/
theorem run_app0 (w : World) (g : Nat) (ty : TypeId) : (Builtin.append_ #[23, 23] ty #[.slice none 0 0, .slice (some ⟨g, 0, none⟩) 0 0]).run Try.prog w = .ok (.slice none 0 0) w := by
  obtain ⟨i, hi, h1⟩ := info3
  have hu : Try.prog.underlying 23 = some (.slice 3) := by kernel_rfl
  have hfc := run_firstCells_some (P := Try.prog) w i.size 0 ⟨g, 0, none⟩ 0 0 [] (by simp) (fun j u hj => by simp at hj)
  simp [Builtin.append_, run_underlying hu, sizeOf, typeInfo, hi, Builtin.lenOf, hfc]
set_option maxRecDepth 20000 in
set_option maxHeartbeats 1000000 in
theorem t29z {w0 w : World} {p : Option Addr} {cap s g : Nat} {wh : Bool} (hs : w0.heap.size ≤ s) (hup : Up w0 w) (c0 : w.cell? ⟨s, 0, none⟩ = some (.slice p 0 cap)) (c2 : w.cell? ⟨s, 2, none⟩ = some (.slice (some ⟨g, 0, none⟩) 0 0)) (c3 : w.cell? ⟨s, 3, none⟩ = some (.bool false)) (c4 : w.cell? ⟨s, 4, none⟩ = some (.int .i64 0)) (c5 : w.cell? ⟨s, 5, none⟩ = some (.int .i64 0)) (c6 : w.cell? ⟨s, 6, none⟩ = some (.slice none 0 0)) (fz : ∀ k, w.frozen? ⟨s, k, none⟩ = false) : Calls Try.prog 29 #[.pointer (some ⟨s, 0, none⟩), .int .i64 0, .int .i64 0, .int .i64 0, .bool wh] w fun e w' => e = .returned (.tuple #[]) ∧ Hid (Up w0 w' ∧ w'.cell? ⟨s, 3, none⟩ = some (.bool true) ∧ w'.cell? ⟨s, 4, none⟩ = some (.int .i64 0) ∧ w'.cell? ⟨s, 5, none⟩ = some (.int .i64 0) ∧ w'.cell? ⟨s, 6, none⟩ = some (.slice none 0 0)) := by
  have f3 := fz 3
  have f4 := fz 4
  have f5 := fz 5
  have f6 := fz 6
  have HUP : Hid (Up w0 w) := hup
  have ha : ∀ w ty, (Builtin.append_ #[23, 23] ty #[.slice none 0 0, .slice (some ⟨g, 0, none⟩) 0 0]).run Try.prog w = .ok (.slice none 0 0) w := fun w ty => run_app0 w g ty
  clear fz hup
  go_enter Try.func29, Try.ntmps29
  go_wp2_with fail
  go_quiet (fail)
  go_wp2_with fail
  (try simp only [Exit.inBlock, Exit.then])
  refine bodyPost_ret (results_none rfl _ _ _) rfl ?_
  refine ⟨rfl, Below.setCell (Below.setCell (Below.setCell (Below.setCell (below_drewN HUP.out nq) hs _) hs _) hs _) hs _, ?_, ?_, ?_, ?_⟩
  · exact cell_other (cell_other (cell_other (World.cell?_setCell_same _ _ _ c3) (Or.inr (by simp))) (Or.inr (by simp))) (Or.inr (by simp))
  · exact cell_other (cell_other (World.cell?_setCell_same _ _ _ (cell_other c4 (Or.inr (by simp)))) (Or.inr (by simp))) (Or.inr (by simp))
  · exact cell_other (World.cell?_setCell_same _ _ _ (cell_other (cell_other c5 (Or.inr (by simp))) (Or.inr (by simp)))) (Or.inr (by simp))
  · exact World.cell?_setCell_same _ _ _ (cell_other (cell_other (cell_other c6 (Or.inr (by simp))) (Or.inr (by simp))) (Or.inr (by simp)))
/-- What best leaves of no rows. -/
def BestZ (w : World) (e : Ending) (w' : World) : Prop := ∃ s : Nat, e = .returned (.pointer (some ⟨s, 0, none⟩)) ∧ Hid (Up w w' ∧ w'.cell? ⟨s, 3, none⟩ = some (.bool true) ∧ w'.cell? ⟨s, 4, none⟩ = some (.int .i64 0) ∧ w'.cell? ⟨s, 5, none⟩ = some (.int .i64 0) ∧ w'.cell? ⟨s, 6, none⟩ = some (.slice none 0 0))
set_option maxRecDepth 20000 in
set_option maxHeartbeats 1000000 in
theorem t20z {w : World} {p : Option Addr} {cap : Nat} {wh : Bool} : Calls Try.prog 20 #[.slice p 0 cap, .bool wh] w (BestZ w) := by
  have m1 : ∀ w, (Instr.makeSlice 23 (.int .i64 0) (.int .i64 0)).run Try.prog w = .ok (.slice (some ⟨w.heap.size, 0, none⟩) 0 0) (w.alloc (.cells (madeCells #[.int .i64 0] 0) 3)) := make23 0 (by omega)
  have e1 := sz1 w (.cells (madeCells #[.int .i64 0] 0) 3)
  have hc : ∀ k x, (#[.slice p 0 cap, .slice none 0 0, .slice (some ⟨w.heap.size, 0, none⟩) 0 0, .bool false, .int .i64 0, .int .i64 0, .slice none 0 0] : Array Value)[k]? = some x → ((w.alloc (.cells (madeCells #[.int .i64 0] 0) 3)).alloc (.cells #[.slice p 0 cap, .slice none 0 0, .slice (some ⟨w.heap.size, 0, none⟩) 0 0, .bool false, .int .i64 0, .int .i64 0, .slice none 0 0] 42)).cell? ⟨w.heap.size + 1, k, none⟩ = some x := fun k x hx => by
    rw [World.cell?_alloc_at _ _ _ _ e1]
    exact hx
  have C29 : Hid (Calls Try.prog 29 #[.pointer (some ⟨w.heap.size + 1, 0, none⟩), .int .i64 0, .int .i64 0, .int .i64 0, .bool wh] ((w.alloc (.cells (madeCells #[.int .i64 0] 0) 3)).alloc (.cells #[.slice p 0 cap, .slice none 0 0, .slice (some ⟨w.heap.size, 0, none⟩) 0 0, .bool false, .int .i64 0, .int .i64 0, .slice none 0 0] 42)) fun e w' => e = .returned (.tuple #[]) ∧ Hid (Up w w' ∧ w'.cell? ⟨w.heap.size + 1, 3, none⟩ = some (.bool true) ∧ w'.cell? ⟨w.heap.size + 1, 4, none⟩ = some (.int .i64 0) ∧ w'.cell? ⟨w.heap.size + 1, 5, none⟩ = some (.int .i64 0) ∧ w'.cell? ⟨w.heap.size + 1, 6, none⟩ = some (.slice none 0 0))) := t29z (p := p) (cap := cap) (g := w.heap.size) (by omega) ((Up.alloc _ _).trans (Up.alloc _ _)) (hc 0 _ rfl) (hc 2 _ rfl) (hc 3 _ rfl) (hc 4 _ rfl) (hc 5 _ rfl) (hc 6 _ rfl) (fun k => World.frozen?_alloc_at _ _ _ _ e1)
  clear hc e1
  go_enter Try.func20, Try.ntmps20
  go_wp2_with (first | (go_at_call 29; (with_reducible refine C29.out.mono ?_); rintro e w2 ⟨rfl, HA3⟩))
  go_ret
  exact ⟨_, rfl, HA3⟩
end Go.Proofs.Ytdajgnchgealhaa
