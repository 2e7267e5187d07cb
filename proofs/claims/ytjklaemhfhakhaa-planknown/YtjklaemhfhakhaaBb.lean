/- The leaves: may, ahead, first. -/
import Derived.Test.YtjklaemhfhakhaaBa
namespace Go.Proofs.Ytjklaemhfhakhaa
open Go.ChangeShapes Go.WideShapes Go.ChangeAt Go.RowKit

def jv (j : Jb) : Value := .agg #[.int .i64 j.task, .int .i64 j.frm, .int .i64 j.due, .int .i64 j.left, .int .i64 j.rank]
/-- What a call leaves that makes memory and hands back a value that is known. -/
def VU (w : World) (v : Value) (e : Ending) (w' : World) : Prop := e = .returned v ∧ Hid (Up w w')
theorem heap_alloc_last (w : World) (o : Obj) : (w.alloc o).heap[w.heap.size]? = some o := by
  show (w.heap.push o)[w.heap.size]? = some o
  simp
theorem results_st_tmp {fn : Func} {p u : Tmp} {ty : TypeId} (h : fn.results = #[.cell p ty, .tmp u]) (tmps : Array Value) (w : World) (g : Nat) (v : Value) (hp : tmps.getD p undef = .pointer (some ⟨g, 0, none⟩)) (hl : (loadVar ty ⟨g, 0, none⟩).run Try.prog w = .ok v w) :
    (results fn tmps).run Try.prog w = .ok (.tuple #[v, tmps.getD u undef]) w := by
  have hp' : tmps[p]?.getD undef = .pointer (some ⟨g, 0, none⟩) := by simpa using hp
  simp [results, h, hp', asAddr, hl]
theorem results_st_int {fn : Func} {p q : Tmp} {ty t2 : TypeId} (h : fn.results = #[.cell p ty, .cell q t2]) (tmps : Array Value) (w : World) (g g2 : Nat) (v x : Value) (hp : tmps.getD p undef = .pointer (some ⟨g, 0, none⟩)) (hq : tmps.getD q undef = .pointer (some ⟨g2, 0, none⟩)) (hl : (loadVar ty ⟨g, 0, none⟩).run Try.prog w = .ok v w) (hl2 : (loadVar t2 ⟨g2, 0, none⟩).run Try.prog w = .ok x w) :
    (results fn tmps).run Try.prog w = .ok (.tuple #[v, x]) w := by
  have hp' : tmps[p]?.getD undef = .pointer (some ⟨g, 0, none⟩) := by simpa using hp
  have hq' : tmps[q]?.getD undef = .pointer (some ⟨g2, 0, none⟩) := by simpa using hq
  simp [results, h, hp', hq', asAddr, hl, hl2]
theorem load_row5 {w : World} {g : Nat} {j : Jb} (h : w.heap[g]? = some (.cells #[.int .i64 j.task, .int .i64 j.frm, .int .i64 j.due, .int .i64 j.left, .int .i64 j.rank] 88 (0, 0))) : (loadVar 88 ⟨g, 0, none⟩).run Try.prog w = .ok (jv j) w :=
  run_loadVar_row w g 88 88 _ (0, 0) _ h Try.underlying88 rfl (by kernel_rfl)
theorem load_int {w : World} {g : Nat} {x : Int} (h : w.cell? ⟨g, 0, none⟩ = some (.int .i64 x)) : (loadVar 2 ⟨g, 0, none⟩).run Try.prog w = .ok (.int .i64 x) w := by
  go_simp
theorem t25 (e l r : Int) (w : World) : Calls Try.prog 25 #[.agg #[.int .i64 e, .int .i64 l, .int .i64 r]] w (VU w (.bool (decide (1 ≤ l) && decide (l ≤ e) && decide (e ≤ 1099511627776)))) := by
  go_enter Try.func25, Try.ntmps25
  go_wp2
  all_goals (go_ret; refine ⟨?_, ?_⟩)
  all_goals first | exact Up.alloc _ _ | (show Ending.returned (Value.bool _) = _; first | rfl | (congr 2; symm; simp; omega) | (congr 2; simp; omega) | (congr 2; simp_all; done))
theorem t49 (a b : Jb) (w : World) : Calls Try.prog 49 #[jv a, jv b] w (VU w (.bool (ahB a b))) := by
  obtain ⟨a1, a2, a3, a4, a5⟩ := a
  obtain ⟨b1, b2, b3, b4, b5⟩ := b
  show Calls Try.prog 49 #[.agg #[.int .i64 a1, .int .i64 a2, .int .i64 a3, .int .i64 a4, .int .i64 a5], .agg #[.int .i64 b1, .int .i64 b2, .int .i64 b3, .int .i64 b4, .int .i64 b5]] w _
  go_enter Try.func49, Try.ntmps49
  go_wp2
  all_goals (go_ret; refine ⟨?_, ?_⟩)
  all_goals first | exact (Up.alloc _ _).trans (Up.alloc _ _) | (show Ending.returned (Value.bool _) = _; congr 2; simp_all [ahB]; done)
end Go.Proofs.Ytjklaemhfhakhaa
