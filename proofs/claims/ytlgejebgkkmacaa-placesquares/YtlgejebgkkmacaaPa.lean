/- A point as a number, a direction brought upward, a point so many metres away. -/
import Derived.Test.YtlgejebgkkmacaaIa
import Derived.Test.YtlgejebgkkmacaaRg
namespace Go.Proofs.Ytlgejebgkkmacaa
open Go.ChangeShapes Go.WideShapes Go.ChangeAt Go.RowKit Go.Fl Ieee
attribute [local go_sem] run_store_float run_store_complex call39 call50 run_neg fold_eq fold_ne fold_lt fold_gt abs_eq

/-- What a call leaves that hands back this one number and may make memory. -/
def VU (w : World) (v : Value) (e : Ending) (w' : World) : Prop := e = .returned v ∧ Up w w'
theorem pt_new (w : World) (x y : Nat) (t : TypeId) : (w.alloc (.cells #[.float .f64 x, .float .f64 y] t)).cell? ⟨w.heap.size, 0, none⟩ = some (.float .f64 x) ∧ (w.alloc (.cells #[.float .f64 x, .float .f64 y] t)).cell? ⟨w.heap.size, 1, none⟩ = some (.float .f64 y) :=
  ⟨World.cell?_alloc_at _ _ _ _ rfl, World.cell?_alloc_at _ _ _ _ rfl⟩
theorem t29 (x y : Nat) (w : World) : Calls Try.prog 29 #[.agg #[.float .f64 x, .float .f64 y]] w (VU w (.complex .f64 y x)) := by
  go_enter Try.func29, Try.ntmps29
  go_wp2
  go_ret
  exact ⟨rfl, Up.alloc _ _⟩
def upF (x : Option Nat) : Option Nat :=
  let t := if ltF x (ab 0) then bin .add x (ab 4607182418800017408) else x
  if gtF t (ab 4607182418800017408) || eqF t (ab 4607182418800017408) then ab 0 else t
theorem t31 (x : Nat) (w : World) : Calls Try.prog 31 #[.float .f64 x] w (FR w (upF (ab x))) := by
  go_enter Try.func31, Try.ntmps31
  go_wp2_with ((with_reducible refine upon_fl (by simp) ?_); intro r n hr)
  all_goals (go_ret; go_tidy; first | refine FR.mkN ?_ | refine FR.mk0 ?_)
  all_goals simp_all [upF, Hid]
theorem t35 (x : Nat) (w : World) : Calls Try.prog 35 #[.float .f64 x] w (FR w (upF (ab x))) := by
  go_enter Try.func35, Try.ntmps35
  go_wp2_with ((with_reducible refine upon_fl (by simp) ?_); intro r n hr)
  all_goals (go_ret; go_tidy; first | refine FR.mkN ?_ | refine FR.mk0 ?_)
  all_goals simp_all [upF, Hid]
end Go.Proofs.Ytlgejebgkkmacaa
