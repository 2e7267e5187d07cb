/- Whether an edge counts. -/
import Derived.Test.YtlgejebgkkmacaaPc
namespace Go.Proofs.Ytlgejebgkkmacaa
open Go.ChangeShapes Go.WideShapes Go.ChangeAt Go.RowKit Go.Fl Ieee
attribute [local go_sem] run_store_float run_store_complex call39 call50 run_neg fold_eq fold_ne fold_lt fold_gt abs_eq

theorem HEq'' {α : Type} (a : α) : ∃ v, Hid (a = v) := ⟨a, rfl⟩
/-- An edge, its lower end first, lies to the east of a point, at its height. -/
def eastF (ax ay bx cy x y : Option Nat) : Bool :=
  (ltF ay y || eqF ay y) && ltF y cy && ltF x (bin .add ax (bin .mul (bin .quo (bin .sub y ay) (bin .sub cy ay)) (bin .sub bx ax)))
def cntF (a b p : Nat × Nat) : Bool :=
  if ltF (ab b.2) (ab a.2) then eastF (ab b.1) (ab b.2) (ab a.1) (ab a.2) (ab p.1) (ab p.2) else eastF (ab a.1) (ab a.2) (ab b.1) (ab b.2) (ab p.1) (ab p.2)
def BU (w : World) (b : Bool) (e : Ending) (w' : World) : Prop := e = .returned (.bool b) ∧ Up w w'
set_option maxHeartbeats 4000000 in
set_option maxRecDepth 20000 in
theorem t49 (ax ay bx cy x y : Nat) (w : World) : Calls Try.prog 49 #[.agg #[.float .f64 ax, .float .f64 ay, .float .f64 bx, .float .f64 cy], .agg #[.float .f64 x, .float .f64 y]] w (BU w (cntF (ax, ay) (bx, cy) (x, y))) := by
  obtain ⟨V, HV⟩ := HEq'' (cntF (ax, ay) (bx, cy) (x, y))
  rw [HV.out]
  unfold cntF at HV
  simp only at HV
  cases hl : ltF (ab cy) (ab ay)
  all_goals
    simp only [hl, Bool.false_eq_true, if_false, if_true] at HV
    go_enter Try.func49, Try.ntmps49
    go_wp2_with fail
    go_region
    all_goals go_wp2_with ((with_reducible refine upon_fl (by simp) ?_); intro r n hr)
  all_goals (go_ret)
  all_goals refine ⟨?_, ?_⟩
  all_goals first
    | (show Ending.returned (.bool _) = .returned (.bool V)
       rw [← HV.out]
       clear HV
       unfold eastF
       simp_all [Hid]
       try grind
       done)
    | (show Below w.heap.size w _
       clear HV
       repeat' first
         | exact Below.refl _ _
         | refine below_drewN ?_ _
         | refine below_drewN ?_ 1
         | refine Below.alloc ?_ (by simp <;> omega) _
         | refine Below.setCell ?_ (by simp <;> omega) _)
end Go.Proofs.Ytlgejebgkkmacaa
