/- Differences of complex numbers; a struct's fields. -/
import Derived.Test.YtlgejebgkkmacaaT
namespace Go.Proofs.Ytlgejebgkkmacaa
open Go.ChangeShapes Go.WideShapes Go.ChangeAt Go.RowKit Go.Fl Ieee

def BR (b : Bool) (w : World) (e : Ending) (w' : World) : Prop := e = .returned (.bool b) ∧ w' = w
theorem fieldC_0 (x y : Nat) (w : World) : (Instr.field 53 (.agg #[.float .f64 x, .float .f64 y]) 0).run Try.prog w = .ok (.float .f64 x) w := by kernel_rfl
theorem fieldC_1 (x y : Nat) (w : World) : (Instr.field 53 (.agg #[.float .f64 x, .float .f64 y]) 1).run Try.prog w = .ok (.float .f64 y) w := by kernel_rfl
theorem fieldP_0 (x y : Nat) (w : World) : (Instr.field 24 (.agg #[.float .f64 x, .float .f64 y]) 0).run Try.prog w = .ok (.float .f64 x) w := by kernel_rfl
theorem fieldP_1 (x y : Nat) (w : World) : (Instr.field 24 (.agg #[.float .f64 x, .float .f64 y]) 1).run Try.prog w = .ok (.float .f64 y) w := by kernel_rfl
theorem run_csub {P : Program} (t : TypeId) (a b c d : Nat) (w : World) :
    ∃ r i n, (binOp .sub t (.complex .f64 a b) (.complex .f64 c d)).run P w = .ok (.complex .f64 r i) (w.drewN n) ∧ ab r = bin .sub (ab a) (ab c) ∧ ab i = bin .sub (ab b) (ab d) := by
  obtain ⟨r, n, e1, h1⟩ := run_fl (P := P) .sub t a c w (by simp)
  obtain ⟨i, m, e2, h2⟩ := run_fl (P := P) .sub t b d (w.drewN n) (by simp)
  have f1 : (Op.floatArith .sub .f64 a c).run P w = .ok (.float .f64 r) (w.drewN n) := e1
  have f2 : (Op.floatArith .sub .f64 b d).run P (w.drewN n) = .ok (.float .f64 i) ((w.drewN n).drewN m) := e2
  refine ⟨r, i, n + m, ?_, h1, h2⟩
  rw [World.drewN_drewN] at f2
  simp [binOp, Op.complexOp, Op.Complex.arith, f1, f2]
theorem upon_csub {P : Program} {o : Oper} {a : Act} {next : Act → World → Prop} {Q : Exit → Act → World → Prop} {t : TypeId} {x y x' y' : Nat} {w : World}
    {F : Value → World → Result Next} (hk : ∀ r i n, Hid (ab r = bin .sub (ab x) (ab x')) → Hid (ab i = bin .sub (ab y) (ab y')) → o.upon P a next Q (F (.complex .f64 r i) (w.drewN n))) :
    o.upon P a next Q (((binOp .sub t (.complex .f64 x y) (.complex .f64 x' y')).run P w).andThen F) := by
  obtain ⟨r, i, n, e, h1, h2⟩ := run_csub (P := P) t x y x' y' w
  rw [e]
  exact hk r i n h1 h2

/-- Complex numbers, all NaN being one. -/
abbrev C2 := Option Nat × Option Nat
def mulC (a b : C2) : C2 := (mulR a.1 a.2 b.1 b.2, mulI a.1 a.2 b.1 b.2)
def addC (a b : C2) : C2 := (bin .add a.1 b.1, bin .add a.2 b.2)
end Go.Proofs.Ytlgejebgkkmacaa
