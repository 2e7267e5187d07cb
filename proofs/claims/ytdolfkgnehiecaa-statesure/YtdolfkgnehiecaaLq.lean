/- Drawn regions whose calls may make memory. -/
import Derived.Test.YtdolfkgnehiecaaAa
namespace Go.Proofs.Ytdolfkgnehiecaa
open Go Go.Fl Go.RowKit

/-- Of what is there at W nothing has turned. -/
def UpC (W : World) (w : World) : Prop := Up W w
theorem UpC.start (W : World) : UpC W W := Up.refl W
theorem UpC.on (W : World) (w : World) (n : Nat) (h : UpC W w) : UpC W (w.drewN n) := Up.dr h n
theorem UpC.then {W w w' : World} (h : UpC W w) (k : Up w w') : UpC W w' := Up.trans h k
theorem LoosO.isW {P : Program} {ops : Array Oper} {C : World → Prop} {o : Oper} {v : Value} {a : Act} (hw : Region.wanted o (yielded ops a.tmps) = true) (h : ∀ w, C w → (execOp a.eval o).run P w = .ok (.value v) w) : LoosO P ops C (Sp.val v).T o a :=
  Or.inl ⟨hw, fun w hC => by rw [h w hC]; exact ⟨rfl, hC⟩⟩
theorem LoosO.notW {P : Program} {ops : Array Oper} {C : World → Prop} {o : Oper} {a : Act} (hw : Region.wanted o (yielded ops a.tmps) = false) : LoosO P ops C (Sp.val undef).T o a := Or.inr ⟨hw, rfl⟩
theorem LoosO.row {ops : Array Oper} {C : World → Prop} {o : Oper} {a : Act} {x : Operand} {g : Nat} {cs : Array Value} (hw : Region.wanted o (yielded ops a.tmps) = true) (hop : o.op = .load 24 x) (hx : a.eval x = .pointer (some ⟨g, 0, none⟩)) (hs : cs.size = 5) (h : ∀ w, C w → w.heap[g]? = some (.cells cs 24)) : LoosO Try.prog ops C (Sp.val (.agg cs)).T o a := by
  refine LoosO.isW hw fun w hC => ?_
  unfold execOp
  simp only [hop, hx, Instr.loadAt, Instr.sureAddr, Sem.run_bind, Sem.run_pure, Result.andThen_ok, run_loadVar_row (P := Try.prog) w g 24 24 cs (0, 0) _ (h w hC) Try.underlying24 rfl (by rw [hs]; kernel_rfl)]
theorem LoosO.callV {P : Program} {ops : Array Oper} {C : World → Prop} {o : Oper} {f : Nat} {args : Array Operand} {tys : Array TypeId} {a : Act} {v : Value} (hw : Region.wanted o (yielded ops a.tmps) = true) (hop : o.op = .call { callee := .value (.func f), args := args, argTypes := tys }) (vs : Array Value) (hvs : args.map a.eval = vs) (hen : ∀ w, (callFunc f vs).run P w = .ok (.enter f vs) w) (h : ∀ w, C w → Calls P f vs w fun e w' => e = .returned v ∧ C w') : LoosO P ops C (Sp.val v).T o a := by
  refine Or.inl ⟨hw, fun w hC => ?_⟩
  have e2 : (execOp a.eval o).run P w = .ok (.enter f vs) w := by
    simp [execOp, hop, resolve, invoke, Act.eval, Deferred.ofValue, hvs, hen]
  rw [e2]
  refine (h w hC).mono ?_
  rintro e w' ⟨rfl, hC'⟩
  exact ⟨_, rfl, rfl, hC'⟩
theorem LoosO.callF {P : Program} {ops : Array Oper} {C : World → Prop} {o : Oper} {f : Nat} {args : Array Operand} {tys : Array TypeId} {a : Act} {X : Option Nat} (hw : Region.wanted o (yielded ops a.tmps) = true) (hop : o.op = .call { callee := .value (.func f), args := args, argTypes := tys }) (vs : Array Value) (hvs : args.map a.eval = vs) (hen : ∀ w, (callFunc f vs).run P w = .ok (.enter f vs) w) (h : ∀ w, C w → Calls P f vs w fun e w' => ∃ r, e = .returned (.float .f64 r) ∧ ab r = X ∧ C w') : LoosO P ops C (Sp.fl X).T o a := by
  refine Or.inl ⟨hw, fun w hC => ?_⟩
  have e2 : (execOp a.eval o).run P w = .ok (.enter f vs) w := by
    simp [execOp, hop, resolve, invoke, Act.eval, Deferred.ofValue, hvs, hen]
  rw [e2]
  refine (h w hC).mono ?_
  rintro e w' ⟨r, rfl, hr, hC'⟩
  exact ⟨_, rfl, ⟨r, rfl, hr⟩, hC'⟩
end Go.Proofs.Ytdolfkgnehiecaa
