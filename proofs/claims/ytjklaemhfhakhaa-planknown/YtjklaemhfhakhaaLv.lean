/- Steps of a region that draws its order, by what they leave. -/
import Derived.Test.YtjklaemhfhakhaaLu
import Derived.Test.YtjklaemhfhakhaaBb
namespace Go.Proofs.Ytjklaemhfhakhaa
open Go Go.RowKit

abbrev cI (c : Bool) (v : Value) : Value → World → Prop := fun u _ => c = true → u = v
theorem mI (c : Bool) (v : Value) : MonoT (cI c v) := fun _ _ _ h _ => h
abbrev cV (v : Value) : Value → World → Prop := fun u _ => u = v
abbrev cP (W : World) (z : Obj) : Value → World → Prop := fun u w => ∃ b, u = .pointer (some ⟨b, 0, none⟩) ∧ W.heap.size ≤ b ∧ Hid (w.heap[b]? = some z)
theorem mV (v : Value) : MonoT (cV v) := fun _ _ _ h _ => h
theorem mP (W : World) (z : Obj) : MonoT (cP W z) := fun _ _ _ ⟨b, h1, h2, h3⟩ hu => ⟨b, h1, h2, kept2 h3.out hu⟩
theorem UpO.is {P : Program} {ops : Array Oper} {T : Value → World → Prop} {o : Oper} {a : Act} {w : World} (v : Value) (hT : T v w) (hg : o.guard = none) (h : (execOp a.eval o).run P w = .ok (.value v) w) : UpO P ops T o a w :=
  Or.inl ⟨by simp [Region.wanted, hg], by rw [h]; exact ⟨hT, Up.refl _⟩⟩
theorem UpO.isW {P : Program} {ops : Array Oper} {T : Value → World → Prop} {o : Oper} {a : Act} {w : World} (v : Value) (hT : T v w) (hg : Region.wanted o (yielded ops a.tmps) = true) (h : (execOp a.eval o).run P w = .ok (.value v) w) : UpO P ops T o a w :=
  Or.inl ⟨hg, by rw [h]; exact ⟨hT, Up.refl _⟩⟩
theorem UpO.no {P : Program} {ops : Array Oper} {T : Value → World → Prop} {o : Oper} {a : Act} {w : World} (hT : T undef w) (hg : Region.wanted o (yielded ops a.tmps) = false) : UpO P ops T o a w := Or.inr ⟨hg, hT⟩
theorem UpO.al {P : Program} {ops : Array Oper} {W : World} {z : Obj} {o : Oper} {a : Act} {w : World} (hu : Up W w) (hg : o.guard = none) (h : (execOp a.eval o).run P w = .ok (.value (.pointer (some ⟨w.heap.size, 0, none⟩))) (w.alloc z)) : UpO P ops (cP W z) o a w :=
  Or.inl ⟨by simp [Region.wanted, hg], by rw [h]; exact ⟨⟨_, rfl, hu.size, heap_alloc_last w z⟩, Up.alloc _ _⟩⟩
theorem UpO.call {P : Program} {ops : Array Oper} {T : Value → World → Prop} {o : Oper} {f : Nat} {args : Array Operand} {tys : Array TypeId} {a : Act} {w : World} (vs : Array Value) (hw : Region.wanted o (yielded ops a.tmps) = true) (hop : o.op = .call { callee := .value (.func f), args := args, argTypes := tys }) (hvs : args.map a.eval = vs) (hen : (callFunc f vs).run P w = .ok (.enter f vs) w) (h : Calls P f vs w fun e w' => ∃ v, e = .returned v ∧ T v w' ∧ Up w w') : UpO P ops T o a w := by
  refine Or.inl ⟨hw, ?_⟩
  have e2 : (execOp a.eval o).run P w = .ok (.enter f vs) w := by
    simp [execOp, hop, resolve, invoke, Act.eval, Deferred.ofValue, hvs, hen]
  rw [e2]
  exact h
theorem vu_cV {w : World} {v : Value} : ∀ e w', VU w v e w' → ∃ u, e = .returned u ∧ cV v u w' ∧ Up w w' := fun _ _ ⟨h1, h2⟩ => ⟨_, h1, rfl, h2⟩

end Go.Proofs.Ytjklaemhfhakhaa
