/- Steps of a region that draws its order, by what they leave. -/
import Derived.Test.YtlgejebgkkmacaaLu
import Derived.Test.YtlgejebgkkmacaaPb
namespace Go.Proofs.Ytlgejebgkkmacaa
open Go Go.Fl Go.RowKit

abbrev cV (v : Value) : Value → World → Prop := fun u _ => u = v
abbrev cF (X : Option Nat) : Value → World → Prop := fun u _ => ∃ r, u = .float .f64 r ∧ Hid (ab r = X)
abbrev cC (X Y : Option Nat) : Value → World → Prop := fun u _ => ∃ r i, u = .complex .f64 r i ∧ Hid (ab r = X) ∧ Hid (ab i = Y)
abbrev cA (X Y : Option Nat) : Value → World → Prop := fun u _ => ∃ r i, u = .agg #[.float .f64 r, .float .f64 i] ∧ Hid (ab r = X) ∧ Hid (ab i = Y)
abbrev cP (W : World) (z : Obj) : Value → World → Prop := fun u w => ∃ b, u = .pointer (some ⟨b, 0, none⟩) ∧ W.heap.size ≤ b ∧ Hid (w.heap[b]? = some z)
theorem mV (v : Value) : MonoT (cV v) := fun _ _ _ h _ => h
theorem mF (X : Option Nat) : MonoT (cF X) := fun _ _ _ h _ => h
theorem mC (X Y : Option Nat) : MonoT (cC X Y) := fun _ _ _ h _ => h
theorem mA (X Y : Option Nat) : MonoT (cA X Y) := fun _ _ _ h _ => h
theorem mP (W : World) (z : Obj) : MonoT (cP W z) := fun _ _ _ ⟨b, h1, h2, h3⟩ hu => ⟨b, h1, h2, kept2 h3.out hu⟩
theorem UpO.is {P : Program} {ops : Array Oper} {T : Value → World → Prop} {o : Oper} {a : Act} {w : World} (v : Value) (hT : T v w) (hg : o.guard = none) (h : (execOp a.eval o).run P w = .ok (.value v) w) : UpO P ops T o a w :=
  Or.inl ⟨by simp [Region.wanted, hg], by rw [h]; exact ⟨hT, Up.refl _⟩⟩
theorem UpO.isW {P : Program} {ops : Array Oper} {T : Value → World → Prop} {o : Oper} {a : Act} {w : World} (v : Value) (hT : T v w) (hg : Region.wanted o (yielded ops a.tmps) = true) (h : (execOp a.eval o).run P w = .ok (.value v) w) : UpO P ops T o a w :=
  Or.inl ⟨hg, by rw [h]; exact ⟨hT, Up.refl _⟩⟩
theorem UpO.no {P : Program} {ops : Array Oper} {T : Value → World → Prop} {o : Oper} {a : Act} {w : World} (hT : T undef w) (hg : Region.wanted o (yielded ops a.tmps) = false) : UpO P ops T o a w := Or.inr ⟨hg, hT⟩
theorem UpO.al {P : Program} {ops : Array Oper} {W : World} {z : Obj} {o : Oper} {a : Act} {w : World} (hu : Up W w) (hg : o.guard = none) (h : (execOp a.eval o).run P w = .ok (.value (.pointer (some ⟨w.heap.size, 0, none⟩))) (w.alloc z)) : UpO P ops (cP W z) o a w :=
  Or.inl ⟨by simp [Region.wanted, hg], by rw [h]; exact ⟨⟨_, rfl, hu.size, heap_alloc_last w z⟩, Up.alloc _ _⟩⟩
theorem UpO.st {P : Program} {ops : Array Oper} {o : Oper} {op : BinOp} {t1 t2 : TypeId} {x y : Operand} {a : Act} {w : World} {X Y : Option Nat} (p q : Nat) (hp : ab p = X) (hq : ab q = Y) (hg : o.guard = none) (hop : o.op = .binOp op t1 x y t2) (h4 : op = .add ∨ op = .sub ∨ op = .mul ∨ op = .quo) (hx : a.eval x = .float .f64 p) (hy : a.eval y = .float .f64 q) : UpO P ops (cF (bin op X Y)) o a w := by
  refine Or.inl ⟨by simp [Region.wanted, hg], ?_⟩
  obtain ⟨r, n, e, hr⟩ := run_fl (P := P) op t1 p q w h4
  have e2 : (execOp a.eval o).run P w = .ok (.value (.float .f64 r)) (w.drewN n) := by
    rcases h4 with rfl | rfl | rfl | rfl <;> simp [execOp, hop, hx, hy, eqGuard, e]
  rw [e2]
  exact ⟨⟨r, rfl, by show _ = _; rw [hr, hp, hq]⟩, Up.drewN _ _⟩
theorem UpO.csub {P : Program} {ops : Array Oper} {o : Oper} {t1 t2 : TypeId} {x y : Operand} {a : Act} {w : World} {X Y X' Y' : Option Nat} (p q p' q' : Nat) (hp : ab p = X) (hq : ab q = Y) (hp' : ab p' = X') (hq' : ab q' = Y') (hg : o.guard = none) (hop : o.op = .binOp .sub t1 x y t2) (hx : a.eval x = .complex .f64 p q) (hy : a.eval y = .complex .f64 p' q') : UpO P ops (cC (bin .sub X X') (bin .sub Y Y')) o a w := by
  refine Or.inl ⟨by simp [Region.wanted, hg], ?_⟩
  obtain ⟨r, i, n, e, hr, hi⟩ := run_csub (P := P) t1 p q p' q' w
  have e2 : (execOp a.eval o).run P w = .ok (.value (.complex .f64 r i)) (w.drewN n) := by
    simp [execOp, hop, hx, hy, eqGuard, e]
  rw [e2]
  exact ⟨⟨r, i, rfl, by show _ = _; rw [hr, hp, hp'], by show _ = _; rw [hi, hq, hq']⟩, Up.drewN _ _⟩
theorem UpO.call {P : Program} {ops : Array Oper} {T : Value → World → Prop} {o : Oper} {f : Nat} {args : Array Operand} {tys : Array TypeId} {a : Act} {w : World} (vs : Array Value) (hw : Region.wanted o (yielded ops a.tmps) = true) (hop : o.op = .call { callee := .value (.func f), args := args, argTypes := tys }) (hvs : args.map a.eval = vs) (hen : (callFunc f vs).run P w = .ok (.enter f vs) w) (h : Calls P f vs w fun e w' => ∃ v, e = .returned v ∧ T v w' ∧ Up w w') : UpO P ops T o a w := by
  refine Or.inl ⟨hw, ?_⟩
  have e2 : (execOp a.eval o).run P w = .ok (.enter f vs) w := by
    simp [execOp, hop, resolve, invoke, Act.eval, Deferred.ofValue, hvs, hen]
  rw [e2]
  exact h
theorem vu_cV {w : World} {v : Value} : ∀ e w', VU w v e w' → ∃ u, e = .returned u ∧ cV v u w' ∧ Up w w' := fun _ _ ⟨h1, h2⟩ => ⟨_, h1, rfl, h2⟩
theorem cr_cC {w : World} {X Y : Option Nat} : ∀ e w', CR w X Y e w' → ∃ u, e = .returned u ∧ cC X Y u w' ∧ Up w w' := fun _ _ ⟨r, i, h1, h2, h3, h4⟩ => ⟨_, h1, ⟨r, i, rfl, h2, h3⟩, h4⟩
theorem sr_cA {w : World} {X Y : Option Nat} : ∀ e w', SR w X Y e w' → ∃ u, e = .returned u ∧ cA X Y u w' ∧ Up w w' := fun _ _ ⟨r, i, h1, h2, h3, h4⟩ => ⟨_, h1, ⟨r, i, rfl, h2, h3⟩, h4⟩
theorem dr_cC {w : World} {X Y : Option Nat} : ∀ e w', DR w X Y e w' → ∃ u, e = .returned u ∧ cC X Y u w' ∧ Up w w' := by
  rintro _ _ ⟨r, i, n, h1, rfl, h3, h4⟩
  exact ⟨_, h1, ⟨r, i, rfl, h3, h4⟩, Up.drewN _ _⟩
theorem fr_cF {w : World} {X : Option Nat} : ∀ e w', FR w X e w' → ∃ u, e = .returned u ∧ cF X u w' ∧ Up w w' := by
  rintro _ _ ⟨r, n, h1, rfl, h3⟩
  exact ⟨_, h1, ⟨r, rfl, h3⟩, Up.drewN _ _⟩
theorem fu_cF {w : World} {X : Option Nat} : ∀ e w', FU w X e w' → ∃ u, e = .returned u ∧ cF X u w' ∧ Up w w' := fun _ _ ⟨r, h1, h2, h3⟩ => ⟨_, h1, ⟨r, rfl, h2⟩, h3⟩
end Go.Proofs.Ytlgejebgkkmacaa
