/- Drawn regions. -/
import Derived.Test.YtjklaemhfhakhaaBa
import Derived.Test.YtjklaemhfhakhaaRh
namespace Go.Proofs.Ytjklaemhfhakhaa
open Go.ChangeShapes Go.WideShapes Go.ChangeAt Go.RowKit

theorem wpOp_callG {P : Program} {ops : Array Oper} {Q : Exit → Act → World → Prop} {K : Act → World → Prop} {a : Act} {w : World} {m f : Nat} {o : Oper} {args : Array Operand} {tys : Array TypeId} (d : Option Tmp) (ho : ops[m]? = some o) (hd : o.dst = d) (hw : Region.wanted o (yielded ops a.tmps) = true) (hop : o.op = .call { callee := .value (.func f), args := args, argTypes := tys }) (vs : Array Value) (hvs : args.map a.eval = vs) (hen : (callFunc f vs).run P w = .ok (.enter f vs) w)
    (h : Calls P f vs w (fun e w' => ∃ v, e = .returned v ∧ K (a.put d v) w')) : wpOp P ops Q m K a w := by
  subst hd
  unfold wpOp
  simp only [ho, hw, if_true]
  left
  unfold Oper.wp
  simp [execOp, hop, resolve, invoke, Act.eval, Oper.upon, Deferred.ofValue, hvs, hen]
  refine h.mono ?_
  rintro e w' ⟨v, rfl, hk⟩
  exact hk
/-- A region in an order of one's own, shut: what is behind is not looked into. -/
structure OrdS (P : Program) (ops : Array Oper) (Q : Exit → Act → World → Prop) (S0 : World → Prop) (K : Act → World → Prop) (l : List (Nat × Option Bool)) (a : Act) (w : World) : Prop where
  out : OrdW P ops Q S0 K l a w
theorem OrdS.reads {P : Program} {ops : Array Oper} {Q : Exit → Act → World → Prop} {S0 : World → Prop} {K : Act → World → Prop} {i : Nat} {l : List (Nat × Option Bool)} {a : Act} {w : World} (v : Value) (d : Option Tmp) (o : Oper) (h0 : ops[i]? = some o) (h1 : o.dst = d) (h2 : YieldsIf P ops S0 o v a) (h3 : OrdS P ops Q S0 K l (a.put d v) w) : OrdS P ops Q S0 K ((i, some false) :: l) a w := ⟨⟨o, v, d, h0, h1, h2, h3.out⟩⟩
theorem OrdS.looks {P : Program} {ops : Array Oper} {Q : Exit → Act → World → Prop} {S0 : World → Prop} {K : Act → World → Prop} {i : Nat} {l : List (Nat × Option Bool)} {a : Act} {w : World} (v : Value) (d : Option Tmp) (o : Oper) (h0 : ops[i]? = some o) (h1 : o.dst = d) (h2 : YieldsIf P ops (fun _ => True) o v a) (h3 : OrdS P ops Q S0 K l (a.put d v) w) : OrdS P ops Q S0 K ((i, none) :: l) a w := ⟨⟨o, v, d, h0, h1, h2, h3.out⟩⟩
theorem OrdS.does {P : Program} {ops : Array Oper} {Q : Exit → Act → World → Prop} {S0 : World → Prop} {K : Act → World → Prop} {i : Nat} {l : List (Nat × Option Bool)} {a : Act} {w : World} (h : wpOp P ops Q i (fun a' w' => S0 w' ∧ OrdS P ops Q S0 K l a' w') a w) : OrdS P ops Q S0 K ((i, some true) :: l) a w := ⟨wpOp_mono (fun _ _ k => ⟨k.1, k.2.out⟩) h⟩
theorem OrdS.ends {P : Program} {ops : Array Oper} {Q : Exit → Act → World → Prop} {S0 : World → Prop} {K : Act → World → Prop} {a : Act} {w : World} (h : K a w) : OrdS P ops Q S0 K [] a w := ⟨h⟩
theorem wp_region_shut {P : Program} {id : Nat} {Q : Exit → Act → World → Prop} {a : Act} {w : World} {l : List Oper} (n : Nat) (ord : List (Nat × Option Bool)) (S0 : World → Prop) (hm : P.follows .mixedOrders = true) (hlen : n < l.length) (hord : ord.length = n) (hB : regB l.toArray n (l.length - n) ord = true) (hQ : ∀ c a d v w, Q (.panic c) (a.put d v) w → Q (.panic c) a w)
    (hS : S0 w.drew) (h : OrdS P l.toArray Q S0 (fun a' w' => wpList P l.toArray Q (l.drop n) a' w') ord a w.drew) : (Code.region id l.toArray true).wp P Q a w := wp_region_ord n ord S0 hm hlen hord hB hQ hS h.out
end Go.Proofs.Ytjklaemhfhakhaa
