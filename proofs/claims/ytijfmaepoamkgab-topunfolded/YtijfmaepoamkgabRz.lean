/- Rows beside each other; drawn regions. -/
import Derived.Test.YtijfmaepoamkgabPa
import Derived.Deep.AppendLies
import Derived.Maps.AppendAt
namespace Go.Proofs.Ytijfmaepoamkgab
open Go.ChangeShapes Go.WideShapes Go.ChangeAt Go.RowKit Go.Fl Go.Sort

theorem grown_up {w0 w w' : World} {row : Option Nat} (hu : Up w0 w) (hg : w.grownBy w' row) (hb : ∀ j, row = some j → w0.heap.size ≤ j) : Up w0 w' := RowKit.Below.grown hu hg (RowKit.Below.size hu) hb
/-- Rows of unlike kinds lie in blocks of their own. -/
theorem kinds_apart {w : World} {b b' s s' n n' : Nat} {t t' : TypeId} {v v' : Value} {xs xs' : List Value} (h : w.ownsRow b t s v n xs) (h' : w.ownsRow b' t' s' v' n' xs') (ht : t ≠ t') {g : Nat} (hv : v.ownBlock = some g) : v'.ownBlock ≠ some g := by
  intro hv'
  rcases h.2 with ⟨rfl, _⟩ | ⟨g1, c1, cur1, rfl, _, e1, _⟩
  · cases hv
  rcases h'.2 with ⟨rfl, _⟩ | ⟨g2, c2, cur2, rfl, _, e2, _⟩
  · cases hv'
  simp only [Value.ownBlock, Option.some.injEq] at hv hv'
  subst hv
  subst hv'
  rw [e1] at e2
  simp only [Option.some.injEq, Obj.cells.injEq] at e2
  exact ht e2.2.1
theorem owns_grown {w w' : World} {b s n : Nat} {t : TypeId} {v : Value} {xs : List Value} {row : Option Nat} (h : w.ownsRow b t s v n xs) (hg : w.grownBy w' row) (hne : ∀ g, row = some g → v.ownBlock ≠ some g) : w'.ownsRow b t s v n xs := by
  have hl := h.lt
  obtain ⟨h1, h2⟩ := h
  refine ⟨h1, ?_⟩
  rcases h2 with h2 | ⟨g0, cap0, cur, rfl, k2, k3, k4⟩
  · exact Or.inl h2
  · refine Or.inr ⟨g0, cap0, cur, rfl, k2, ?_, k4⟩
    rw [hg.block g0 (hl g0 rfl).2 (fun e => hne g0 e.symm rfl)]; exact k3
theorem keep_far {w w1 : World} {row : Option Nat} {o : Obj} {g k : Nat} {u : Value} (hg : (w.alloc o).drew.grownBy w1 row) (hne : some g ≠ row) (hc : w.cell? ⟨g, k, none⟩ = some u) : w1.cell? ⟨g, k, none⟩ = some u := by
  have h := World.block_lt_of_cell? w _ hc
  rw [hg.cell_far _ (Nat.lt_of_lt_of_le h (Up.alloc _ _).size) hne]
  exact cell_up hc ((Up.alloc _ _).trans (Up.drewN _ 1))
/-- A step of floats in a region whose order is drawn. -/
theorem wpOp_fl {P : Program} {ops : Array Oper} {Q : Exit → Act → World → Prop} {K : Act → World → Prop} {a : Act} {w : World} {m : Nat} {o : Oper} {op : BinOp} {t1 t2 : TypeId} {x y : Operand} (ho : ops[m]? = some o) (hg : o.guard = none) (hop : o.op = .binOp op t1 x y t2) (p q : Nat) (hx : a.eval x = .float .f64 p) (hy : a.eval y = .float .f64 q) (h4 : op = .add ∨ op = .sub ∨ op = .mul ∨ op = .quo)
    (h : ∀ r n, Hid (ab r = bin op (ab p) (ab q)) → K (a.put o.dst (.float .f64 r)) (w.drewN n)) : wpOp P ops Q m K a w := by
  unfold wpOp
  have hw : Region.wanted o (yielded ops a.tmps) = true := by simp [Region.wanted, hg]
  simp only [ho, hw, if_true]
  left
  unfold Oper.wp
  obtain ⟨r, n, e, hr⟩ := run_fl (P := P) op t1 p q w h4
  have e2 : (execOp a.eval o).run P w = .ok (.value (.float .f64 r)) (w.drewN n) := by
    rcases h4 with rfl | rfl | rfl | rfl <;> simp [execOp, hop, hx, hy, eqGuard, e]
  rw [e2]
  exact h r n hr
/-- A call whose guard is met, in a region whose order is drawn. -/
theorem wpOp_callG {P : Program} {ops : Array Oper} {Q : Exit → Act → World → Prop} {K : Act → World → Prop} {a : Act} {w : World} {m f : Nat} {o : Oper} {args : Array Operand} {tys : Array TypeId} (d : Option Tmp) (ho : ops[m]? = some o) (hd : o.dst = d) (hw : Region.wanted o (yielded ops a.tmps) = true) (hop : o.op = .call { callee := .value (.func f), args := args, argTypes := tys }) (vs : Array Value) (hvs : args.map a.eval = vs) (hen : (callFunc f vs).run P w = .ok (.enter f vs) w)
    (h : Calls P f vs w (fun e w' => ∃ v, e = .returned v ∧ K (a.put d v) w')) : wpOp P ops Q m K a w := by
  subst hd
  unfold wpOp
  simp only [ho, hw, if_true]
  left
  unfold Oper.wp
  simp [execOp, hop, resolve, invoke, Act.eval, Oper.upon, Deferred.ofValue, hvs, hen]
  refine h.mono ?_
  rintro e w' ⟨v, rfl, hk⟩
  exact hk
/-- A region in an order of one's own, shut: what is behind is not looked into. -/
structure OrdS (P : Program) (ops : Array Oper) (Q : Exit → Act → World → Prop) (S0 : World → Prop) (K : Act → World → Prop) (l : List (Nat × Option Bool)) (a : Act) (w : World) : Prop where
  out : OrdW P ops Q S0 K l a w
theorem OrdS.reads {P : Program} {ops : Array Oper} {Q : Exit → Act → World → Prop} {S0 : World → Prop} {K : Act → World → Prop} {i : Nat} {l : List (Nat × Option Bool)} {a : Act} {w : World} (v : Value) (d : Option Tmp) (o : Oper) (h0 : ops[i]? = some o) (h1 : o.dst = d) (h2 : YieldsIf P ops S0 o v a) (h3 : OrdS P ops Q S0 K l (a.put d v) w) : OrdS P ops Q S0 K ((i, some false) :: l) a w := ⟨⟨o, v, d, h0, h1, h2, h3.out⟩⟩
theorem OrdS.looks {P : Program} {ops : Array Oper} {Q : Exit → Act → World → Prop} {S0 : World → Prop} {K : Act → World → Prop} {i : Nat} {l : List (Nat × Option Bool)} {a : Act} {w : World} (v : Value) (d : Option Tmp) (o : Oper) (h0 : ops[i]? = some o) (h1 : o.dst = d) (h2 : YieldsIf P ops (fun _ => True) o v a) (h3 : OrdS P ops Q S0 K l (a.put d v) w) : OrdS P ops Q S0 K ((i, none) :: l) a w := ⟨⟨o, v, d, h0, h1, h2, h3.out⟩⟩
theorem OrdS.does {P : Program} {ops : Array Oper} {Q : Exit → Act → World → Prop} {S0 : World → Prop} {K : Act → World → Prop} {i : Nat} {l : List (Nat × Option Bool)} {a : Act} {w : World} (h : wpOp P ops Q i (fun a' w' => S0 w' ∧ OrdS P ops Q S0 K l a' w') a w) : OrdS P ops Q S0 K ((i, some true) :: l) a w := ⟨wpOp_mono (fun _ _ k => ⟨k.1, k.2.out⟩) h⟩
theorem OrdS.ends {P : Program} {ops : Array Oper} {Q : Exit → Act → World → Prop} {S0 : World → Prop} {K : Act → World → Prop} {a : Act} {w : World} (h : K a w) : OrdS P ops Q S0 K [] a w := ⟨h⟩
theorem wp_region_shut {P : Program} {id : Nat} {Q : Exit → Act → World → Prop} {a : Act} {w : World} {l : List Oper} (n : Nat) (ord : List (Nat × Option Bool)) (S0 : World → Prop) (hm : P.follows .mixedOrders = true) (hlen : n < l.length) (hord : ord.length = n) (hB : regB l.toArray n (l.length - n) ord = true) (hQ : ∀ c a d v w, Q (.panic c) (a.put d v) w → Q (.panic c) a w)
    (hS : S0 w.drew) (h : OrdS P l.toArray Q S0 (fun a' w' => wpList P l.toArray Q (l.drop n) a' w') ord a w.drew) : (Code.region id l.toArray true).wp P Q a w := wp_region_ord n ord S0 hm hlen hord hB hQ hS h.out
theorem owns_below {w w' : World} {b m n : Nat} {t : TypeId} {s : Nat} {v : Value} {xs : List Value} (h : w.ownsRow b t s v n xs) (hu : RowKit.Below m w w') (hm : ∀ k, v.ownBlock = some k → k < m) : w'.ownsRow b t s v n xs := by
  obtain ⟨h1, h2⟩ := h
  refine ⟨h1, ?_⟩
  rcases h2 with h2 | ⟨g0, cap0, cur, rfl, k2, k3, k4⟩
  · exact Or.inl h2
  · refine Or.inr ⟨g0, cap0, cur, rfl, k2, ?_, k4⟩
    rw [RowKit.Below.block hu g0 (hm g0 rfl)]; exact k3
theorem owns_up {w w' : World} {b n : Nat} {t : TypeId} {s : Nat} {v : Value} {xs : List Value} (h : w.ownsRow b t s v n xs) (hu : Up w w') : w'.ownsRow b t s v n xs := owns_below h hu (fun k hk => (h.lt k hk).2)
theorem Up.drew (w : World) : Up w w.drew := Up.drewN w 1
end Go.Proofs.Ytijfmaepoamkgab
