/- For the reference's Centre: rows that are appended to, side by side. -/
import Derived.Test.YtephkmahnbhmbaaVi
import Derived.Test.YtephkmahnbhmbaaRh
import Derived.Deep.AppendLies
import Derived.Maps.AppendAt
namespace Go.Proofs.Ytephkmahnbhmbaa
open Go.ChangeShapes Go.WideShapes Go.ChangeAt Go.RowKit Go.Fl Go.Sort

/-- Rows of unlike kinds lie in blocks of their own. -/
theorem kinds_apart {w : World} {b b' s s' n n' : Nat} {t t' : TypeId} {v v' : Value} {xs xs' : List Value} (h : w.ownsRow b t s v n xs) (h' : w.ownsRow b' t' s' v' n' xs') (ht : t ≠ t') {g : Nat} (hv : v.ownBlock = some g) : v'.ownBlock ≠ some g := by
  intro hv'
  rcases h.2 with ⟨rfl, _⟩ | ⟨g1, c1, cur1, rfl, _, e1, _⟩
  · cases hv
  rcases h'.2 with ⟨rfl, _⟩ | ⟨g2, c2, cur2, rfl, _, e2, _⟩
  · cases hv'
  simp only [Value.ownBlock, Option.some.injEq] at hv hv'
  subst hv
  subst hv'
  rw [e1] at e2
  simp only [Option.some.injEq, Obj.cells.injEq] at e2
  exact ht e2.2.1
theorem owns_grown {w w' : World} {b s n : Nat} {t : TypeId} {v : Value} {xs : List Value} {row : Option Nat} (h : w.ownsRow b t s v n xs) (hg : w.grownBy w' row) (hne : ∀ g, row = some g → v.ownBlock ≠ some g) : w'.ownsRow b t s v n xs := by
  have hl := h.lt
  obtain ⟨h1, h2⟩ := h
  refine ⟨h1, ?_⟩
  rcases h2 with h2 | ⟨g0, cap0, cur, rfl, k2, k3, k4⟩
  · exact Or.inl h2
  · refine Or.inr ⟨g0, cap0, cur, rfl, k2, ?_, k4⟩
    rw [hg.block g0 (hl g0 rfl).2 (fun e => hne g0 e.symm rfl)]; exact k3
theorem owns_kp {w w' : World} {b s n : Nat} {t : TypeId} {v : Value} {xs : List Value} {F : Nat → Prop} (h : w.ownsRow b t s v n xs) (hk : Kp F w w') (hF : ∀ g, v.ownBlock = some g → F g) : w'.ownsRow b t s v n xs := by
  have hl := h.lt
  obtain ⟨h1, h2⟩ := h
  refine ⟨h1, ?_⟩
  rcases h2 with h2 | ⟨g0, cap0, cur, rfl, k2, k3, k4⟩
  · exact Or.inl h2
  · refine Or.inr ⟨g0, cap0, cur, rfl, k2, ?_, k4⟩
    rw [hk.block g0 (hF g0 rfl) (hl g0 rfl).2]; exact k3
theorem keep_far {w w1 : World} {row : Option Nat} {o : Obj} {g k : Nat} {u : Value} (hg : (w.alloc o).drew.grownBy w1 row) (hne : some g ≠ row) (hc : w.cell? ⟨g, k, none⟩ = some u) : w1.cell? ⟨g, k, none⟩ = some u := by
  have h := World.block_lt_of_cell? w _ hc
  rw [hg.cell_far _ (Nat.lt_of_lt_of_le h (Up.alloc _ _).size) hne]
  exact cell_up hc ((Up.alloc _ _).trans (Up.drewN _ 1))
/-- A step of floats in a region whose order is drawn. -/
theorem wpOp_fl {P : Program} {ops : Array Oper} {Q : Exit → Act → World → Prop} {K : Act → World → Prop} {a : Act} {w : World} {m : Nat} {o : Oper} {op : BinOp} {t1 t2 : TypeId} {x y : Operand} (ho : ops[m]? = some o) (hg : o.guard = none) (hop : o.op = .binOp op t1 x y t2) (p q : Nat) (hx : a.eval x = .float .f64 p) (hy : a.eval y = .float .f64 q) (h4 : op = .add ∨ op = .sub ∨ op = .mul ∨ op = .quo)
    (h : ∀ r n, Hid (ab r = bin op (ab p) (ab q)) → K (a.put o.dst (.float .f64 r)) (w.drewN n)) : wpOp P ops Q m K a w := by
  unfold wpOp
  have hw : Region.wanted o (yielded ops a.tmps) = true := by simp [Region.wanted, hg]
  simp only [ho, hw, if_true]
  left
  unfold Oper.wp
  obtain ⟨r, n, e, hr⟩ := run_fl (P := P) op t1 p q w h4
  have e2 : (execOp a.eval o).run P w = .ok (.value (.float .f64 r)) (w.drewN n) := by
    rcases h4 with rfl | rfl | rfl | rfl <;> simp [execOp, hop, hx, hy, eqGuard, e]
  rw [e2]
  exact h r n hr
/-- A call whose guard is met, in a region whose order is drawn. -/
theorem wpOp_callG {P : Program} {ops : Array Oper} {Q : Exit → Act → World → Prop} {K : Act → World → Prop} {a : Act} {w : World} {m f : Nat} {o : Oper} {args : Array Operand} {tys : Array TypeId} (d : Option Tmp) (ho : ops[m]? = some o) (hd : o.dst = d) (hw : Region.wanted o (yielded ops a.tmps) = true) (hop : o.op = .call { callee := .value (.func f), args := args, argTypes := tys }) (vs : Array Value) (hvs : args.map a.eval = vs) (hen : (callFunc f vs).run P w = .ok (.enter f vs) w)
    (h : Calls P f vs w (fun e w' => ∃ v, e = .returned v ∧ K (a.put d v) w')) : wpOp P ops Q m K a w := by
  subst hd
  unfold wpOp
  simp only [ho, hw, if_true]
  left
  unfold Oper.wp
  simp [execOp, hop, resolve, invoke, Act.eval, Oper.upon, Deferred.ofValue, hvs, hen]
  refine h.mono ?_
  rintro e w' ⟨v, rfl, hk⟩
  exact hk
/-- A region in an order of one's own, shut: what is behind is not looked into. -/
structure OrdS (P : Program) (ops : Array Oper) (Q : Exit → Act → World → Prop) (S0 : World → Prop) (K : Act → World → Prop) (l : List (Nat × Option Bool)) (a : Act) (w : World) : Prop where
  out : OrdW P ops Q S0 K l a w
theorem OrdS.reads {P : Program} {ops : Array Oper} {Q : Exit → Act → World → Prop} {S0 : World → Prop} {K : Act → World → Prop} {i : Nat} {l : List (Nat × Option Bool)} {a : Act} {w : World} (v : Value) (d : Option Tmp) (o : Oper) (h0 : ops[i]? = some o) (h1 : o.dst = d) (h2 : YieldsIf P ops S0 o v a) (h3 : OrdS P ops Q S0 K l (a.put d v) w) : OrdS P ops Q S0 K ((i, some false) :: l) a w := ⟨⟨o, v, d, h0, h1, h2, h3.out⟩⟩
theorem OrdS.looks {P : Program} {ops : Array Oper} {Q : Exit → Act → World → Prop} {S0 : World → Prop} {K : Act → World → Prop} {i : Nat} {l : List (Nat × Option Bool)} {a : Act} {w : World} (v : Value) (d : Option Tmp) (o : Oper) (h0 : ops[i]? = some o) (h1 : o.dst = d) (h2 : YieldsIf P ops (fun _ => True) o v a) (h3 : OrdS P ops Q S0 K l (a.put d v) w) : OrdS P ops Q S0 K ((i, none) :: l) a w := ⟨⟨o, v, d, h0, h1, h2, h3.out⟩⟩
theorem OrdS.does {P : Program} {ops : Array Oper} {Q : Exit → Act → World → Prop} {S0 : World → Prop} {K : Act → World → Prop} {i : Nat} {l : List (Nat × Option Bool)} {a : Act} {w : World} (h : wpOp P ops Q i (fun a' w' => S0 w' ∧ OrdS P ops Q S0 K l a' w') a w) : OrdS P ops Q S0 K ((i, some true) :: l) a w := ⟨wpOp_mono (fun _ _ k => ⟨k.1, k.2.out⟩) h⟩
theorem OrdS.ends {P : Program} {ops : Array Oper} {Q : Exit → Act → World → Prop} {S0 : World → Prop} {K : Act → World → Prop} {a : Act} {w : World} (h : K a w) : OrdS P ops Q S0 K [] a w := ⟨h⟩
theorem wp_region_shut {P : Program} {id : Nat} {Q : Exit → Act → World → Prop} {a : Act} {w : World} {l : List Oper} (n : Nat) (ord : List (Nat × Option Bool)) (S0 : World → Prop) (hm : P.follows .mixedOrders = true) (hlen : n < l.length) (hord : ord.length = n) (hB : regB l.toArray n (l.length - n) ord = true) (hQ : ∀ c a d v w, Q (.panic c) (a.put d v) w → Q (.panic c) a w)
    (hS : S0 w.drew) (h : OrdS P l.toArray Q S0 (fun a' w' => wpList P l.toArray Q (l.drop n) a' w') ord a w.drew) : (Code.region id l.toArray true).wp P Q a w := wp_region_ord n ord S0 hm hlen hord hB hQ hS h.out
/-- A spot brought in; all of them; their powers. -/
def brS (s : Spt) : Spt := (clI s.1, clI s.2.1, s.2.2)
def brL (d : Array Spt) (i : Nat) : List Spt := (List.range i).map fun j => brS d[j]!
def pwL (d : Array Spt) (i : Nat) : List Nat := (List.range i).map fun j => (d[j]!).2.2
theorem brL_next (d : Array Spt) (i : Nat) : brL d (i + 1) = brL d i ++ [brS d[i]!] := by unfold brL; rw [List.range_succ, List.map_append]; rfl
theorem pwL_next (d : Array Spt) (i : Nat) : pwL d (i + 1) = pwL d i ++ [(d[i]!).2.2] := by unfold pwL; rw [List.range_succ, List.map_append]; rfl
theorem brL_len (d : Array Spt) (i : Nat) : (brL d i).length = i := by simp [brL]
theorem pwL_len (d : Array Spt) (i : Nat) : (pwL d i).length = i := by simp [pwL]
theorem brL_get (d : Array Spt) {i j : Nat} (h : j < i) : (brL d i)[j]! = brS d[j]! := by
  unfold brL; rw [getElem!_pos _ j (by simpa using h)]; simp
theorem pwL_get (d : Array Spt) {i j : Nat} (h : j < i) : (pwL d i)[j]! = (d[j]!).2.2 := by
  unfold pwL; rw [getElem!_pos _ j (by simpa using h)]; simp
/-- The first loop: the spots brought in, and their powers. -/
structure LA (w : World) (d : Array Spt) (i j : Nat) (v6 v7 : Value) (wr : World) : Prop where
  up : Up w wr
  o6 : wr.ownsRow w.heap.size 29 3 v6 i ((brL d i).flatMap spC)
  o7 : wr.ownsRow w.heap.size 24 1 v7 j ((pwL d j).map fe)
theorem LA.start (w : World) (d : Array Spt) : LA w d 0 0 (.slice none 0 0) (.slice none 0 0) w := ⟨Up.refl _, World.ownsRow_nil _ _ _ _, World.ownsRow_nil _ _ _ _⟩
theorem LA.up' {w : World} {d : Array Spt} {i j : Nat} {v6 v7 : Value} {wr W : World} (h : LA w d i j v6 v7 wr) (hu : Up wr W) : LA w d i j v6 v7 W := ⟨h.up.trans hu, owns_up h.o6 hu, owns_up h.o7 hu⟩
theorem LA.spot {w : World} {d : Array Spt} {i : Nat} {v6 v7 v' : Value} {wr w1 : World} {o : Obj} {k : Nat} {s : Spt} (h : LA w d i i v6 v7 wr) (hs : brS d[i]! = s) (hown : w1.ownsRow w.heap.size 29 3 v' (i + 1) ((brL d i).flatMap spC ++ spC s)) (hg : ((wr.alloc o).drewN k).grownBy w1 v6.ownBlock) : LA w d (i + 1) i v' v7 w1 := by
  have h7 : ((wr.alloc o).drewN k).ownsRow w.heap.size 24 1 v7 i ((pwL d i).map fe) := owns_up h.o7 ((Up.alloc _ _).trans (Up.drewN _ _))
  have h6 : ((wr.alloc o).drewN k).ownsRow w.heap.size 29 3 v6 i ((brL d i).flatMap spC) := owns_up h.o6 ((Up.alloc _ _).trans (Up.drewN _ _))
  refine ⟨grown_up (h.up.trans ((Up.alloc _ _).trans (Up.drewN _ _))) hg (fun j hj => (h.o6.lt j hj).1), ?_, owns_grown h7 hg (fun g hg' => kinds_apart h6 h7 (by decide) hg')⟩
  rw [brL_next, List.flatMap_append, hs]
  simpa using hown
theorem LA.power {w : World} {d : Array Spt} {i : Nat} {v6 v7 v' : Value} {wr w1 : World} {o : Obj} {x : Nat} (h : LA w d (i + 1) i v6 v7 wr) (hs : (d[i]!).2.2 = x) (hown : w1.ownsRow w.heap.size 24 1 v' (i + 1) ((pwL d i).map fe ++ [.float .f64 x])) (hg : (wr.alloc o).grownBy w1 v7.ownBlock) : LA w d (i + 1) (i + 1) v6 v' w1 := by
  have h7 : (wr.alloc o).ownsRow w.heap.size 24 1 v7 i ((pwL d i).map fe) := owns_up h.o7 (Up.alloc _ _)
  have h6 : (wr.alloc o).ownsRow w.heap.size 29 3 v6 (i + 1) ((brL d (i + 1)).flatMap spC) := owns_up h.o6 (Up.alloc _ _)
  refine ⟨grown_up (h.up.trans (Up.alloc _ _)) hg (fun j hj => (h.o7.lt j hj).1), owns_grown h6 hg (fun g hg' => kinds_apart h7 h6 (by decide) hg'), ?_⟩
  rw [pwL_next, List.map_append, hs]
  exact hown
/-- The second loop: two rows of floats beside each other. -/
structure LB (w : World) (F G : Nat → Option Nat) (i j : Nat) (v v' : Value) (X Y : List Nat) (wr : World) : Prop where
  up : Up w wr
  o1 : wr.ownsRow w.heap.size 24 1 v i (X.map fe)
  o2 : wr.ownsRow w.heap.size 24 1 v' j (Y.map fe)
  ap : ∀ g, v.ownBlock = some g → v'.ownBlock ≠ some g
  l1 : X.length = i
  l2 : Y.length = j
  e1 : ∀ k, k < i → ab X[k]! = F k
  e2 : ∀ k, k < j → ab Y[k]! = G k
theorem LB.start (w : World) (F G : Nat → Option Nat) : LB w F G 0 0 (.slice none 0 0) (.slice none 0 0) [] [] w :=
  ⟨Up.refl _, World.ownsRow_nil _ _ _ _, World.ownsRow_nil _ _ _ _, (fun g h => by cases h), rfl, rfl, fun k h => by omega, fun k h => by omega⟩
theorem LB.up' {w : World} {F G : Nat → Option Nat} {i j : Nat} {v v' : Value} {X Y : List Nat} {wr W : World} (h : LB w F G i j v v' X Y wr) (hu : Up wr W) : LB w F G i j v v' X Y W :=
  ⟨h.up.trans hu, owns_up h.o1 hu, owns_up h.o2 hu, h.ap, h.l1, h.l2, h.e1, h.e2⟩
theorem ab_push {X : List Nat} {x : Nat} {F : Nat → Option Nat} {i : Nat} (l : X.length = i) (h : ∀ k, k < i → ab X[k]! = F k) (hx : ab x = F i) : ∀ k, k < i + 1 → ab (X ++ [x])[k]! = F k := by
  intro k hk
  rw [getElem!_pos _ k (by simp; omega)]
  rcases Nat.lt_or_ge k i with q | q
  · rw [List.getElem_append_left (by omega)]
    have := h k q
    rwa [getElem!_pos X k (by omega)] at this
  · obtain rfl : k = i := by omega
    rw [List.getElem_append_right (by omega)]
    simpa [l] using hx
theorem LB.one {w : World} {F G : Nat → Option Nat} {i j : Nat} {v v' u : Value} {X Y : List Nat} {wr w1 : World} {o : Obj} {x : Nat} (h : LB w F G i j v v' X Y wr) (hx : ab x = F i) (hown : w1.ownsRow w.heap.size 24 1 u (i + 1) (X.map fe ++ [.float .f64 x])) (hg : (wr.alloc o).grownBy w1 v.ownBlock) (hat : u.ownBlock = v.ownBlock ∨ u.ownBlock = some (wr.alloc o).heap.size) : LB w F G (i + 1) j u v' (X ++ [x]) Y w1 := by
  have k2 : (wr.alloc o).ownsRow w.heap.size 24 1 v' j (Y.map fe) := owns_up h.o2 (Up.alloc _ _)
  refine ⟨grown_up (h.up.trans (Up.alloc _ _)) hg (fun j hj => (h.o1.lt j hj).1), by rw [List.map_append]; exact hown, owns_grown k2 hg (fun g hg' => h.ap g hg'), ?_, by simp [h.l1], h.l2, ab_push h.l1 h.e1 hx, h.e2⟩
  intro g hg' hv'
  rcases hat with e | e
  · exact h.ap g (e ▸ hg') hv'
  · rw [e] at hg'
    have := (k2.lt g hv').2
    simp only [Option.some.injEq] at hg'
    omega
theorem LB.two {w : World} {F G : Nat → Option Nat} {i j : Nat} {v v' u : Value} {X Y : List Nat} {wr w1 : World} {o : Obj} {x : Nat} (h : LB w F G i j v v' X Y wr) (hx : ab x = G j) (hown : w1.ownsRow w.heap.size 24 1 u (j + 1) (Y.map fe ++ [.float .f64 x])) (hg : (wr.alloc o).grownBy w1 v'.ownBlock) (hat : u.ownBlock = v'.ownBlock ∨ u.ownBlock = some (wr.alloc o).heap.size) : LB w F G i (j + 1) v u X (Y ++ [x]) w1 := by
  have k1 : (wr.alloc o).ownsRow w.heap.size 24 1 v i (X.map fe) := owns_up h.o1 (Up.alloc _ _)
  refine ⟨grown_up (h.up.trans (Up.alloc _ _)) hg (fun j hj => (h.o2.lt j hj).1), owns_grown k1 hg (fun g hg' e => h.ap g e hg'), by rw [List.map_append]; exact hown, ?_, h.l1, by simp [h.l2], h.e1, ab_push h.l2 h.e2 hx⟩
  intro g hg' hv'
  rcases hat with e | e
  · exact h.ap g hg' (e ▸ hv')
  · rw [e] at hv'
    have := (k1.lt g hg').2
    simp only [Option.some.injEq] at hv'
    omega
/-- The sum of a row of one's own. -/
theorem t49o {w : World} {b n : Nat} {v : Value} {X : List Nat} {F : Nat → Option Nat} (h : w.ownsRow b 24 1 v n (X.map fe)) (hl : X.length = n) (hp : 0 < n) (hn : n < 4611686018427387904) (hF : ∀ k, k < n → ab X[k]! = F k) : Calls Try.prog 49 #[v] w (FR w (sumN F n)) := by
  subst hl
  have ho : Own b w v X.toArray := own_list hp h
  obtain ⟨g, c, rfl, _, _, hr⟩ := own_reads ho
  have := t49 g 0 c X.toArray w hr (by simpa using hp) (by simpa using hn)
  have e : sumD X.toArray = sumN F X.length := by
    unfold sumD
    rw [List.size_toArray]
    exact sumN_congr _ fun i hi => by
      rw [← hF i hi]
      simp
  rw [e] at this
  exact this
end Go.Proofs.Ytephkmahnbhmbaa
