/- The places' order, one pair. -/
import Derived.Test.YtijfmaepoamkgabPe
namespace Go.Proofs.Ytijfmaepoamkgab
open Go.ChangeShapes Go.WideShapes Go.ChangeAt Go.RowKit Go.Fl Go.Sort
attribute [local go_sem] run_store_float call18 run_neg fold_eq fold_ne fold_lt fold_gt abs_eq

/-- A plot's cells at a place. -/
structure P5 (w : World) (b o : Nat) (p : Plt) : Prop where
  c0 : w.cell? ⟨b, o, none⟩ = some (.float .f64 p.r)
  c1 : w.cell? ⟨b, o + 1, none⟩ = some (.float .f64 p.s)
  c2 : w.cell? ⟨b, o + 2, none⟩ = some (.float .f64 p.p)
  c3 : w.cell? ⟨b, o + 3, none⟩ = some (.float .f64 p.b)
  c4 : w.cell? ⟨b, o + 4, none⟩ = some (.float .f64 p.t)
theorem P5.up {w w' : World} {b o : Nat} {p : Plt} (h : P5 w b o p) (hu : Up w w') : P5 w' b o p := ⟨cell_up h.c0 hu, cell_up h.c1 hu, cell_up h.c2 hu, cell_up h.c3 hu, cell_up h.c4 hu⟩
/-- A slice that holds these plots. -/
structure PV (w : World) (p : Option Addr) (n cap : Nat) (P : Nat → Plt) : Prop where
  cap : n ≤ cap
  few : n ≤ 1000000
  fit : ∀ i, i < n → (P i).Fit
  rd : 0 < n → ∃ b o, p = some ⟨b, o, none⟩ ∧ ∀ i, i < n → P5 w b (o + i * 5) (P i)
theorem PV.up {w w' : World} {p : Option Addr} {n cap : Nat} {P : Nat → Plt} (h : PV w p n cap P) (hu : Up w w') : PV w' p n cap P :=
  ⟨h.cap, h.few, h.fit, fun h0 => by
    obtain ⟨b, o, e, k⟩ := h.rd h0
    exact ⟨b, o, e, fun i hi => (k i hi).up hu⟩⟩
/-- What the closure reads. -/
structure S56 (w : World) (cb lb : Nat) (p : Option Addr) (n cap b o i j : Nat) (X Y : Plt) : Prop where
  f : w.cell? ⟨cb, 0, none⟩ = some (.func (.func 23) #[] #[])
  l : w.cell? ⟨lb, 0, none⟩ = some (.slice p n cap)
  x : P5 w b (o + i * 5) X
  y : P5 w b (o + j * 5) Y
theorem S56.up {w w' : World} {cb lb : Nat} {p : Option Addr} {n cap b o i j : Nat} {X Y : Plt} (h : S56 w cb lb p n cap b o i j X Y) (hg : Gr w w') : S56 w' cb lb p n cap b o i j X Y := ⟨cell_up h.f hg.up, cell_up h.l hg.up, h.x.up hg.up, h.y.up hg.up⟩
/-- A call of what lies in a slot, in a region whose order is drawn. -/
theorem wpOp_callF {P : Program} {ops : Array Oper} {Q : Exit → Act → World → Prop} {K : Act → World → Prop} {a : Act} {w : World} {m f : Nat} {o : Oper} {x : Operand} {args : Array Operand} {tys : Array TypeId} (d : Option Tmp) (ho : ops[m]? = some o) (hd : o.dst = d) (hw : Region.wanted o (yielded ops a.tmps) = true) (hop : o.op = .call { callee := .value x, args := args, argTypes := tys }) (hx : a.eval x = .func (.func f) #[] #[]) (vs : Array Value) (hvs : args.map a.eval = vs) (hen : (callFunc f vs).run P w = .ok (.enter f vs) w)
    (h : Calls P f vs w (fun e w' => ∃ v, e = .returned v ∧ K (a.put d v) w')) : wpOp P ops Q m K a w := by
  subst hd
  unfold wpOp
  simp only [ho, hw, if_true]
  left
  unfold Oper.wp
  simp [execOp, hop, resolve, invoke, hx, Oper.upon, Deferred.ofValue, hvs, hen]
  refine h.mono ?_
  rintro e w' ⟨v, rfl, hk⟩
  exact hk
theorem eg23 (args : Array Value) (w : World) : (callFunc 23 args).run Try.prog w = .ok (.enter 23 args) w := enters Try.func23 (by kernel_rfl) (by kernel_rfl) _ _
theorem eg39 (args : Array Value) (w : World) : (callFunc 39 args).run Try.prog w = .ok (.enter 39 args) w := enters Try.func39 (by kernel_rfl) (by kernel_rfl) _ _
theorem eg38 (args : Array Value) (w : World) : (callFunc 38 args).run Try.prog w = .ok (.enter 38 args) w := enters Try.func38 (by kernel_rfl) (by kernel_rfl) _ _
theorem eg37 (args : Array Value) (w : World) : (callFunc 37 args).run Try.prog w = .ok (.enter 37 args) w := enters Try.func37 (by kernel_rfl) (by kernel_rfl) _ _

set_option maxRecDepth 20000 in
set_option maxHeartbeats 4000000 in
theorem t37 {w : World} {cb lb : Nat} {p : Option Addr} {n cap b o i j : Nat} {X Y : Plt} (hS : S56 w cb lb p n cap b o i j X Y) (hpb : p = some ⟨b, o, none⟩) (hX : X.Fit) (hY : Y.Fit) (hi : i < n) (hj : j < n) (_hn : n ≤ 1000000) : Calls Try.prog 37 #[.int .i64 i, .int .i64 j, .pointer (some ⟨cb, 0, none⟩), .pointer (some ⟨lb, 0, none⟩)] w fun e w' => e = .returned (.int .i64 (orI (cmp5 X Y) (cmpN i j))) ∧ Hid (Gr w w') := by
  have C38 : Hid (∀ w, Calls Try.prog 23 #[.agg (pC X), .agg (pC Y)] w fun e w' => e = .returned (.int .i64 (cmp5 X Y)) ∧ Hid (Gr w w')) := fun w => t23 X Y hX hY w
  have C58 : Hid (∀ w, Calls Try.prog 39 #[.int .i64 i, .int .i64 j] w fun e w' => e = .returned (.int .i64 (cmpN i j)) ∧ w' = w) := fun w => (t53 i j w).mono fun e w' ⟨h1, h2⟩ => ⟨by rw [h1]; unfold cmpI cmpN; simp only [Int.ofNat_lt], h2⟩
  have HS : Hid (S56 w.drew cb lb p n cap b o i j X Y) := hS.up (Gr.drewN w 1)
  have hn1 : (i : Int) < n := by omega
  have hn2 : (j : Int) < n := by omega
  clear hS hX hY
  generalize hc1 : cmp5 X Y = c1 at *
  generalize hc2 : cmpN i j = c2 at *
  have C57 : Hid (∀ w1 : World, Calls Try.prog 38 #[.slice (some ⟨w1.heap.size, 0, none⟩) 2 2] (w1.alloc (.cells #[.int .i64 c1, .int .i64 c2] 3)) fun e w' => e = .returned (.int .i64 (orI c1 c2)) ∧ w' = w1.alloc (.cells #[.int .i64 c1, .int .i64 c2] 3)) := fun w1 => t52 (two_cells w1 _ _ 3).1 (two_cells w1 _ _ 3).2
  generalize orI c1 c2 = c3 at *
  go_enter Try.func37, Try.ntmps37
  go_wp2_with fail
  refine wp_region_shut 15 [(0, some false), (1, some false), (2, none), (3, none), (4, some false), (5, some false), (6, none), (7, none), (8, some false), (10, none), (11, none), (9, some true), (12, some true), (13, some true), (14, some true)] (fun w' => S56 w' cb lb p n cap b o i j X Y) (by kernel_rfl) (by decide) rfl (by kernel_rfl) (fun _ _ d _ _ h => by cases d <;> exact h) (HS.out) ?_
  refine OrdS.reads (.func (.func 23) #[] #[]) (some 7) _ rfl rfl (Or.inl ⟨by kernel_rfl, fun w' hS => ?_⟩) ?_
  · obtain ⟨z1, z2, ⟨x0, x1, x2, x3, x4⟩, y0, y1, y2, y3, y4⟩ := hS
    go_simp
  refine OrdS.reads (.slice p n cap) (some 8) _ rfl rfl (Or.inl ⟨by kernel_rfl, fun w' hS => ?_⟩) ?_
  · obtain ⟨z1, z2, ⟨x0, x1, x2, x3, x4⟩, y0, y1, y2, y3, y4⟩ := hS
    go_simp
  refine OrdS.looks (.int .i64 i) (some 9) _ rfl rfl (Or.inl ⟨by kernel_rfl, fun w' hS => ?_⟩) ?_
  · go_simp
  simp only [Act.put, List.setIfInBounds_toArray, List.set_cons_succ, List.set_cons_zero]
  refine OrdS.looks (.pointer (some ⟨b, o + i * 5, none⟩)) (some 10) _ rfl rfl (Or.inl ⟨by kernel_rfl, fun w' hS => ?_⟩) ?_
  · subst hpb
    go_simp
  refine OrdS.reads (.agg (pC X)) (some 11) _ rfl rfl (Or.inl ⟨by kernel_rfl, fun w' hS => ?_⟩) ?_
  · obtain ⟨z1, z2, ⟨x0, x1, x2, x3, x4⟩, y0, y1, y2, y3, y4⟩ := hS
    unfold pC
    go_simp
  refine OrdS.reads (.slice p n cap) (some 12) _ rfl rfl (Or.inl ⟨by kernel_rfl, fun w' hS => ?_⟩) ?_
  · obtain ⟨z1, z2, ⟨x0, x1, x2, x3, x4⟩, y0, y1, y2, y3, y4⟩ := hS
    go_simp
  refine OrdS.looks (.int .i64 j) (some 13) _ rfl rfl (Or.inl ⟨by kernel_rfl, fun w' hS => ?_⟩) ?_
  · go_simp
  simp only [Act.put, List.setIfInBounds_toArray, List.set_cons_succ, List.set_cons_zero]
  refine OrdS.looks (.pointer (some ⟨b, o + j * 5, none⟩)) (some 14) _ rfl rfl (Or.inl ⟨by kernel_rfl, fun w' hS => ?_⟩) ?_
  · subst hpb
    go_simp
  refine OrdS.reads (.agg (pC Y)) (some 15) _ rfl rfl (Or.inl ⟨by kernel_rfl, fun w' hS => ?_⟩) ?_
  · obtain ⟨z1, z2, ⟨x0, x1, x2, x3, x4⟩, y0, y1, y2, y3, y4⟩ := hS
    unfold pC
    go_simp
  refine OrdS.looks (.int .i64 i) (some 17) _ rfl rfl (Or.inl ⟨by kernel_rfl, fun w' hS => ?_⟩) ?_
  · go_simp
  refine OrdS.looks (.int .i64 j) (some 18) _ rfl rfl (Or.inl ⟨by kernel_rfl, fun w' hS => ?_⟩) ?_
  · go_simp
  simp only [Act.put, List.setIfInBounds_toArray, List.set_cons_succ, List.set_cons_zero]
  refine OrdS.does ?_
  refine wpOp_callF (f := 23) (some 16) rfl rfl (by kernel_rfl) rfl rfl #[.agg (pC X), .agg (pC Y)] (by kernel_rfl) (eg23 _ _) ?_
  refine (C38.out _).mono ?_
  rintro e w1 ⟨rfl, HG1⟩
  refine ⟨_, rfl, HS.out.up HG1.out, ?_⟩
  refine OrdS.does ?_
  refine wpOp_callG (f := 39) (some 19) rfl rfl (by kernel_rfl) rfl #[.int .i64 i, .int .i64 j] (by kernel_rfl) (eg39 _ _) ?_
  refine (C58.out _).mono ?_
  rintro e w2 ⟨rfl, hw⟩
  subst w2
  refine ⟨_, rfl, HS.out.up HG1.out, ?_⟩
  refine OrdS.does ?_
  refine wpOp_run (v := .slice (some ⟨w1.heap.size, 0, none⟩) 2 2) (w' := w1.alloc (.cells #[.int .i64 c1, .int .i64 c2] 3)) rfl rfl (by kernel_rfl) ?_
  refine ⟨HS.out.up (HG1.out.trans (Gr.alloc _ _)), ?_⟩
  refine OrdS.does ?_
  refine wpOp_callG (f := 38) (some 21) rfl rfl (by kernel_rfl) rfl #[.slice (some ⟨w1.heap.size, 0, none⟩) 2 2] (by kernel_rfl) (eg38 _ _) ?_
  refine (C57.out w1).mono ?_
  rintro e w2 ⟨rfl, hw⟩
  subst w2
  refine ⟨_, rfl, HS.out.up (HG1.out.trans (Gr.alloc _ _)), ?_⟩
  refine OrdS.ends ?_
  simp only [List.drop_succ_cons, List.drop_zero, Act.put, List.setIfInBounds_toArray, List.set_cons_succ, List.set_cons_zero]
  go_wp2
  go_ret
  exact ⟨rfl, (Gr.drewN w 1).trans (HG1.out.trans (Gr.alloc _ _))⟩
end Go.Proofs.Ytijfmaepoamkgab
