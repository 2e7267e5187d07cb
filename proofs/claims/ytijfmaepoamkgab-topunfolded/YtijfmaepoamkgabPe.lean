/- How two plots stand to each other. -/
import Derived.Test.YtijfmaepoamkgabPd
import Derived.Test.YtijfmaepoamkgabRy
namespace Go.Proofs.Ytijfmaepoamkgab
open Go.ChangeShapes Go.WideShapes Go.ChangeAt Go.RowKit Go.Fl Go.Sort
attribute [local go_sem] run_store_float call18 run_neg fold_eq fold_ne fold_lt fold_gt abs_eq

/-- An operation that yields a value in one world's growing. -/
theorem wpOp_run {P : Program} {ops : Array Oper} {Q : Exit → Act → World → Prop} {K : Act → World → Prop} {a : Act} {w w' : World} {m : Nat} {o : Oper} {v : Value} (ho : ops[m]? = some o) (hg : o.guard = none) (he : (execOp a.eval o).run P w = .ok (.value v) w') (h : K (a.put o.dst v) w') : wpOp P ops Q m K a w := by
  unfold wpOp
  have hw : Region.wanted o (yielded ops a.tmps) = true := by simp [Region.wanted, hg]
  simp only [ho, hw, if_true]
  left
  unfold Oper.wp
  rw [he]
  exact h
theorem wpOp_of {P : Program} {ops : Array Oper} {Q : Exit → Act → World → Prop} {K : Act → World → Prop} {a : Act} {w : World} {m : Nat} {o : Oper} (ho : ops[m]? = some o) (hg : o.guard = none) (h : o.wp P a w K Q) : wpOp P ops Q m K a w := by
  unfold wpOp
  have hw : Region.wanted o (yielded ops a.tmps) = true := by simp [Region.wanted, hg]
  simp only [ho, hw, if_true]
  exact Or.inl h
theorem act_of {a' : Act} {t : Array Value} {d : List Deferred} (hs : a'.tmps.size = t.size) (hd : a'.defers = d) (h : ∀ i, i < t.size → a'.tmps.getD i undef = t.getD i undef) : a' = ⟨t, d⟩ := by
  obtain ⟨t', d'⟩ := a'
  simp only at hs hd h
  subst hd
  congr 1
  apply Array.ext hs
  intro i h1 h2
  have := h i h2
  simpa [h1, h2] using this
theorem eg40 (args : Array Value) (w : World) : (callFunc 40 args).run Try.prog w = .ok (.enter 40 args) w := enters Try.func40 (by kernel_rfl) (by kernel_rfl) _ _
theorem eg41 (args : Array Value) (w : World) : (callFunc 41 args).run Try.prog w = .ok (.enter 41 args) w := enters Try.func41 (by kernel_rfl) (by kernel_rfl) _ _
theorem size28 : (Try.prog.info? 27).map (·.size) = some 5 := by kernel_rfl
theorem orI_zero (x : Int) : orI x 0 = x := by unfold orI; split <;> simp_all
theorem from5 (p q : Plt) : fromN (fun j => [fall p.p, key p.r, key p.s, key p.b, key p.t].getD j 0) (fun j => [fall q.p, key q.r, key q.s, key q.b, key q.t].getD j 0) 5 0 = cmp5 p q := by
  show orI (cmpN (fall p.p) (fall q.p)) (orI (cmpN (key p.r) (key q.r)) (orI (cmpN (key p.s) (key q.s)) (orI (cmpN (key p.b) (key q.b)) (orI (cmpN (key p.t) (key q.t)) 0)))) = _
  rw [orI_zero]
  rfl
/-- What the first six operations yield. -/
def V38 (b0 : Nat) (p q : Plt) (i : Nat) (v : Value) (w : World) : Prop :=
  match i with
  | 0 => v = .agg (pC p)
  | 1 => v = .agg (rC p)
  | 2 => v = .agg (pC q)
  | 3 => v = .agg (rC q)
  | _ => ∃ g, v = .pointer (some ⟨g, 0, none⟩) ∧ b0 ≤ g ∧ Bk w g 87 (.int .u64 0) (.int .u64 0) (.int .u64 0) (.int .u64 0) (.int .u64 0)
def R38 (i j : Nat) (u v : Value) : Prop := i = 4 → j = 5 → u ≠ v
theorem r_any {i j : Nat} {u v : Value} (h : ¬(i = 4 ∧ j = 5)) : R38 i j u v := fun a b => absurd ⟨a, b⟩ h
theorem V38.up {b0 : Nat} {p q : Plt} {i : Nat} {v : Value} {w w' : World} (h : V38 b0 p q i v w) (hg : Gr w w') : V38 b0 p q i v w' := by
  unfold V38 at *
  split at h
  · exact h
  · exact h
  · exact h
  · exact h
  · obtain ⟨g, h1, h2, h3⟩ := h
    exact ⟨g, h1, h2, h3.up hg.up⟩

set_option maxRecDepth 20000 in
set_option maxHeartbeats 4000000 in
theorem t23 (p q : Plt) (hp : p.Fit) (hq : q.Fit) (w : World) : Calls Try.prog 23 #[.agg (pC p), .agg (pC q)] w fun e w' => e = .returned (.int .i64 (cmp5 p q)) ∧ Hid (Gr w w') := by
  have CP : Hid (∀ w, Calls Try.prog 40 #[.agg (pC p)] w fun e w' => e = .returned (.agg (rC p)) ∧ Hid (Gr w w')) := fun w => t40 p hp w
  have CQ : Hid (∀ w, Calls Try.prog 40 #[.agg (pC q)] w fun e w' => e = .returned (.agg (rC q)) ∧ Hid (Gr w w')) := fun w => t40 q hq w
  have HA : Hid (((w.alloc (.cells (pC p) 27)).alloc (.cells (pC q) 27)).heap[w.heap.size]? = some (.cells (pC p) 27)) := by
    have h1 : (w.alloc (.cells (pC p) 27)).heap[w.heap.size]? = some (.cells (pC p) 27) := heap_alloc_last _ _
    exact (RowKit.Below.block (Up.alloc (w.alloc (.cells (pC p) 27)) _) w.heap.size (by simp)).trans h1
  have HB : Hid (((w.alloc (.cells (pC p) 27)).alloc (.cells (pC q) 27)).heap[w.heap.size + 1]? = some (.cells (pC q) 27)) := by
    have := heap_alloc_last (w.alloc (.cells (pC p) 27)) (.cells (pC q) 27)
    rwa [show (w.alloc (.cells (pC p) 27)).heap.size = w.heap.size + 1 by simp] at this
  have HG : Hid (Gr w ((w.alloc (.cells (pC p) 27)).alloc (.cells (pC q) 27))) := (Gr.alloc _ _).trans (Gr.alloc _ _)
  have hpc : (pC p).size = 5 := rfl
  have hqc : (pC q).size = 5 := rfl
  clear hp hq
  generalize hPP : pC p = PP at *
  generalize hQQ : pC q = QQ at *
  go_enter Try.func23, Try.ntmps23
  go_wp2_with fail
  generalize (w.alloc (.cells PP 27)).alloc (.cells QQ 27) = W at *
  have hx : w.heap.size ≤ W.heap.size := HG.out.up.size
  generalize hww : w.heap.size + 1 = y at *
  refine wp_region_grow 6 [7, 8, 9, 10, 5, 6] (V38 W.heap.size p q) R38 (by kernel_rfl) (by decide) rfl rfl (by decide) (by simp) (by kernel_rfl) (by kernel_rfl) (by kernel_rfl) (by kernel_rfl) (fun _ _ _ _ h hg => h.up hg) ?_ ?_
  · intro i o hi ho listed a' w' hJ hall
    have hup := hJ.gr.up
    have hup0 : Up W w' := (Up.drew W).trans hup
    rcases (show i = 0 ∨ i = 1 ∨ i = 2 ∨ i = 3 ∨ i = 4 ∨ i = 5 by omega) with rfl | rfl | rfl | rfl | rfl | rfl
    · obtain rfl := Option.some.inj ho
      have h2 := hJ.rest 2 (by decide)
      have hb : w'.heap[w.heap.size]? = some (.cells PP 27) := (RowKit.Below.block hup0 _ (Array.getElem?_eq_some_iff.1 HA.out).1).trans HA.out
      exact wpOp_of rfl rfl (wp_load_row 27 (.tmp 2) rfl w.heap.size h2 27 PP (0, 0) _ hb Try.underlying27 rfl (by rw [size28, hpc]) ⟨_, rfl, congrArg Value.agg hPP.symm, Gr.refl _, fun j d _ hne _ => ⟨r_any (by omega), r_any (by omega)⟩⟩)
    · obtain rfl := Option.some.inj ho
      have h7 : V38 W.heap.size p q 0 (a'.tmps.getD 7 undef) w' := hJ.done 0 7 rfl (hall ⟨0, .data⟩ (by simp) rfl)
      have h7' : a'.eval (.tmp 7) = .agg PP := h7.trans (congrArg Value.agg hPP)
      refine wpOp_call (f := 40) rfl rfl rfl #[.agg PP] (by simp [h7']) (eg40 _ _) ?_
      refine (CP.out _).mono ?_
      rintro e w2 ⟨rfl, hg⟩
      exact ⟨_, rfl, _, rfl, rfl, hg.out, fun j d _ hne _ => ⟨r_any (by omega), r_any (by omega)⟩⟩
    · obtain rfl := Option.some.inj ho
      have h2 := hJ.rest 3 (by decide)
      have hb : w'.heap[y]? = some (.cells QQ 27) := (RowKit.Below.block hup0 _ (Array.getElem?_eq_some_iff.1 HB.out).1).trans HB.out
      exact wpOp_of rfl rfl (wp_load_row 27 (.tmp 3) rfl y h2 27 QQ (0, 0) _ hb Try.underlying27 rfl (by rw [size28, hqc]) ⟨_, rfl, congrArg Value.agg hQQ.symm, Gr.refl _, fun j d _ hne _ => ⟨r_any (by omega), r_any (by omega)⟩⟩)
    · obtain rfl := Option.some.inj ho
      have h7 : V38 W.heap.size p q 2 (a'.tmps.getD 9 undef) w' := hJ.done 2 9 rfl (hall ⟨2, .data⟩ (by simp) rfl)
      have h7' : a'.eval (.tmp 9) = .agg QQ := h7.trans (congrArg Value.agg hQQ)
      refine wpOp_call (f := 40) rfl rfl rfl #[.agg QQ] (by simp [h7']) (eg40 _ _) ?_
      refine (CQ.out _).mono ?_
      rintro e w2 ⟨rfl, hg⟩
      exact ⟨_, rfl, _, rfl, rfl, hg.out, fun j d _ hne _ => ⟨r_any (by omega), r_any (by omega)⟩⟩
    · obtain rfl := Option.some.inj ho
      refine wpOp_run (v := .pointer (some ⟨w'.heap.size, 0, none⟩)) (w' := w'.alloc (.cells #[.int .u64 0, .int .u64 0, .int .u64 0, .int .u64 0, .int .u64 0] 87)) rfl rfl (by kernel_rfl) ⟨_, rfl, ⟨_, rfl, hup0.size, Bk.new _ _ _ _ _ _ _⟩, Gr.alloc _ _, fun j d hd hne hl => ⟨fun _ h5 => ?_, r_any (by omega)⟩⟩
      subst h5
      obtain rfl := Option.some.inj hd
      obtain ⟨g, e1, e2, e3⟩ : V38 W.heap.size p q 5 (a'.tmps.getD 6 undef) w' := hJ.done 5 6 rfl hl
      rw [e1]
      intro he
      have := e3.lt
      injection he with he
      injection he with he
      injection he with he
      omega
    · obtain rfl := Option.some.inj ho
      refine wpOp_run (v := .pointer (some ⟨w'.heap.size, 0, none⟩)) (w' := w'.alloc (.cells #[.int .u64 0, .int .u64 0, .int .u64 0, .int .u64 0, .int .u64 0] 87)) rfl rfl (by kernel_rfl) ⟨_, rfl, ⟨_, rfl, hup0.size, Bk.new _ _ _ _ _ _ _⟩, Gr.alloc _ _, fun j d hd hne hl => ⟨r_any (by omega), fun h4 _ => ?_⟩⟩
      subst h4
      obtain rfl := Option.some.inj hd
      obtain ⟨g, e1, e2, e3⟩ : V38 W.heap.size p q 4 (a'.tmps.getD 5 undef) w' := hJ.done 4 5 rfl hl
      rw [e1]
      intro he
      have := e3.lt
      injection he with he
      injection he with he
      injection he with he
      omega
  · intro a' w' hgr hsz hdf hrest hdone hap
    have hup0 : Up W w' := (Up.drew W).trans hgr.up
    obtain ⟨g5, e5, l5, B5⟩ : V38 W.heap.size p q 4 (a'.tmps.getD 5 undef) w' := hdone 4 5 rfl
    obtain ⟨g6, e6, l6, B6⟩ : V38 W.heap.size p q 5 (a'.tmps.getD 6 undef) w' := hdone 5 6 rfl
    have e7 : a'.tmps.getD 7 undef = .agg PP := (show V38 W.heap.size p q 0 (a'.tmps.getD 7 undef) w' from hdone 0 7 rfl).trans (congrArg Value.agg hPP)
    have e8 : a'.tmps.getD 8 undef = .agg (rC p) := (show V38 W.heap.size p q 1 (a'.tmps.getD 8 undef) w' from hdone 1 8 rfl)
    have e9 : a'.tmps.getD 9 undef = .agg QQ := (show V38 W.heap.size p q 2 (a'.tmps.getD 9 undef) w' from hdone 2 9 rfl).trans (congrArg Value.agg hQQ)
    have e10 : a'.tmps.getD 10 undef = .agg (rC q) := (show V38 W.heap.size p q 3 (a'.tmps.getD 10 undef) w' from hdone 3 10 rfl)
    have hne : g5 ≠ g6 := fun he => by
      have := hap 4 5 5 6 rfl rfl (by decide) rfl rfl
      rw [e5, e6, he] at this
      exact this rfl
    have ea : a' = ⟨#[.agg PP, .agg QQ, .pointer (some ⟨w.heap.size, 0, none⟩), .pointer (some ⟨y, 0, none⟩), .int .i64 0, .pointer (some ⟨g5, 0, none⟩), .pointer (some ⟨g6, 0, none⟩), .agg PP, .agg (rC p), .agg QQ, .agg (rC q), undef, undef, undef], []⟩ := by
      refine act_of hsz hdf (fun i hi => ?_)
      have hi' : i < 14 := hi
      rcases (show i = 0 ∨ i = 1 ∨ i = 2 ∨ i = 3 ∨ i = 4 ∨ i = 5 ∨ i = 6 ∨ i = 7 ∨ i = 8 ∨ i = 9 ∨ i = 10 ∨ i = 11 ∨ i = 12 ∨ i = 13 by omega) with rfl | rfl | rfl | rfl | rfl | rfl | rfl | rfl | rfl | rfl | rfl | rfl | rfl | rfl
      · exact hrest 0 (by decide)
      · exact hrest 1 (by decide)
      · exact hrest 2 (by decide)
      · exact hrest 3 (by decide)
      · exact hrest 4 (by decide)
      · exact e5
      · exact e6
      · exact e7
      · exact e8
      · exact e9
      · exact e10
      · exact hrest 11 (by decide)
      · exact hrest 12 (by decide)
      · exact hrest 13 (by decide)
    subst ea
    have HG2 : Hid (Gr w w') := HG.out.trans ((Gr.drewN W 1).trans hgr)
    clear hsz hdf hrest hdone hap e5 e6 e7 e8 e9 e10 HA HB HG CP CQ hgr hup0
    have HL5 : Hid (w.heap.size ≤ g5) := Nat.le_trans hx l5
    have HL6 : Hid (w.heap.size ≤ g6) := Nat.le_trans hx l6
    simp only [List.drop_succ_cons, List.drop_zero]
    refine wpList_store_mid rfl 87 _ _ rfl g5 0 (rC p) rfl rfl B5.there size92 (by simp [rC, Value.oneCell']) ?_
    refine wpList_store_mid rfl 87 _ _ rfl g6 0 (rC q) rfl rfl (Bk.other B6 (Ne.symm hne) 0 _).there size92 (by simp [rC, Value.oneCell']) ?_
    have B5' : Hid (Bk ((w'.setCells g5 0 (rC p).toList).setCells g6 0 (rC q).toList) g5 87 (.int .u64 (fall p.p)) (.int .u64 (key p.r)) (.int .u64 (key p.s)) (.int .u64 (key p.b)) (.int .u64 (key p.t))) := Bk.other (Bk.set B5 _ _ _ _ _) hne 0 _
    have B6' : Hid (Bk ((w'.setCells g5 0 (rC p).toList).setCells g6 0 (rC q).toList) g6 87 (.int .u64 (fall q.p)) (.int .u64 (key q.r)) (.int .u64 (key q.s)) (.int .u64 (key q.b)) (.int .u64 (key q.t))) := Bk.set (Bk.other B6 (Ne.symm hne) 0 _) _ _ _ _ _
    have HG3 : Hid (Gr w ((w'.setCells g5 0 (rC p).toList).setCells g6 0 (rC q).toList)) := gr_set (gr_set HG2.out HL5.out 0 _) HL6.out 0 _
    clear B5 B6 HG2
    generalize (w'.setCells g5 0 (rC p).toList).setCells g6 0 (rC q).toList = W2 at *
    have F5 : Hid (R5 W2 g5 fun j => [fall p.p, key p.r, key p.s, key p.b, key p.t].getD j 0) := ⟨fun j hj => by
      obtain ⟨k0, k1, k2, k3, k4⟩ := B5'.out.cells
      rcases (show j = 0 ∨ j = 1 ∨ j = 2 ∨ j = 3 ∨ j = 4 by omega) with rfl | rfl | rfl | rfl | rfl
      · exact k0
      · exact k1
      · exact k2
      · exact k3
      · exact k4⟩
    have F6 : Hid (R5 W2 g6 fun j => [fall q.p, key q.r, key q.s, key q.b, key q.t].getD j 0) := ⟨fun j hj => by
      obtain ⟨k0, k1, k2, k3, k4⟩ := B6'.out.cells
      rcases (show j = 0 ∨ j = 1 ∨ j = 2 ∨ j = 3 ∨ j = 4 by omega) with rfl | rfl | rfl | rfl | rfl
      · exact k0
      · exact k1
      · exact k2
      · exact k3
      · exact k4⟩
    have C60 : Hid (Calls Try.prog 41 #[.slice (some ⟨g5, 0, none⟩) 5 5, .slice (some ⟨g6, 0, none⟩) 5 5] W2.drew fun e w' => e = .returned (.int .i64 (cmp5 p q)) ∧ w' = W2.drew) := by
      refine (t41 g5 g6 _ _ W2.drew ⟨fun j hj => cell_up (F5.out.at' j hj) (Up.drew _)⟩ ⟨fun j hj => cell_up (F6.out.at' j hj) (Up.drew _)⟩).mono ?_
      rintro e w3 ⟨rfl, rfl⟩
      exact ⟨by rw [← from5 p q], rfl⟩
    generalize hc0 : cmp5 p q = c at C60
    go_wp2_with fail
    simp only [Act.put]
    refine wp_region_shut 3 [(0, none), (1, none), (2, some true)] (fun _ => True) (by kernel_rfl) (by decide) rfl (by kernel_rfl) (fun _ _ d _ _ h => by cases d <;> exact h) (trivial) ?_
    refine OrdS.looks (.slice (some ⟨g5, 0, none⟩) 5 5) (some 11) _ rfl rfl (Or.inl ⟨by kernel_rfl, fun w' hS => ?_⟩) ?_
    · go_simp
    refine OrdS.looks (.slice (some ⟨g6, 0, none⟩) 5 5) (some 12) _ rfl rfl (Or.inl ⟨by kernel_rfl, fun w' hS => ?_⟩) ?_
    · go_simp
    refine OrdS.does ?_
    refine wpOp_callG (f := 41) (some 13) rfl rfl (by kernel_rfl) rfl #[.slice (some ⟨g5, 0, none⟩) 5 5, .slice (some ⟨g6, 0, none⟩) 5 5] (by kernel_rfl) (eg41 _ _) ?_
    refine C60.out.mono ?_
    rintro e w' ⟨rfl, hw⟩
    subst w'
    refine ⟨_, rfl, trivial, ?_⟩
    refine OrdS.ends ?_
    simp only [List.drop_succ_cons, List.drop_zero, Act.put, List.setIfInBounds_toArray, List.set_cons_succ, List.set_cons_zero]
    go_wp2
    go_ret
    exact ⟨by rw [hc0]; rfl, HG3.out.trans (Gr.drewN _ 1)⟩
end Go.Proofs.Ytijfmaepoamkgab
