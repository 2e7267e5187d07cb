/- Rows of three; Euclid's steps. -/
import Derived.Test.YtijfmaepoamkgabJb
import Derived.Test.YtijfmaepoamkgabEe
import Derived.Test.YtijfmaepoamkgabRg
import Derived.Deep.MidRow
import Derived.Deep.RegionHeld3
namespace Go.Proofs.Ytijfmaepoamkgab.Fo
open Go.ChangeShapes Go.WideShapes Go.ChangeAt Go.RowKit
/-- Of what was there nothing has turned. -/
def Up (w w' : World) : Prop := Below w.heap.size w w'
theorem Up.refl (w : World) : Up w w := Below.refl _ _
theorem Up.trans {a b c : World} (h : Up a b) (k : Up b c) : Up a c := Below.trans h (Below.mono k h.size)
theorem Up.drewN (w : World) (n : Nat) : Up w (w.drewN n) := below_drewN (Below.refl _ _) n
theorem Up.drew (w : World) : Up w w.drew := Up.drewN w 1
theorem Up.alloc (w : World) (o : Obj) : Up w (w.alloc o) := (Below.refl _ _).alloc (Nat.le_refl _) _
theorem run_index3 (w : World) (x y z : Int) (c : Nat) (hc : c < 3) : (Instr.index 108 (.agg #[.int .i64 x, .int .i64 y, .int .i64 z]) (.int .i64 c)).run Try.prog w = .ok (.int .i64 (if c = 0 then x else if c = 1 then y else z)) w := by
  rcases (show c = 0 ∨ c = 1 ∨ c = 2 by omega) with rfl | rfl | rfl <;> kernel_rfl
theorem wpList_index3 {ops : Array Oper} {rest : List Oper} {o : Oper} {a : Act} {Q : Exit → Act → World → Prop} {w : World} {x y z : Int} (c : Nat) (v : Int) (hv : (if c = 0 then x else if c = 1 then y else z) = v) (hgd : o.guard = none) (s i : Operand)
    (hop : o.op = Op.index 108 s i) (hs : a.eval s = .agg #[.int .i64 x, .int .i64 y, .int .i64 z]) (hx : a.eval i = .int .i64 c) (hc : c < 3)
    (hK : wpList Try.prog ops Q rest (a.put o.dst (.int .i64 v)) w) : wpList Try.prog ops Q (o :: rest) a w := by
  refine wpList_plain hgd fun K hK' => ?_
  unfold Oper.wp
  simp only [execOp, hop, hs, hx]
  have e := run_index3 w x y z c hc
  rw [hv] at e
  simp [e, Result.andThen]
  exact hK' _ _ hK
/-- A row of three in memory. -/
def R3 (w : World) (g : Nat) (a x y : Int) : Prop := w.heap[g]? = some (.cells #[.int .i64 a, .int .i64 x, .int .i64 y] 108)
theorem R3.cells {w : World} {g : Nat} {a x y : Int} (h : R3 w g a x y) : w.cell? ⟨g, 0, none⟩ = some (.int .i64 a) ∧ w.cell? ⟨g, 1, none⟩ = some (.int .i64 x) ∧ w.cell? ⟨g, 2, none⟩ = some (.int .i64 y) := by
  unfold R3 at h
  unfold World.cell?
  simp [h]
theorem R3.frz {w : World} {g : Nat} {a x y : Int} (h : R3 w g a x y) (i : Nat) : w.frozen? ⟨g, i, none⟩ = false := by
  unfold R3 at h
  unfold World.frozen?
  simp [h]
theorem R3.set {w : World} {g : Nat} {a x y : Int} (h : R3 w g a x y) (t : Int) : R3 (w.setCell ⟨g, 0, none⟩ (.int .i64 t)) g t x y ∧ R3 (w.setCell ⟨g, 1, none⟩ (.int .i64 t)) g a t y ∧ R3 (w.setCell ⟨g, 2, none⟩ (.int .i64 t)) g a x t := by
  unfold R3 at *
  unfold World.setCell
  simp only [Array.getElem?_modify, h]
  simp
theorem R3.off {w : World} {g g' i : Nat} {a x y : Int} {v : Value} (h : R3 w g a x y) (hn : g ≠ g') : R3 (w.setCell ⟨g', i, none⟩ v) g a x y := by
  unfold R3 at *
  rw [Below.heap_setCell _ _ _ _ hn]; exact h
theorem R3.lt {w : World} {g : Nat} {a x y : Int} (h : R3 w g a x y) : g < w.heap.size := by
  unfold R3 at h
  exact (Array.getElem?_eq_some_iff.1 h).1
theorem R3.up {w w' : World} {g : Nat} {a x y : Int} (h : R3 w g a x y) (hu : Up w w') : R3 w' g a x y := by
  have := hu.block g h.lt
  unfold R3 at *
  rw [this]; exact h
theorem R3.new (w : World) (a x y : Int) : R3 (w.alloc (.cells #[.int .i64 a, .int .i64 x, .int .i64 y] 108)) w.heap.size a x y := heap_alloc_last _ _
/-- A row laid whole into a row. -/
def set3 (w : World) (g : Nat) (A X Y : Int) : World := w.setCells g 0 [.int .i64 A, .int .i64 X, .int .i64 Y]
theorem set3_is (w : World) (g : Nat) (A X Y : Int) : set3 w g A X Y = ((w.setCell ⟨g, 0, none⟩ (.int .i64 A)).setCell ⟨g, 1, none⟩ (.int .i64 X)).setCell ⟨g, 2, none⟩ (.int .i64 Y) := rfl
theorem R3.put {w : World} {g : Nat} {a x y : Int} (h : R3 w g a x y) (A X Y : Int) : R3 (set3 w g A X Y) g A X Y := by
  rw [set3_is]
  exact ((((h.set A).1).set X).2.1.set Y).2.2
theorem R3.offs {w : World} {g g' : Nat} {a x y : Int} (h : R3 w g a x y) (hn : g ≠ g') (A X Y : Int) : R3 (set3 w g' A X Y) g a x y := by
  rw [set3_is]
  exact ((h.off hn).off hn).off hn
theorem Up.set3 {w w' : World} {g : Nat} (h : Up w w') (hg : w.heap.size ≤ g) (A X Y : Int) : Up w (set3 w' g A X Y) := by
  rw [set3_is]
  exact Below.setCell (Below.setCell (Below.setCell h hg _) hg _) hg _
theorem R3.there {w : World} {g : Nat} {a x y : Int} (h : R3 w g a x y) : w.there g 0 3 := by
  intro j hj
  obtain ⟨c0, c1, c2⟩ := h.cells
  refine ⟨?_, by rw [Nat.zero_add]; exact h.frz j⟩
  rcases (show j = 0 ∨ j = 1 ∨ j = 2 by omega) with rfl | rfl | rfl
  · rw [Nat.zero_add, c0]; rfl
  · rw [Nat.zero_add, c1]; rfl
  · rw [Nat.zero_add, c2]; rfl
theorem size40 : (Try.prog.info? 108).map (·.size) = some 3 := by kernel_rfl
theorem wpList_store3 {ops : Array Oper} {rest : List Oper} {op : Oper} {a : Act} {w : World} {Q : Exit → Act → World → Prop} {g : Nat} {x y z A X Y : Int} (h : R3 w g x y z) (hgd : op.guard = none) (p q : Operand) (ho : op.op = .store 108 p q)
    (hx : a.eval p = .pointer (some ⟨g, 0, none⟩)) (hy : a.eval q = .agg #[.int .i64 A, .int .i64 X, .int .i64 Y])
    (hk : wpList Try.prog ops Q rest (a.put op.dst undef) (set3 w g A X Y)) : wpList Try.prog ops Q (op :: rest) a w :=
  wpList_store_mid hgd 108 p q ho g 0 _ hx hy h.there size40 (by simp [Value.oneCell']) hk
def L3 (w : World) (g g2 : Nat) (wr : World) (a x y : Int) : Prop := R3 wr g a x y ∧ R3 wr g2 0 0 0 ∧ Up w wr ∧ w.heap.size ≤ g ∧ w.heap.size ≤ g2 ∧ g ≠ g2
theorem L3.cells {w : World} {g g2 : Nat} {wr : World} {a x y : Int} (h : L3 w g g2 wr a x y) : (wr.cell? ⟨g, 0, none⟩ = some (.int .i64 a) ∧ wr.cell? ⟨g, 1, none⟩ = some (.int .i64 x) ∧ wr.cell? ⟨g, 2, none⟩ = some (.int .i64 y)) ∧ (wr.frozen? ⟨g, 0, none⟩ = false ∧ wr.frozen? ⟨g, 1, none⟩ = false ∧ wr.frozen? ⟨g, 2, none⟩ = false) :=
  ⟨h.1.cells, h.1.frz 0, h.1.frz 1, h.1.frz 2⟩
theorem L3.set {w : World} {g g2 : Nat} {wr : World} {a x y : Int} (h : L3 w g g2 wr a x y) (t : Int) : L3 w g g2 (wr.setCell ⟨g, 0, none⟩ (.int .i64 t)) t x y ∧ L3 w g g2 (wr.setCell ⟨g, 1, none⟩ (.int .i64 t)) a t y ∧ L3 w g g2 (wr.setCell ⟨g, 2, none⟩ (.int .i64 t)) a x t := by
  obtain ⟨h1, h2, h3, h4, h5, h6⟩ := h
  obtain ⟨s1, s2, s3⟩ := h1.set t
  have hk : ∀ i, Up w (wr.setCell ⟨g, i, none⟩ (.int .i64 t)) := fun i => Below.setCell h3 h4 _
  exact ⟨⟨s1, h2.off (Ne.symm h6), hk 0, h4, h5, h6⟩, ⟨s2, h2.off (Ne.symm h6), hk 1, h4, h5, h6⟩, ⟨s3, h2.off (Ne.symm h6), hk 2, h4, h5, h6⟩⟩
set_option maxHeartbeats 1000000 in
theorem t59 (a x y b u v q : Int) (w : World) : Calls Try.prog 59 #[.agg #[.int .i64 a, .int .i64 x, .int .i64 y], .agg #[.int .i64 b, .int .i64 u, .int .i64 v], .int .i64 q] w fun e w' => e = .returned (.agg #[.int .i64 (wrap64 (a - wrap64 (q * b))), .int .i64 (wrap64 (x - wrap64 (q * u))), .int .i64 (wrap64 (y - wrap64 (q * v)))]) ∧ Hid (Up w w') := by
  obtain ⟨A, hA⟩ : ∃ t, wrap64 (a - wrap64 (q * b)) = t := ⟨_, rfl⟩
  obtain ⟨X, hX⟩ : ∃ t, wrap64 (x - wrap64 (q * u)) = t := ⟨_, rfl⟩
  obtain ⟨Y, hY⟩ : ∃ t, wrap64 (y - wrap64 (q * v)) = t := ⟨_, rfl⟩
  rw [hA, hX, hY]
  go_enter Try.func59, Try.ntmps59
  go_wp2
  obtain ⟨w3, hw3⟩ : ∃ w3, w3 = ((w.alloc (.cells #[.int .i64 a, .int .i64 x, .int .i64 y] 108)).alloc (.cells #[.int .i64 b, .int .i64 u, .int .i64 v] 108)).alloc (.cells #[.int .i64 0, .int .i64 0, .int .i64 0] 108) := ⟨_, rfl⟩
  have HL : Hid (L3 w w.heap.size (w.heap.size + 1 + 1) w3 a x y) := by
    rw [hw3]
    refine ⟨((R3.new w a x y).up (Up.alloc _ _)).up (Up.alloc _ _), ?_, ((Up.alloc _ _).trans (Up.alloc _ _)).trans (Up.alloc _ _), Nat.le_refl _, by omega, by omega⟩
    have := R3.new ((w.alloc (.cells #[.int .i64 a, .int .i64 x, .int .i64 y] 108)).alloc (.cells #[.int .i64 b, .int .i64 u, .int .i64 v] 108)) 0 0 0
    simpa using this
  rw [← hw3]
  clear hw3
  generalize w.heap.size = g at *
  generalize g + 1 + 1 = g2 at *
  generalize g + 1 = g1 at *
  go_loopw [10] (fun vi wr => ∃ z : Int, vi = .int .i64 z ∧ ((z = 0 ∧ Hid (L3 w g g2 wr a x y)) ∨ (z = 1 ∧ Hid (L3 w g g2 wr A x y)) ∨ (z = 2 ∧ Hid (L3 w g g2 wr A X y)) ∨ (z = 3 ∧ Hid (L3 w g g2 wr A X Y)))) (fun vi _ => 3 - (intOf vi).toNat)
  case atStart => exact ⟨0, rfl, Or.inl ⟨rfl, HL⟩⟩
  case round =>
    clear HL
    obtain ⟨z, rfl, hz⟩ := hrel
    rcases hz with ⟨rfl, HL⟩ | ⟨rfl, HL⟩ | ⟨rfl, HL⟩ | ⟨rfl, HL⟩
    · obtain ⟨⟨c0, c1, c2⟩, f0, f1, f2⟩ := HL.out.cells
      go_wp2_with (refine wpList_index3 0 b rfl rfl _ _ rfl rfl rfl (by omega) ?_)
      go_roundw
      case rel => exact ⟨1, rfl, Or.inr (Or.inl ⟨rfl, (HL.out.set A).1⟩)⟩
      case measure => simp [intOf]
    · obtain ⟨⟨c0, c1, c2⟩, f0, f1, f2⟩ := HL.out.cells
      go_wp2_with (refine wpList_index3 1 u rfl rfl _ _ rfl rfl rfl (by omega) ?_)
      go_roundw
      case rel => exact ⟨2, rfl, Or.inr (Or.inr (Or.inl ⟨rfl, (HL.out.set X).2.1⟩))⟩
      case measure => simp [intOf]
    · obtain ⟨⟨c0, c1, c2⟩, f0, f1, f2⟩ := HL.out.cells
      go_wp2_with (refine wpList_index3 2 v rfl rfl _ _ rfl rfl rfl (by omega) ?_)
      go_roundw
      case rel => exact ⟨3, rfl, Or.inr (Or.inr (Or.inr ⟨rfl, (HL.out.set Y).2.2⟩))⟩
      case measure => simp [intOf]
    · obtain ⟨⟨c0, c1, c2⟩, f0, f1, f2⟩ := HL.out.cells
      go_wp2_with (refine wpList_store3 HL.out.2.1 rfl _ _ rfl rfl rfl ?_)
      exact bodyPost_ret (results_cell_row Try.results59 _ _ _ 108 #[.int .i64 A, .int .i64 X, .int .i64 Y] (0, 0) _ rfl (HL.out.2.1.put A X Y) Try.underlying108 rfl size40) rfl ⟨rfl, HL.out.2.2.1.set3 HL.out.2.2.2.2.1 A X Y⟩
/-- The two rows of the steps. -/
def G3 (w : World) (g g2 : Nat) (wr : World) (a x y b u v : Int) : Prop := R3 wr g a x y ∧ R3 wr g2 b u v ∧ Up w wr ∧ w.heap.size ≤ g ∧ w.heap.size ≤ g2 ∧ g ≠ g2
theorem G3.cells {w : World} {g g2 : Nat} {wr : World} {a x y b u v : Int} (h : G3 w g g2 wr a x y b u v) : (wr.cell? ⟨g, 0, none⟩ = some (.int .i64 a) ∧ wr.cell? ⟨g, 1, none⟩ = some (.int .i64 x) ∧ wr.cell? ⟨g, 2, none⟩ = some (.int .i64 y)) ∧ (wr.cell? ⟨g2, 0, none⟩ = some (.int .i64 b) ∧ wr.cell? ⟨g2, 1, none⟩ = some (.int .i64 u) ∧ wr.cell? ⟨g2, 2, none⟩ = some (.int .i64 v)) :=
  ⟨h.1.cells, h.2.1.cells⟩
theorem results_tmp4 {fn : Func} {t u v z : Tmp} (h : fn.results = #[.tmp t, .tmp u, .tmp v, .tmp z]) (tmps : Array Value) (P : Program) (w : World) :
    (results fn tmps).run P w = .ok (.tuple #[tmps.getD t undef, tmps.getD u undef, tmps.getD v undef, tmps.getD z undef]) w := by
  simp [results, h]
theorem enters {f : FuncId} {fn : Func} (hf : Try.prog.funcs[f]? = some fn) (hn : (fn.name == "runtime.NumGoroutine") = false) (hb : fn.body.isSome = true) (args : Array Value) (w : World) : (callFunc f args).run Try.prog w = .ok (.enter f args) w := by
  have h1 : fn.name ≠ "runtime.NumGoroutine" := by simpa using hn
  obtain ⟨c, hc⟩ := Option.isSome_iff_exists.1 hb
  simp [callFunc, hf, h1, hc]
theorem eg59 (args : Array Value) (w : World) : (callFunc 59 args).run Try.prog w = .ok (.enter 59 args) w := enters Try.func59 (by kernel_rfl) (by kernel_rfl) _ _
theorem wrap_sub_wrap {x p : Int} (h : -9223372036854775808 ≤ x - p ∧ x - p ≤ 9223372036854775807) : wrap64 (x - wrap64 p) = x - p := by
  unfold wrap64; omega
theorem G3.next {w : World} {g g2 : Nat} {wr w' : World} {a x y b u v A X Y : Int} (h : G3 w g g2 wr a x y b u v) (hu : Up wr w') : G3 w g g2 (set3 (set3 w' g b u v) g2 A X Y) b u v A X Y := by
  obtain ⟨h1, h2, h3, h4, h5, h6⟩ := h
  exact ⟨((h1.up hu).put b u v).offs h6 _ _ _, ((h2.up hu).offs (Ne.symm h6) b u v).put A X Y, ((h3.trans hu).set3 h4 _ _ _).set3 h5 _ _ _, h4, h5, h6⟩
theorem G3.upon {w : World} {g g2 : Nat} {wr w' : World} {a x y b u v : Int} (h : G3 w g g2 wr a x y b u v) (hu : Up wr w') : G3 w g g2 w' a x y b u v := by
  obtain ⟨h1, h2, h3, h4, h5, h6⟩ := h
  exact ⟨h1.up hu, h2.up hu, h3.trans hu, h4, h5, h6⟩
theorem G3.more {w : World} {g g2 : Nat} {wr w' : World} {a x y b u v : Int} (h0 : G3 w g g2 wr a x y b u v) (hu : Up wr w') : ((w'.cell? ⟨g, 0, none⟩ = some (.int .i64 a) ∧ w'.cell? ⟨g, 1, none⟩ = some (.int .i64 x) ∧ w'.cell? ⟨g, 2, none⟩ = some (.int .i64 y)) ∧ (w'.cell? ⟨g2, 0, none⟩ = some (.int .i64 b) ∧ w'.cell? ⟨g2, 1, none⟩ = some (.int .i64 u) ∧ w'.cell? ⟨g2, 2, none⟩ = some (.int .i64 v))) ∧ (w'.frozen? ⟨g, 0, none⟩ = false ∧ w'.frozen? ⟨g, 1, none⟩ = false ∧ w'.frozen? ⟨g, 2, none⟩ = false) ∧ w'.frozen? ⟨g2, 0, none⟩ = false ∧ w'.frozen? ⟨g2, 1, none⟩ = false ∧ w'.frozen? ⟨g2, 2, none⟩ = false :=
  have h := h0.upon hu
  ⟨h.cells, ⟨h.1.frz 0, h.1.frz 1, h.1.frz 2⟩, h.2.1.frz 0, h.2.1.frz 1, h.2.1.frz 2⟩
set_option maxHeartbeats 1000000 in
theorem t44 (a b : Int) (ha : 0 ≤ a) (ha2 : a ≤ 1099511627776) (hb : 0 ≤ b) (hb2 : b ≤ 1099511627776) (w : World) : Calls Try.prog 44 #[.int .i64 a, .int .i64 b] w fun e w' => e = .returned (.tuple #[.int .i64 (eucl a 1 0 b 0 1).1, .int .i64 (eucl a 1 0 b 0 1).2.1, .int .i64 (eucl a 1 0 b 0 1).2.2, .int .i64 0]) ∧ Hid (Up w w') := by
  have HE : Hid (EB a b a 1 0 b 0 1) := EB.start ha hb
  obtain ⟨E, hE⟩ : ∃ E, eucl a 1 0 b 0 1 = E := ⟨_, rfl⟩
  rw [hE]
  have HF : Hid (eucl a 1 0 b 0 1 = E) := hE
  clear hE
  go_enter Try.func44, Try.ntmps44
  go_wp2
  obtain ⟨w2, hw2⟩ : ∃ w2, w2 = (w.alloc (.cells #[.int .i64 a, .int .i64 1, .int .i64 0] 108)).alloc (.cells #[.int .i64 b, .int .i64 0, .int .i64 1] 108) := ⟨_, rfl⟩
  have HG : Hid (G3 w w.heap.size (w.heap.size + 1) w2 a 1 0 b 0 1) := by
    rw [hw2]
    refine ⟨((R3.new w a 1 0).up (Up.alloc _ _)), ?_, (Up.alloc _ _).trans (Up.alloc _ _), Nat.le_refl _, by omega, by omega⟩
    have := R3.new (w.alloc (.cells #[.int .i64 a, .int .i64 1, .int .i64 0] 108)) b 0 1
    simpa using this
  rw [← hw2]
  clear hw2
  generalize w.heap.size = g at *
  generalize g + 1 = g2 at *
  go_loopw [] (fun wr => ∃ A x y B u v, Hid (G3 w g g2 wr A x y B u v) ∧ Hid (EB a b A x y B u v) ∧ Hid (eucl A x y B u v = E)) (fun wr => match wr.cell? ⟨g2, 0, none⟩ with | some (.int .i64 z) => z.toNat | _ => 0)
  case atStart => exact ⟨_, _, _, _, _, _, HG, HE, HF⟩
  case round =>
    clear HG HE HF
    obtain ⟨A, x, y, B, u, v, HG, HE, HF⟩ := hrel
    obtain ⟨⟨c0, c1, c2⟩, d0, d1, d2⟩ := HG.out.cells
    have hB0 : 0 ≤ B ∧ B ≤ 1099511627776 := by have := HE.out.2.2.2.2.2.2; omega
    have hA0 : 0 ≤ A ∧ A ≤ 1099511627776 := by have := HE.out.2.2.2.2.2.1; omega
    by_cases hz : B = 0
    · subst hz
      go_wp2_with fail
      go_quiet (fail)
      all_goals (try go_wp2)
      (try simp only [Exit.inBlock, Exit.then]); refine bodyPost_ret (results_tmp4 rfl _ _ _) rfl ?_
      have := HF.out
      rw [eucl_zero] at this
      subst this
      exact ⟨rfl, HG.out.2.2.1.trans (Up.drewN _ _)⟩
    · have hB : (B == 0) = false := by simpa using hz
      have hB1 : 0 < B := by omega
      have hs := HE.out.step hB1
      obtain ⟨_, _, _, hu', hv', _, hl'⟩ := hs
      have HS : Hid (EB a b B u v (A - A / B * B) (x - A / B * u) (y - A / B * v)) := HE.out.step hB1
      have HF2 : Hid (eucl B u v (A - A / B * B) (x - A / B * u) (y - A / B * v) = E) := by
        have := HF.out
        rw [eucl_step hB1] at this
        exact this
      have HM : Hid ((A - A / B * B).toNat < B.toNat) := by
        have := Eu.less A hB1
        show _ < _
        omega
      have e1 := wrap_sub_wrap (x := A) (p := A / B * B) (by omega)
      have e2 := wrap_sub_wrap (x := x) (p := A / B * u) (by omega)
      have e3 := wrap_sub_wrap (x := y) (p := A / B * v) (by omega)
      generalize A - A / B * B = A' at *
      generalize x - A / B * u = x' at *
      generalize y - A / B * v = y' at *
      have HC : Hid (∀ w, Calls Try.prog 59 #[.agg #[.int .i64 A, .int .i64 x, .int .i64 y], .agg #[.int .i64 B, .int .i64 u, .int .i64 v], .int .i64 (A / B)] w fun e w' => e = .returned (.agg #[.int .i64 A', .int .i64 x', .int .i64 y']) ∧ Hid (Up w w')) := fun w => by
        have := t59 A x y B u v (A / B) w
        rw [e1, e2, e3] at this
        exact this
      clear e1 e2 e3 hu' hv' hl'
      have hq2 : IntKind.i64.wrap (A.tdiv B) = A / B := IntWalk.i64_quo A B ⟨hA0.1, by omega, by omega⟩
      go_wp2_with fail
      have hn : g ≠ g2 := HG.out.2.2.2.2.2
      have hn2 : g2 ≠ g := Ne.symm hn
      refine wp_region_heads 8 (fun w' => G3 w g g2 w' A x y B u v) (by kernel_rfl) (by decide) (by kernel_rfl) (fun _ _ d _ _ h => by cases d <;> exact h) (HG.out.upon (Up.drew wr)) ?_
      simp only [List.take]
      have HD : ∀ w', G3 w g g2 w' A x y B u v → (w'.cell? ⟨g, 0, none⟩ = some (.int .i64 A) ∧ w'.cell? ⟨g, 1, none⟩ = some (.int .i64 x) ∧ w'.cell? ⟨g, 2, none⟩ = some (.int .i64 y)) ∧ (w'.cell? ⟨g2, 0, none⟩ = some (.int .i64 B) ∧ w'.cell? ⟨g2, 1, none⟩ = some (.int .i64 u) ∧ w'.cell? ⟨g2, 2, none⟩ = some (.int .i64 v)) := fun w' h => h.cells
      clear c0 c1 c2 d0 d1 d2
      refine ⟨.agg #[.int .i64 B, .int .i64 u, .int .i64 v], Or.inl ⟨rfl, fun w' hS => ?_⟩, ?_⟩
      · obtain ⟨⟨c0, c1, c2⟩, d0, d1, d2⟩ := hS.cells
        go_simp
      refine ⟨.agg #[.int .i64 A, .int .i64 x, .int .i64 y], Or.inl ⟨rfl, fun w' hS => ?_⟩, ?_⟩
      · obtain ⟨⟨c0, c1, c2⟩, d0, d1, d2⟩ := hS.cells
        go_simp
      refine ⟨.agg #[.int .i64 B, .int .i64 u, .int .i64 v], Or.inl ⟨rfl, fun w' hS => ?_⟩, ?_⟩
      · obtain ⟨⟨c0, c1, c2⟩, d0, d1, d2⟩ := hS.cells
        go_simp
      refine ⟨.pointer (some ⟨g, 0, none⟩), Or.inl ⟨rfl, fun w' hS => ?_⟩, ?_⟩
      · go_simp
      refine ⟨.int .i64 A, Or.inl ⟨rfl, fun w' hS => ?_⟩, ?_⟩
      · obtain ⟨⟨c0, c1, c2⟩, d0, d1, d2⟩ := hS.cells
        go_simp
      refine ⟨.pointer (some ⟨g2, 0, none⟩), Or.inl ⟨rfl, fun w' hS => ?_⟩, ?_⟩
      · go_simp
      refine ⟨.int .i64 B, Or.inl ⟨rfl, fun w' hS => ?_⟩, ?_⟩
      · obtain ⟨⟨c0, c1, c2⟩, d0, d1, d2⟩ := hS.cells
        go_simp
      refine ⟨.int .i64 (A / B), Or.inl ⟨rfl, fun w' hS => ?_⟩, ?_⟩
      · go_simp
      simp only [Heads]
      refine wpOp_call rfl rfl rfl #[.agg #[.int .i64 A, .int .i64 x, .int .i64 y], .agg #[.int .i64 B, .int .i64 u, .int .i64 v], .int .i64 (A / B)] (by kernel_rfl) (eg59 _ _) ?_
      refine (HC.out _).mono ?_
      rintro e w' ⟨rfl, HU⟩
      have HG' := (HG.out.upon (Up.drew wr)).upon HU.out
      refine ⟨_, rfl, HG', ?_⟩
      refine wpList_store3 (A := B) (X := u) (Y := v) HG'.1 rfl _ _ rfl (by kernel_rfl) (by kernel_rfl) ?_
      refine wpList_store3 (A := A') (X := x') (Y := y') (HG'.2.1.offs (Ne.symm HG'.2.2.2.2.2) _ _ _) rfl _ _ rfl (by kernel_rfl) (by kernel_rfl) ?_
      have HN := (HG.out.upon (Up.drew wr)).next (A := A') (X := x') (Y := y') HU.out
      dsimp only
      simp only [wpList, Act.put, List.setIfInBounds_toArray, List.set_cons_succ, List.set_cons_zero]
      simp +zetaDelta only [Exit.inBlock, Exit.then]
      clear HC HD
      refine ⟨⟨_, _, _, _, _, _, _, _, _, _, _, _, ⟨_, _, _, _, _, _, HN, HS, HF2⟩, rfl⟩, ?_⟩
      rw [HN.2.1.cells.1, HG.out.2.1.cells.1]
      exact HM.out
theorem t44e (a b : Int) (h : a < 0 ∨ 1099511627776 < a ∨ b < 0 ∨ 1099511627776 < b) (w : World) : Calls Try.prog 44 #[.int .i64 a, .int .i64 b] w fun e w' => e = .returned (.tuple #[.int .i64 0, .int .i64 0, .int .i64 0, .int .i64 2]) ∧ Hid (Up w w') := by
  have hb : (decide (a < 0) || decide (1099511627776 < a) || decide (b < 0) || decide (1099511627776 < b)) = true := by
    simp only [Bool.or_eq_true, decide_eq_true_eq]; omega
  go_enter Try.func44, Try.ntmps44
  go_wp2
  all_goals first
    | ((try simp only [Exit.inBlock, Exit.then]); refine bodyPost_ret (results_tmp4 rfl _ _ _) rfl ?_; exact ⟨rfl, Up.refl _⟩)
    | (exfalso; simp_all; omega)
end Go.Proofs.Ytijfmaepoamkgab.Fo
