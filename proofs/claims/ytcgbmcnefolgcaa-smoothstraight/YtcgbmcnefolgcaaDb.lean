/- works. -/
import Derived.Test.YtcgbmcnefolgcaaDa
namespace Go.Proofs.Ytcgbmcnefolgcaa
open Go.ChangeShapes Go.WideShapes Go.ChangeAt Go.RowKit Go.Fl Go.Sort
attribute [local go_sem] run_store_float call22 call54 run_neg fold_eq fold_ne fold_lt fold_gt abs_eq

theorem fit_of {L : List Nat} (h : (L.all fun x => decide (x < 2 ^ 64)) = true) : Fit L.toArray := by
  intro i hi
  rw [getElem!_pos _ i hi]
  have := List.all_eq_true.1 h L.toArray[i] (by simp)
  simpa using this
/-- A list of floats that is written out. -/
theorem sv_new (w : World) (L : List Nat) (hF : (L.all fun x => decide (x < 2 ^ 64)) = true) (n : Nat) (hn : L.length = n) : SV (w.alloc (.cells (L.map fe).toArray 24)) (some ⟨w.heap.size, 0, none⟩) n n L.toArray := by
  refine ⟨by simpa using hn, Nat.le_refl _, fit_of hF, fun h0 => ⟨w.heap.size, 0, rfl, fun j hj => ?_⟩⟩
  rw [Nat.zero_add, World.cell?_alloc_at _ _ _ _ rfl]
  have hj' : j < L.length := by simpa using hj
  simp [hj']
theorem sv_nil (w : World) : SV w none 0 0 #[] := ⟨rfl, Nat.le_refl _, fun i hi => by simp at hi, fun h => by omega⟩
theorem sv_two (w : World) (c d : List Nat) (hc : (c.all fun x => decide (x < 2 ^ 64)) = true) (hd : (d.all fun x => decide (x < 2 ^ 64)) = true) (n m : Nat) (hn : c.length = n) (hm : d.length = m) : SV ((w.alloc (.cells (c.map fe).toArray 24)).alloc (.cells (d.map fe).toArray 24)) (some ⟨w.heap.size, 0, none⟩) n n c.toArray ∧ SV ((w.alloc (.cells (c.map fe).toArray 24)).alloc (.cells (d.map fe).toArray 24)) (some ⟨w.heap.size + 1, 0, none⟩) m m d.toArray := by
  refine ⟨(sv_new w c hc n hn).up (Up.alloc _ _), ?_⟩
  have := sv_new (w.alloc (.cells (c.map fe).toArray 24)) d hd m hm
  rwa [show (w.alloc (.cells (c.map fe).toArray 24)).heap.size = w.heap.size + 1 by simp] at this
/-- Line of two lists that are written out. -/
theorem line_lit (w : World) (c d : List Nat) (n m : Nat) (E : Int) (A S : Nat) (hc : (c.all fun x => decide (x < 2 ^ 64)) = true) (hd : (d.all fun x => decide (x < 2 ^ 64)) = true) (hn : c.length = n) (hm : d.length = m) (h : linE c.toArray d.toArray = E ∧ linA c.toArray d.toArray = some A ∧ linS c.toArray d.toArray = some S) :
    Calls Try.prog 15 #[.slice (some ⟨w.heap.size, 0, none⟩) n n, .slice (some ⟨w.heap.size + 1, 0, none⟩) m m] ((w.alloc (.cells (c.map fe).toArray 24)).alloc (.cells (d.map fe).toArray 24)) fun e w' => e = .returned (.tuple #[.float .f64 A, .float .f64 S, .int .i64 E]) ∧ Hid (Up w w') := by
  obtain ⟨s1, s2⟩ := sv_two w c d hc hd n m hn hm
  refine (t15 s1 s2).mono ?_
  rintro e w' ⟨a, s, rfl, h1, h2⟩
  obtain ⟨e1, e2⟩ := h1.out
  obtain rfl := of_ab (e1.trans h.2.1)
  obtain rfl := of_ab (e2.trans h.2.2)
  exact ⟨by rw [h.1], (Up.alloc2 _ _ _).trans h2.out⟩
theorem turns_lit (w : World) (c d : List Nat) (z : Nat) (n m : Nat) (E : Int) (L : List Nat) (hc : (c.all fun x => decide (x < 2 ^ 64)) = true) (hd : (d.all fun x => decide (x < 2 ^ 64)) = true) (hn : c.length = n) (hm : d.length = m) (h : turE c.toArray d.toArray (ab z) = E ∧ turD c.toArray d.toArray (ab z) = L) (k : Nat) (hk : L.length = k) :
    Calls Try.prog 18 #[.slice (some ⟨w.heap.size, 0, none⟩) n n, .slice (some ⟨w.heap.size + 1, 0, none⟩) m m, .float .f64 z] ((w.alloc (.cells (c.map fe).toArray 24)).alloc (.cells (d.map fe).toArray 24)) fun e w' => ∃ p c, e = .returned (.tuple #[.slice p k c, .int .i64 E]) ∧ Hid (IV w' p k L) ∧ Hid (Up w w') := by
  obtain ⟨s1, s2⟩ := sv_two w c d hc hd n m hn hm
  refine (t18 z s1 s2).mono ?_
  rintro e w' ⟨p, c', rfl, h1, h2⟩
  rw [h.2, hk] at h1 ⊢
  exact ⟨p, c', by rw [h.1], OR.iv h1.out, (Up.alloc2 _ _ _).trans h2.out⟩
theorem eg20 (args : Array Value) (w : World) : (callFunc 20 args).run Try.prog w = .ok (.enter 20 args) w := enters Try.func20 (by kernel_rfl) (by kernel_rfl) _ _
theorem c15w (w : World) : Calls Try.prog 15 #[.slice (some ⟨w.heap.size, 0, none⟩) 3 3, .slice (some ⟨w.heap.size + 1, 0, none⟩) 3 3] ((w.alloc (.cells #[.float .f64 0, .float .f64 4607182418800017408, .float .f64 4611686018427387904] 24)).alloc (.cells #[.float .f64 4607182418800017408, .float .f64 4613937818241073152, .float .f64 4617315517961601024] 24)) fun e w' => e = .returned (.tuple #[.float .f64 4607182418800017408, .float .f64 4611686018427387904, .int .i64 0]) ∧ Hid (Up w w') :=
  line_lit w [0, 4607182418800017408, 4611686018427387904] [4607182418800017408, 4613937818241073152, 4617315517961601024] 3 3 0 4607182418800017408 4611686018427387904 (by decide +kernel) (by decide +kernel) rfl rfl (by decide +kernel)
theorem c18w (w : World) : Calls Try.prog 18 #[.slice (some ⟨w.heap.size, 0, none⟩) 4 4, .slice (some ⟨w.heap.size + 1, 0, none⟩) 4 4, .float .f64 4602678819172646912] ((w.alloc (.cells #[.float .f64 0, .float .f64 4607182418800017408, .float .f64 4611686018427387904, .float .f64 4613937818241073152] 24)).alloc (.cells #[.float .f64 0, .float .f64 4607182418800017408, .float .f64 4611686018427387904, .float .f64 0] 24)) fun e w' => ∃ p c, e = .returned (.tuple #[.slice p 1 c, .int .i64 0]) ∧ Hid (IV w' p 1 [2]) ∧ Hid (Up w w') :=
  turns_lit w [0, 4607182418800017408, 4611686018427387904, 4613937818241073152] [0, 4607182418800017408, 4611686018427387904, 0] 4602678819172646912 4 4 0 [2] (by decide +kernel) (by decide +kernel) rfl rfl (by decide +kernel) 1 rfl
/-- A state that is written out. -/
theorem ss_new (w : World) (x v a b c : Nat) : SS (w.alloc (.cells #[.float .f64 x, .float .f64 v, .float .f64 a, .float .f64 b, .float .f64 c] 27)) (some ⟨w.heap.size, 0, none⟩) 1 1 (fun _ => ⟨x, v, a, b, c⟩) := by
  refine ⟨Nat.le_refl _, by omega, fun _ => ⟨w.heap.size, 0, rfl, fun i hi => ?_⟩⟩
  obtain rfl : i = 0 := by omega
  obtain ⟨c0, c1, c2, c3, c4⟩ := BC.new w x v a b c
  exact ⟨c0, c1, c2, c3, c4⟩
theorem c11w (w : World) : Calls Try.prog 11 #[.slice (some ⟨w.heap.size + 1, 0, none⟩) 1 1, .slice none 0 0, .float .f64 4607182418800017408] ((w.alloc (.cells #[.float .f64 4607182418800017408, .float .f64 0, .float .f64 4611686018427387904, .float .f64 0, .float .f64 4613937818241073152] 27)).alloc (.cells #[.float .f64 4607182418800017408, .float .f64 0, .float .f64 4611686018427387904, .float .f64 0, .float .f64 4613937818241073152] 27)) fun e w' => ∃ g c, e = .returned (.tuple #[.slice (some ⟨g, 0, none⟩) 1 c, .int .i64 0]) ∧ Hid (BC w' g 4607182418800017408 0 4611686018427387904 0 4613937818241073152) ∧ Hid (Up (w.alloc (.cells #[.float .f64 4607182418800017408, .float .f64 0, .float .f64 4611686018427387904, .float .f64 0, .float .f64 4613937818241073152] 27)) w') := by
  have hE : bakE 1 (fun _ => ⟨4607182418800017408, 0, 4611686018427387904, 0, 4613937818241073152⟩) #[] (ab 4607182418800017408) = 0 := by decide +kernel
  have s0 := ss_new (w.alloc (.cells #[.float .f64 4607182418800017408, .float .f64 0, .float .f64 4611686018427387904, .float .f64 0, .float .f64 4613937818241073152] 27)) 4607182418800017408 0 4611686018427387904 0 4613937818241073152
  rw [show (w.alloc (.cells #[.float .f64 4607182418800017408, .float .f64 0, .float .f64 4611686018427387904, .float .f64 0, .float .f64 4613937818241073152] 27)).heap.size = w.heap.size + 1 by simp] at s0
  refine (t11 4607182418800017408 s0 (sv_nil _)).mono ?_
  rintro e w' ⟨p, c, D, rfl, h1, h2, h3, h4⟩
  have hl := h1.out
  rw [hE, if_pos rfl] at hl
  rw [hl] at h2 ⊢
  obtain ⟨g, rfl, _, _, c0, c1, c2, c3, c4⟩ := h2.out.at (i := 0) (by omega)
  have e5 := h3.out 0 (by omega)
  generalize D.getD 0 Stt.zero = s at *
  obtain ⟨x, v, a, b, c'⟩ := s
  have e6 : S5.mk (ab x) (ab v) (ab a) (ab b) (ab c') = S5.mk (some 4607182418800017408) (some 0) (some 4611686018427387904) (some 0) (some 4613937818241073152) := e5.trans (show Stt.ab _ = _ by unfold Stt.ab; rw [show ab 4607182418800017408 = some 4607182418800017408 by decide +kernel, show ab 0 = some 0 by decide +kernel, show ab 4611686018427387904 = some 4611686018427387904 by decide +kernel, show ab 4613937818241073152 = some 4613937818241073152 by decide +kernel])
  simp only [S5.mk.injEq] at e6
  obtain ⟨k1, k2, k3, k4, k5⟩ := e6
  obtain rfl := of_ab k1
  obtain rfl := of_ab k2
  obtain rfl := of_ab k3
  obtain rfl := of_ab k4
  obtain rfl := of_ab k5
  exact ⟨g, c, by rw [hE], ⟨c0, c1, c2, c3, c4⟩, (Up.alloc _ _).trans h4.out⟩
/-- What makes memory, its guard being met. -/
theorem wpOp_oneG {P : Program} {ops : Array Oper} {Q : Exit → Act → World → Prop} {K : Act → World → Prop} {a : Act} {w w' : World} {m : Nat} {o : Oper} {v : Value} (d : Option Tmp) (ho : ops[m]? = some o) (hd : o.dst = d) (hw : Region.wanted o (yielded ops a.tmps) = true) (hr : (execOp a.eval o).run P w = .ok (.value v) w') (h : K (a.put d v) w') : wpOp P ops Q m K a w := by
  subst hd
  unfold wpOp
  simp only [ho, hw, if_true]
  left
  unfold Oper.wp
  rw [hr]
  exact h
theorem iv_two (w : World) : IV (w.alloc (.cells #[.int .i64 2] 3)) (some ⟨w.heap.size, 0, none⟩) 1 [2] := ⟨rfl, fun _ => ⟨w.heap.size, 0, rfl, fun i hi => by obtain rfl : i = 0 := (by omega); exact World.cell?_alloc_at _ _ _ _ rfl⟩⟩
theorem q1 : eqF (ab 4607182418800017408) (ab 4607182418800017408) = true := by decide +kernel
theorem q2 : eqF (ab 4611686018427387904) (ab 4611686018427387904) = true := by decide +kernel
theorem q0 : eqF (ab 0) (ab 0) = true := by decide +kernel
theorem q3 : eqF (ab 4613937818241073152) (ab 4613937818241073152) = true := by decide +kernel
theorem eqIn (a b : Nat) (w : World) : (Op.equalIn 9999 24 (.float .f64 a) (.float .f64 b)).run Try.prog w = .ok (eqF (ab a) (ab b)) w := run_equalIn_float 9998 a b w
attribute [local go_sem] guard27 eqIn q0 q1 q2 q3
set_option maxHeartbeats 4000000 in
set_option maxRecDepth 20000 in
theorem t9 (w : World) : Calls Try.prog 9 #[] w (TU w) := by
  go_enter Try.func9, Try.ntmps9
  go_upto_region 5 with (first
    | (go_at_call 15; (with_reducible refine (c15w _).mono ?_); rintro e w1 ⟨rfl, U1⟩)
    | (go_at_call 18; (with_reducible refine (c18w _).mono ?_); rintro e w2 ⟨p2, q2, rfl, I2, U2⟩)
    | (go_at_call 11; (with_reducible refine (c11w _).mono ?_); rintro e w4 ⟨g4, q4, rfl, B4, U4⟩))
  have U6 : Hid (Up w w4) := U1.out.trans (U2.out.trans ((Up.alloc _ _).trans U4.out))
  have B6 := (BC.new w2 4607182418800017408 0 4611686018427387904 0 4613937818241073152).up U4.out
  have I6 : Hid (IV w4 p2 1 [2]) := I2.out.up ((Up.alloc _ _).trans U4.out)
  clear U1 U2 U4 I2
  generalize w2.heap.size + 1 = g7 at *
  generalize w2.heap.size = g6 at *
  refine wp_region_shut 35 [(0, none), (1, none), (2, none), (3, none), (4, none), (5, none), (6, none), (7, none), (8, none), (9, none), (10, none), (11, none), (12, some true), (13, some true), (14, none), (15, none), (16, none), (17, none), (18, none), (19, none), (20, none), (21, none), (22, none), (23, none), (24, none), (25, none), (26, none), (27, some false), (28, some false), (29, none), (30, none), (31, none), (32, none), (33, none), (34, none)] (fun w9 => Up w4 w9) (by kernel_rfl) (by decide) rfl (by kernel_rfl) (fun _ _ d _ _ h => by cases d <;> exact h) (Up.drew w4) ?_
  refine OrdS.looks (.float .f64 4607182418800017408) (some 29) _ rfl rfl (Or.inl ⟨by kernel_rfl, fun w' hS => ?_⟩) ?_
  · go_simp
  refine OrdS.looks (.bool true) (some 30) _ rfl rfl (Or.inl ⟨by kernel_rfl, fun w' hS => ?_⟩) ?_
  · go_simp
  refine OrdS.looks (.bool true) (some 31) _ rfl rfl (Or.inl ⟨by kernel_rfl, fun w' hS => ?_⟩) ?_
  · go_simp
  refine OrdS.looks (.float .f64 4611686018427387904) (some 32) _ rfl rfl (Or.inl ⟨by kernel_rfl, fun w' hS => ?_⟩) ?_
  · go_simp
  refine OrdS.looks (.bool true) (some 33) _ rfl rfl (Or.inl ⟨by kernel_rfl, fun w' hS => ?_⟩) ?_
  · go_simp
  refine OrdS.looks (.bool true) (some 34) _ rfl rfl (Or.inl ⟨by kernel_rfl, fun w' hS => ?_⟩) ?_
  · go_simp
  refine OrdS.looks (.bool true) (some 35) _ rfl rfl (Or.inl ⟨by kernel_rfl, fun w' hS => ?_⟩) ?_
  · go_simp
  refine OrdS.looks (.int .i64 0) (some 36) _ rfl rfl (Or.inl ⟨by kernel_rfl, fun w' hS => ?_⟩) ?_
  · go_simp
  refine OrdS.looks (.bool true) (some 37) _ rfl rfl (Or.inl ⟨by kernel_rfl, fun w' hS => ?_⟩) ?_
  · go_simp
  refine OrdS.looks (.bool true) (some 38) _ rfl rfl (Or.inl ⟨by kernel_rfl, fun w' hS => ?_⟩) ?_
  · go_simp
  refine OrdS.looks (.bool true) (some 39) _ rfl rfl (Or.inl ⟨by kernel_rfl, fun w' hS => ?_⟩) ?_
  · go_simp
  refine OrdS.looks (.slice p2 1 q2) (some 40) _ rfl rfl (Or.inl ⟨by kernel_rfl, fun w' hS => ?_⟩) ?_
  · go_simp
  simp only [Act.put, List.setIfInBounds_toArray, List.set_cons_succ, List.set_cons_zero]
  refine OrdS.does ?_
  refine wpOp_oneG (some 41) rfl rfl (by kernel_rfl) (v := .slice (some ⟨w4.heap.size, 0, none⟩) 1 1) (w' := w4.drew.alloc (.cells #[.int .i64 2] 3)) (by go_simp) ?_
  refine ⟨(Up.drew w4).al _, ?_⟩
  simp only [Act.put, List.setIfInBounds_toArray, List.set_cons_succ, List.set_cons_zero]
  refine OrdS.does ?_
  refine wpOp_callG (f := 20) (some 42) rfl rfl (by kernel_rfl) rfl #[.slice p2 1 q2, .slice (some ⟨w4.heap.size, 0, none⟩) 1 1] (by kernel_rfl) (eg20 _ _) ?_
  refine (t20 (I6.out.up ((Up.drew w4).al _)) (iv_two w4.drew) (by omega)).mono ?_
  rintro e w5 ⟨rfl, m5, hw5⟩
  have U5 : Hid (Up w4 w5) := by rw [hw5]; exact ((Up.drew w4).al _).dr _
  clear hw5
  refine ⟨_, rfl, U5.out, ?_⟩
  refine OrdS.looks (.bool true) (some 43) _ rfl rfl (Or.inl ⟨by kernel_rfl, fun w' hS => ?_⟩) ?_
  · go_simp
  refine OrdS.looks (.bool true) (some 44) _ rfl rfl (Or.inl ⟨by kernel_rfl, fun w' hS => ?_⟩) ?_
  · go_simp
  refine OrdS.looks (.int .i64 0) (some 45) _ rfl rfl (Or.inl ⟨by kernel_rfl, fun w' hS => ?_⟩) ?_
  · go_simp
  refine OrdS.looks (.bool true) (some 46) _ rfl rfl (Or.inl ⟨by kernel_rfl, fun w' hS => ?_⟩) ?_
  · go_simp
  refine OrdS.looks (.bool true) (some 47) _ rfl rfl (Or.inl ⟨by kernel_rfl, fun w' hS => ?_⟩) ?_
  · go_simp
  refine OrdS.looks (.bool true) (some 48) _ rfl rfl (Or.inl ⟨by kernel_rfl, fun w' hS => ?_⟩) ?_
  · go_simp
  refine OrdS.looks (.slice (some ⟨g4, 0, none⟩) 1 q4) (some 49) _ rfl rfl (Or.inl ⟨by kernel_rfl, fun w' hS => ?_⟩) ?_
  · go_simp
  refine OrdS.looks (.int .i64 1) (some 50) _ rfl rfl (Or.inl ⟨by kernel_rfl, fun w' hS => ?_⟩) ?_
  · go_simp
  refine OrdS.looks (.bool true) (some 51) _ rfl rfl (Or.inl ⟨by kernel_rfl, fun w' hS => ?_⟩) ?_
  · go_simp
  refine OrdS.looks (.bool true) (some 52) _ rfl rfl (Or.inl ⟨by kernel_rfl, fun w' hS => ?_⟩) ?_
  · go_simp
  refine OrdS.looks (.bool true) (some 53) _ rfl rfl (Or.inl ⟨by kernel_rfl, fun w' hS => ?_⟩) ?_
  · go_simp
  refine OrdS.looks (.slice (some ⟨g4, 0, none⟩) 1 q4) (some 54) _ rfl rfl (Or.inl ⟨by kernel_rfl, fun w' hS => ?_⟩) ?_
  · go_simp
  refine OrdS.looks (.pointer (some ⟨g4, 0, none⟩)) (some 55) _ rfl rfl (Or.inl ⟨by kernel_rfl, fun w' hS => ?_⟩) ?_
  · go_simp
  refine OrdS.reads (.agg #[.float .f64 4607182418800017408, .float .f64 0, .float .f64 4611686018427387904, .float .f64 0, .float .f64 4613937818241073152]) (some 56) _ rfl rfl (Or.inl ⟨by kernel_rfl, fun w' hS => ?_⟩) ?_
  · obtain ⟨l0, l1, l2, l3, l4⟩ := BC.up B4.out hS
    go_simp
  refine OrdS.reads (.agg #[.float .f64 4607182418800017408, .float .f64 0, .float .f64 4611686018427387904, .float .f64 0, .float .f64 4613937818241073152]) (some 57) _ rfl rfl (Or.inl ⟨by kernel_rfl, fun w' hS => ?_⟩) ?_
  · obtain ⟨l0, l1, l2, l3, l4⟩ := BC.up B6 hS
    go_simp
  refine OrdS.looks (.bool true) (some 58) _ rfl rfl (Or.inl ⟨by kernel_rfl, fun w' hS => ?_⟩) ?_
  · go_simp
  refine OrdS.looks (.bool true) (some 59) _ rfl rfl (Or.inl ⟨by kernel_rfl, fun w' hS => ?_⟩) ?_
  · go_simp
  refine OrdS.looks (.bool true) (some 60) _ rfl rfl (Or.inl ⟨by kernel_rfl, fun w' hS => ?_⟩) ?_
  · go_simp
  refine OrdS.looks (.int .i64 0) (some 61) _ rfl rfl (Or.inl ⟨by kernel_rfl, fun w' hS => ?_⟩) ?_
  · go_simp
  refine OrdS.looks (.bool true) (some 62) _ rfl rfl (Or.inl ⟨by kernel_rfl, fun w' hS => ?_⟩) ?_
  · go_simp
  refine OrdS.looks (.bool true) (some 63) _ rfl rfl (Or.inl ⟨by kernel_rfl, fun w' hS => ?_⟩) ?_
  · go_simp
  refine OrdS.ends ?_
  simp only [List.drop_succ_cons, List.drop_zero]
  go_wp2
  go_ret
  exact ⟨rfl, U6.out.trans U5.out⟩
end Go.Proofs.Ytcgbmcnefolgcaa
