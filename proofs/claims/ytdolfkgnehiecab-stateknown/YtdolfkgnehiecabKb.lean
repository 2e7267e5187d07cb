/- The law StateKnown. -/
import Derived.Test.YtdolfkgnehiecabKa
import Derived.Deep.DeepCutAuto
namespace Go.Proofs.Ytdolfkgnehiecab
open Go.ChangeShapes Go.WideShapes Go.ChangeAt Go.RowKit Go.Fl Ieee
attribute [local go_sem] run_store_float call20 call12 run_neg fold_eq fold_ne fold_lt fold_gt abs_eq

theorem eg7 (args : Array Value) (w : World) : (callFunc 7 args).run Try.prog w = .ok (.enter 7 args) w := enters Try.func7 (by kernel_rfl) (by kernel_rfl) _ _
theorem eg8 (args : Array Value) (w : World) : (callFunc 8 args).run Try.prog w = .ok (.enter 8 args) w := enters Try.func8 (by kernel_rfl) (by kernel_rfl) _ _
theorem eg9 (args : Array Value) (w : World) : (callFunc 9 args).run Try.prog w = .ok (.enter 9 args) w := enters Try.func9 (by kernel_rfl) (by kernel_rfl) _ _
theorem row_up {W W' : World} {g : Nat} {o : Obj} (h : W.heap[g]? = some o) (u : Up W W') : W'.heap[g]? = some o := (RowKit.Below.block u g (Array.getElem?_eq_some_iff.1 h).1).trans h
theorem bc_row {W : World} {g x v a b c : Nat} (h : W.heap[g]? = some (.cells #[.float .f64 x, .float .f64 v, .float .f64 a, .float .f64 b, .float .f64 c] 24)) : BC W g x v a b c := by
  constructor <;> (unfold World.cell?; simp only [h]; rfl)
theorem LoosO.eqS {ops : Array Oper} {C : World → Prop} {o : Oper} {a : Act} {x y : Operand} {xs ys : Array Value} {t2 : TypeId} (hw : Region.wanted o (yielded ops a.tmps) = true) (hop : o.op = .binOp .eql 24 x y t2) (hx : a.eval x = .agg xs) (hy : a.eval y = .agg ys) (h : ∀ w : World, (binOp .eql 24 (.agg xs) (.agg ys)).run Try.prog w = .ok (.bool true) w) : LoosO Try.prog ops C (Sp.val (.bool true)).T o a := by
  refine LoosO.isW hw fun w _ => ?_
  simp [execOp, hop, hx, hy, run_eqGuard_agg w .eql 24 x y xs ys guard24, h]
/-- What is no number is not equal to anything. -/
theorem LoosO.neN {ops : Array Oper} {C : World → Prop} {o : Oper} {a : Act} {x y : Operand} {p q : Nat} {t2 : TypeId} (hw : Region.wanted o (yielded ops a.tmps) = true) (hop : o.op = .binOp .neq 22 x y t2) (hx : a.eval x = .float .f64 p) (hy : a.eval y = .float .f64 q) (hp : ab p = none) : LoosO Try.prog ops C (Sp.val (.bool true)).T o a := by
  refine LoosO.isW hw fun w _ => ?_
  have e : (binOp .neq 22 (.float .f64 p) (.float .f64 q)).run Try.prog w = .ok (.bool (!eqF (ab p) (ab q))) w := by
    rw [← fold_ne]
    rfl
  rw [hp] at e
  simp [execOp, hop, hx, hy, eqGuard, e, eqF, ord]
theorem qS (w : World) : (binOp .eql 24 (.agg #[.float .f64 4621819117588971520, .float .f64 0, .float .f64 4616189618054758400, .float .f64 0, .float .f64 4607182418800017408]) (.agg #[.float .f64 4621819117588971520, .float .f64 0, .float .f64 4616189618054758400, .float .f64 0, .float .f64 4607182418800017408])).run Try.prog w = .ok (.bool true) w := by
  rw [eql24]
  congr 2
theorem qZ (w : World) : (binOp .eql 24 (.agg #[.float .f64 0, .float .f64 0, .float .f64 0, .float .f64 0, .float .f64 0]) (.agg #[.float .f64 0, .float .f64 0, .float .f64 0, .float .f64 0, .float .f64 0])).run Try.prog w = .ok (.bool true) w := by
  rw [eql24]
  congr 2
theorem r0 : eqF (ab 4621819117588971520) (ab 4621819117588971520) = true := by decide +kernel
theorem r1 : eqF (ab 0) (ab 0) = true := by decide +kernel
theorem r2 : eqF (ab 4616189618054758400) (ab 4616189618054758400) = true := by decide +kernel
theorem r3 : eqF (ab 4607182418800017408) (ab 4607182418800017408) = true := by decide +kernel
theorem r4 : eqF (ab 13830554455654793216) (ab 13830554455654793216) = true := by decide +kernel
theorem r5 : eqF (ab 4609434218613702656) (ab 4609434218613702656) = true := by decide +kernel
theorem r6 : eqF (ab 4613937818241073152) (ab 4613937818241073152) = true := by decide +kernel
theorem r7 : eqF (ab 4602678819172646912) (ab 4602678819172646912) = true := by decide +kernel
theorem r8 : eqF (ab 4343721840598843392) (ab 4343721840598843392) = true := by decide +kernel
theorem r9 : eqF (ab 4336966441157787648) (ab 4336966441157787648) = true := by decide +kernel
theorem r10 : eqF (ab 4618441417868443648) (ab 4618441417868443648) = true := by decide +kernel
theorem r11 : eqF (ab 4625196817309499392) (ab 4625196817309499392) = true := by decide +kernel
theorem r12 : eqF (ab 4622945017495814144) (ab 4622945017495814144) = true := by decide +kernel
theorem r13 : eqF (ab 9218868437227405312) (ab 9218868437227405312) = true := by decide +kernel
attribute [local go_sem] guard24 eqIn r0 r1 r2 r3 r4 r5 r6 r7 r8 r9 r10 r11 r12 r13
set_option maxHeartbeats 4000000 in
set_option maxRecDepth 100000 in
theorem t3 (w : World) : Calls Try.prog 3 #[] w (TU w) := by
  have G := guard24
  go_enter Try.func3, Try.ntmps3
  go_upto_region 4 with (first
    | (go_at_call 4; (with_reducible refine (t4 _ _ _ _).mono ?_); rintro e w1 ⟨rfl, u1⟩)
    | (go_at_call 5; (with_reducible refine (t5 _).mono ?_); rintro e w' ⟨rfl, hw⟩; subst w')
    | (go_at_call 6; (with_reducible refine (t6 _).mono ?_); rintro e w' ⟨rfl, hw⟩; subst w'))
  have HR : Hid ((w1.alloc (.cells #[.float .f64 4621819117588971520, .float .f64 0, .float .f64 4616189618054758400, .float .f64 0, .float .f64 4607182418800017408] 24)).heap[w1.heap.size]? = some (.cells #[.float .f64 4621819117588971520, .float .f64 0, .float .f64 4616189618054758400, .float .f64 0, .float .f64 4607182418800017408] 24)) := heap_alloc_last _ _
  have HU : Hid (Up w (w1.alloc (.cells #[.float .f64 4621819117588971520, .float .f64 0, .float .f64 4616189618054758400, .float .f64 0, .float .f64 4607182418800017408] 24))) := u1.out.al _
  clear u1
  generalize w1.alloc (.cells #[.float .f64 4621819117588971520, .float .f64 0, .float .f64 4616189618054758400, .float .f64 0, .float .f64 4607182418800017408] 24) = W at *
  generalize w1.heap.size = g at *
  refine wp_region_sp 32 [.val (.agg #[.float .f64 0, .float .f64 0, .float .f64 0, .float .f64 0, .float .f64 0]), .val (.float .f64 9218868437227405312), .val (.float .f64 9218868437227405312), .val (.bool true), .val (.bool true), .val (.agg #[.float .f64 4621819117588971520, .float .f64 0, .float .f64 4616189618054758400, .float .f64 0, .float .f64 4607182418800017408]), .val (.float .f64 9221120237041090561), .fl none, .val (.agg #[.float .f64 4621819117588971520, .float .f64 0, .float .f64 4616189618054758400, .float .f64 0, .float .f64 4607182418800017408]), .val (.float .f64 9221120237041090561), .fl none, .val (.bool true), .val (.bool true), .val (.bool true), .val (.agg #[.float .f64 4621819117588971520, .float .f64 0, .float .f64 4616189618054758400, .float .f64 0, .float .f64 4607182418800017408]), .val (.agg #[.float .f64 4621819117588971520, .float .f64 0, .float .f64 4616189618054758400, .float .f64 0, .float .f64 4607182418800017408]), .val (.agg #[.float .f64 4621819117588971520, .float .f64 0, .float .f64 4616189618054758400, .float .f64 0, .float .f64 4607182418800017408]), .val (.bool true), .val (.bool true), .val (.bool true), .val (.agg #[.float .f64 4621819117588971520, .float .f64 0, .float .f64 4616189618054758400, .float .f64 0, .float .f64 4607182418800017408]), .val (.float .f64 9221120237041090561), .val (.agg #[.float .f64 4621819117588971520, .float .f64 0, .float .f64 4616189618054758400, .float .f64 0, .float .f64 4607182418800017408]), .val (.agg #[.float .f64 4621819117588971520, .float .f64 0, .float .f64 4616189618054758400, .float .f64 0, .float .f64 4607182418800017408]), .val (.bool true), .val (.bool true), .val (.bool true), .val (.agg #[.float .f64 0, .float .f64 0, .float .f64 0, .float .f64 0, .float .f64 0]), .val (.agg #[.float .f64 0, .float .f64 0, .float .f64 0, .float .f64 0, .float .f64 0]), .val (.agg #[.float .f64 0, .float .f64 0, .float .f64 0, .float .f64 0, .float .f64 0]), .val (.bool true), .val (.bool true)] (UpC _) (by kernel_rfl) (by decide) rfl (by kernel_rfl) ⟨(fun x h => by cases h), (fun x h => by cases h), trivial⟩ (UpC.start _) ?_
  intro rs hF
  obtain ⟨h7, h10, _⟩ := hF
  simp only [List.take_succ_cons, List.take_zero, valsL, FillL, Act.put, List.setIfInBounds_toArray, List.set_cons_succ, List.set_cons_zero, Nat.zero_add, Nat.reduceAdd]
  refine ⟨⟨LoosO.isW (by kernel_rfl) (fun w hw => by go_simp),
    LoosO.callV (by kernel_rfl) rfl #[.agg #[.float .f64 0, .float .f64 0, .float .f64 0, .float .f64 0, .float .f64 0], .float .f64 4607182418800017408, .float .f64 0] (by kernel_rfl) (eg7 _) (fun w hw => (f7 w).mono fun _ _ k => ⟨k.1, UpC.then hw k.2.out⟩),
    LoosO.isW (by kernel_rfl) (fun w hw => by go_simp),
    LoosO.isW (by kernel_rfl) (fun w hw => by go_simp),
    LoosO.isW (by kernel_rfl) (fun w hw => by go_simp),
    LoosO.row (by kernel_rfl) rfl rfl rfl (fun w hw => row_up HR.out ((Up.drew _).trans hw)),
    LoosO.isW (by kernel_rfl) (fun w hw => by go_simp),
    LoosO.callF (by kernel_rfl) rfl #[.agg #[.float .f64 4621819117588971520, .float .f64 0, .float .f64 4616189618054758400, .float .f64 0, .float .f64 4607182418800017408], .float .f64 9221120237041090561, .float .f64 4607182418800017408] (by kernel_rfl) (eg7 _) (fun w hw => (f7n w).mono fun _ _ ⟨r, k1, k2, k3⟩ => ⟨r, k1, k2, UpC.then hw k3.out⟩),
    LoosO.row (by kernel_rfl) rfl rfl rfl (fun w hw => row_up HR.out ((Up.drew _).trans hw)),
    LoosO.isW (by kernel_rfl) (fun w hw => by go_simp),
    LoosO.callF (by kernel_rfl) rfl #[.agg #[.float .f64 4621819117588971520, .float .f64 0, .float .f64 4616189618054758400, .float .f64 0, .float .f64 4607182418800017408], .float .f64 9221120237041090561, .float .f64 4607182418800017408] (by kernel_rfl) (eg7 _) (fun w hw => (f7n w).mono fun _ _ ⟨r, k1, k2, k3⟩ => ⟨r, k1, k2, UpC.then hw k3.out⟩),
    LoosO.neN (by kernel_rfl) rfl rfl rfl h7.out,
    LoosO.isW (by kernel_rfl) (fun w hw => by go_simp),
    LoosO.isW (by kernel_rfl) (fun w hw => by go_simp),
    LoosO.row (by kernel_rfl) rfl rfl rfl (fun w hw => row_up HR.out ((Up.drew _).trans hw)),
    LoosO.callV (by kernel_rfl) rfl #[.agg #[.float .f64 4621819117588971520, .float .f64 0, .float .f64 4616189618054758400, .float .f64 0, .float .f64 4607182418800017408], .float .f64 0, .float .f64 4621256167635550208] (by kernel_rfl) (eg8 _) (fun w hw => (a1 w).mono fun _ _ k => ⟨k.1, UpC.then hw k.2.out⟩),
    LoosO.row (by kernel_rfl) rfl rfl rfl (fun w hw => row_up HR.out ((Up.drew _).trans hw)),
    LoosO.eqS (by kernel_rfl) rfl rfl rfl (fun w => qS w),
    LoosO.isW (by kernel_rfl) (fun w hw => by go_simp),
    LoosO.isW (by kernel_rfl) (fun w hw => by go_simp),
    LoosO.row (by kernel_rfl) rfl rfl rfl (fun w hw => row_up HR.out ((Up.drew _).trans hw)),
    LoosO.isW (by kernel_rfl) (fun w hw => by go_simp),
    LoosO.callV (by kernel_rfl) rfl #[.agg #[.float .f64 4621819117588971520, .float .f64 0, .float .f64 4616189618054758400, .float .f64 0, .float .f64 4607182418800017408], .float .f64 9221120237041090561, .float .f64 4621256167635550208] (by kernel_rfl) (eg8 _) (fun w hw => (a2 w).mono fun _ _ k => ⟨k.1, UpC.then hw k.2.out⟩),
    LoosO.row (by kernel_rfl) rfl rfl rfl (fun w hw => row_up HR.out ((Up.drew _).trans hw)),
    LoosO.eqS (by kernel_rfl) rfl rfl rfl (fun w => qS w),
    LoosO.isW (by kernel_rfl) (fun w hw => by go_simp),
    LoosO.isW (by kernel_rfl) (fun w hw => by go_simp),
    LoosO.isW (by kernel_rfl) (fun w hw => by go_simp),
    LoosO.callV (by kernel_rfl) rfl #[.agg #[.float .f64 0, .float .f64 0, .float .f64 0, .float .f64 0, .float .f64 0], .float .f64 4617315517961601024, .float .f64 0] (by kernel_rfl) (eg9 _) (fun w hw => (s1 w).mono fun _ _ k => ⟨k.1, UpC.then hw k.2.out⟩),
    LoosO.isW (by kernel_rfl) (fun w hw => by go_simp),
    LoosO.eqS (by kernel_rfl) rfl rfl rfl (fun w => qZ w),
    LoosO.isW (by kernel_rfl) (fun w hw => by go_simp), trivial⟩, ?_⟩
  intro w9 hw9
  simp only [List.drop_succ_cons, List.drop_zero]
  have HU9 : Hid (Up w w9) := (HU.out.trans (Up.drew _)).trans hw9
  clear hw9 HR HU h7 h10
  go_upto_region 10 with (first
    | (go_at_call 10; (with_reducible refine (m1 _).mono ?_); rintro e v1 ⟨rfl, i1⟩; replace HU9 : Hid (Up w v1) := HU9.out.trans i1.out; clear i1)
    | (go_at_call 10; (with_reducible refine (m2 _).mono ?_); rintro e v2 ⟨rfl, i1⟩; replace HU9 : Hid (Up w v2) := HU9.out.trans i1.out; clear i1)
    | (go_at_call 10; (with_reducible refine (m3 _).mono ?_); rintro e v3 ⟨rfl, i1⟩; replace HU9 : Hid (Up w v3) := HU9.out.trans i1.out; clear i1)
    | (go_at_call 10; (with_reducible refine (m4 _).mono ?_); rintro e v4 ⟨rfl, i1⟩; replace HU9 : Hid (Up w v4) := HU9.out.trans i1.out; clear i1)
    | (go_at_call 10; (with_reducible refine (m5 _).mono ?_); rintro e v5 ⟨rfl, i1⟩; replace HU9 : Hid (Up w v5) := HU9.out.trans i1.out; clear i1)
    | (go_at_call 8; (with_reducible refine (a3 _).mono ?_); rintro e wA ⟨rfl, uA⟩)
    | (go_at_call 8; (with_reducible refine (a4 _).mono ?_); rintro e wB ⟨rfl, uB⟩)
    | (go_at_call 9; (with_reducible refine (s2 _).mono ?_); rintro e wC ⟨rfl, uC⟩)
    | (go_at_call 9; (with_reducible refine (s3 _).mono ?_); rintro e wD ⟨rfl, uD⟩))
  have RA : Hid ((wD.alloc (.cells #[.float .f64 4343721840598843392, .float .f64 0, .float .f64 4336966441157787648, .float .f64 0, .float .f64 0] 24)).heap[wA.heap.size]? = some (.cells #[.float .f64 0, .float .f64 0, .float .f64 0, .float .f64 0, .float .f64 4607182418800017408] 24)) := row_up (row_up (row_up (heap_alloc_last wA _) (uB.out.al (.cells #[.float .f64 0, .float .f64 0, .float .f64 0, .float .f64 13830554455654793216, .float .f64 4607182418800017408] 24))) (uC.out.al (.cells #[.float .f64 4609434218613702656, .float .f64 4613937818241073152, .float .f64 4602678819172646912, .float .f64 4607182418800017408, .float .f64 0] 24))) (uD.out.al _)
  have RB : Hid ((wD.alloc (.cells #[.float .f64 4343721840598843392, .float .f64 0, .float .f64 4336966441157787648, .float .f64 0, .float .f64 0] 24)).heap[wB.heap.size]? = some (.cells #[.float .f64 0, .float .f64 0, .float .f64 0, .float .f64 13830554455654793216, .float .f64 4607182418800017408] 24)) := row_up (row_up (heap_alloc_last wB _) (uC.out.al (.cells #[.float .f64 4609434218613702656, .float .f64 4613937818241073152, .float .f64 4602678819172646912, .float .f64 4607182418800017408, .float .f64 0] 24))) (uD.out.al _)
  have RC : Hid ((wD.alloc (.cells #[.float .f64 4343721840598843392, .float .f64 0, .float .f64 4336966441157787648, .float .f64 0, .float .f64 0] 24)).heap[wC.heap.size]? = some (.cells #[.float .f64 4609434218613702656, .float .f64 4613937818241073152, .float .f64 4602678819172646912, .float .f64 4607182418800017408, .float .f64 0] 24)) := row_up (heap_alloc_last wC _) (uD.out.al _)
  have RD : Hid ((wD.alloc (.cells #[.float .f64 4343721840598843392, .float .f64 0, .float .f64 4336966441157787648, .float .f64 0, .float .f64 0] 24)).heap[wD.heap.size]? = some (.cells #[.float .f64 4343721840598843392, .float .f64 0, .float .f64 4336966441157787648, .float .f64 0, .float .f64 0] 24)) := heap_alloc_last wD _
  have HU10 : Hid (Up w (wD.alloc (.cells #[.float .f64 4343721840598843392, .float .f64 0, .float .f64 4336966441157787648, .float .f64 0, .float .f64 0] 24))) := ((((((HU9.out.trans uA.out).al _).trans uB.out).al _).trans uC.out).al _ |>.trans uD.out).al _
  clear HU9 uA uB uC uD
  generalize wD.alloc (.cells #[.float .f64 4343721840598843392, .float .f64 0, .float .f64 4336966441157787648, .float .f64 0, .float .f64 0] 24) = W2 at *
  generalize wA.heap.size = gA at *
  generalize wB.heap.size = gB at *
  generalize wC.heap.size = gC at *
  generalize wD.heap.size = gD at *
  obtain ⟨a0, a1, a2, a3', a4'⟩ := bc_row RA.out
  obtain ⟨b0, b1, b2, b3, b4⟩ := bc_row RB.out
  obtain ⟨c0, c1, c2, c3, c4⟩ := bc_row RC.out
  obtain ⟨d0, d1, d2, d3, d4⟩ := bc_row RD.out
  go_wp2_with (first
    | (go_at_call 8; (with_reducible refine (a5 _).mono ?_); rintro e wE ⟨rfl, uE⟩; clear a0 a1 a2 a3' a4' b0 b1 b2 b3 b4 c0 c1 c2 c3 c4 d0 d1 d2 d3 d4; obtain ⟨e0, e1, e2, e3, e4⟩ := BC.new wE 4618441417868443648 4613937818241073152 4625196817309499392 4622945017495814144 4622945017495814144)
    | (go_at_call 11; (with_reducible refine (t11 _).mono ?_); rintro e wF ⟨rfl, uF⟩))
  go_ret
  exact ⟨rfl, ((HU10.out.trans uE.out).al _).trans uF.out⟩
end Go.Proofs.Ytdolfkgnehiecab
