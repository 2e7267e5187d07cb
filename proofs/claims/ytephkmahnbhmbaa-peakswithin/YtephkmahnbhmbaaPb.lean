/- Cells of spots; the bins about one. -/
import Derived.Test.YtephkmahnbhmbaaPa
import Derived.Laws.StructEq
namespace Go.Proofs.Ytephkmahnbhmbaa
open Go.ChangeShapes Go.WideShapes Go.ChangeAt Go.RowKit Go.Fl Go.Sort
attribute [local go_sem] run_store_float call52 run_neg fold_eq fold_ne fold_lt fold_gt abs_eq

/-- What a call leaves that hands back one value and keeps all that was there. -/
def VU (w : World) (v : Value) (e : Ending) (w' : World) : Prop := e = .returned v ∧ Hid (Gr w w')
theorem last_two (w : World) (o o' : Obj) : ((w.alloc o).alloc o').heap[w.heap.size + 1]? = some o' := by
  have := heap_alloc_last (w.alloc o) o'
  simpa using this
theorem two_boxes (w : World) (c d : Array Value) (t t' : TypeId) : ((w.alloc (.cells c t)).alloc (.cells d t')).heap[w.heap.size]? = some (.cells c t (0, 0)) ∧ ((w.alloc (.cells c t)).alloc (.cells d t')).heap[w.heap.size + 1]? = some (.cells d t' (0, 0)) :=
  ⟨by rw [RowKit.Below.block (Up.alloc (w.alloc (.cells c t)) (.cells d t')) _ (by simp)]; exact heap_alloc_last _ _, last_two _ _ _⟩
set_option maxRecDepth 20000 in
theorem t35 (a b : Int) (c : Nat) (w : World) : Calls Try.prog 35 #[.agg #[.int .i64 a, .int .i64 b, .float .f64 c]] w (VU w (.agg #[.int .i64 a, .int .i64 b])) := by
  go_enter Try.func35, Try.ntmps35
  go_wp2
  exact bodyPost_ret (results_cell_row Try.results35 _ _ _ 57 #[.int .i64 a, .int .i64 b] (0, 0) _ rfl (last_two _ _ _) Try.underlying57 rfl (by kernel_rfl)) rfl ⟨rfl, (Gr.alloc _ _).trans (Gr.alloc _ _)⟩
set_option maxRecDepth 20000 in
theorem t62 (a : Int) (w : World) : Calls Try.prog 62 #[.int .i64 a] w (VU w (.agg #[.int .i64 a, .int .i64 9223372036854775807])) := by
  go_enter Try.func62, Try.ntmps62
  go_wp2
  exact bodyPost_ret (results_cell_row Try.results62 _ _ _ 54 #[.int .i64 a, .int .i64 9223372036854775807] (0, 0) _ rfl (heap_alloc_last _ _) Try.underlying54 rfl (by kernel_rfl)) rfl ⟨rfl, Gr.alloc _ _⟩
theorem six_cells (w : World) (a b c d e f : Value) (t t' : TypeId) : let W := (w.alloc (.cells #[a, b, c] t)).alloc (.cells #[d, e, f] t')
    W.cell? ⟨w.heap.size, 0, none⟩ = some a ∧ W.cell? ⟨w.heap.size, 1, none⟩ = some b ∧ W.cell? ⟨w.heap.size, 2, none⟩ = some c ∧ W.cell? ⟨w.heap.size + 1, 0, none⟩ = some d ∧ W.cell? ⟨w.heap.size + 1, 1, none⟩ = some e ∧ W.cell? ⟨w.heap.size + 1, 2, none⟩ = some f := by
  intro W
  obtain ⟨k1, k2⟩ := two_boxes w #[a, b, c] #[d, e, f] t t'
  refine ⟨?_, ?_, ?_, ?_, ?_, ?_⟩ <;> first | (rw [cell_of_row _ _ _ _ _ _ k1]; rfl) | (rw [cell_of_row _ _ _ _ _ _ k2]; rfl)
theorem six_up {w w' : World} {g g' : Nat} {a b c d e f : Value} (h : w.cell? ⟨g, 0, none⟩ = some a ∧ w.cell? ⟨g, 1, none⟩ = some b ∧ w.cell? ⟨g, 2, none⟩ = some c ∧ w.cell? ⟨g', 0, none⟩ = some d ∧ w.cell? ⟨g', 1, none⟩ = some e ∧ w.cell? ⟨g', 2, none⟩ = some f) (hu : Up w w') :
    w'.cell? ⟨g, 0, none⟩ = some a ∧ w'.cell? ⟨g, 1, none⟩ = some b ∧ w'.cell? ⟨g, 2, none⟩ = some c ∧ w'.cell? ⟨g', 0, none⟩ = some d ∧ w'.cell? ⟨g', 1, none⟩ = some e ∧ w'.cell? ⟨g', 2, none⟩ = some f :=
  ⟨cell_up h.1 hu, cell_up h.2.1 hu, cell_up h.2.2.1 hu, cell_up h.2.2.2.1 hu, cell_up h.2.2.2.2.1 hu, cell_up h.2.2.2.2.2 hu⟩
/-- The order of two spots. -/
theorem t58 (a b : Int) (c : Nat) (x y : Int) (z : Nat) (w : World) : Calls Try.prog 58 #[.agg #[.int .i64 a, .int .i64 b, .float .f64 c], .agg #[.int .i64 x, .int .i64 y, .float .f64 z]] w (VU w (.int .i64 (ordC a b x y))) := by
  obtain ⟨k1, k2, k3, k4, k5, k6⟩ := six_cells w (.int .i64 a) (.int .i64 b) (.float .f64 c) (.int .i64 x) (.int .i64 y) (.float .f64 z) 29 29
  have HU : Hid (Gr w ((w.alloc (.cells #[.int .i64 a, .int .i64 b, .float .f64 c] 29)).alloc (.cells #[.int .i64 x, .int .i64 y, .float .f64 z] 29))) := (Gr.alloc _ _).trans (Gr.alloc _ _)
  go_enter Try.func58, Try.ntmps58
  go_wp2
  generalize (w.alloc (.cells #[.int .i64 a, .int .i64 b, .float .f64 c] 29)).alloc (.cells #[.int .i64 x, .int .i64 y, .float .f64 z] 29) = W at *
  generalize w.heap.size = g at *
  go_region_held3 (fun w' => w'.cell? ⟨g, 0, none⟩ = some (.int .i64 a) ∧ w'.cell? ⟨g, 1, none⟩ = some (.int .i64 b) ∧ w'.cell? ⟨g, 2, none⟩ = some (.float .f64 c) ∧ w'.cell? ⟨g + 1, 0, none⟩ = some (.int .i64 x) ∧ w'.cell? ⟨g + 1, 1, none⟩ = some (.int .i64 y) ∧ w'.cell? ⟨g + 1, 2, none⟩ = some (.float .f64 z)) (first | exact ⟨k1, k2, k3, k4, k5, k6⟩ | exact six_up (by assumption) HU1.out.up | exact six_up (by assumption) HU3.out.up | exact six_up (by assumption) HU2.out.up | exact six_up (w := W.drew) ⟨k1, k2, k3, k4, k5, k6⟩ HU1.out.up) (first
    | ((fail_if_success have := HU1); go_at_call 35; (with_reducible refine (t35 _ _ _ _).mono ?_); rintro e w1 ⟨rfl, HU1⟩)
    | (go_at_call 35; (with_reducible refine (t35 _ _ _ _).mono ?_); rintro e w3 ⟨rfl, HU3⟩)
    | (go_at_call 55; (with_reducible refine (t55 _ _ _ _ _).mono ?_); rintro e w2 ⟨rfl, HU2⟩))
  all_goals
    go_wp2
    go_ret
    exact ⟨rfl, (((HU.out.trans (Gr.drewN _ 1)).trans HU1.out).trans HU3.out).trans HU2.out⟩
theorem fields57 : Try.prog.underlying 57 = some (.struct (Try.prog.fieldsOf 57)) := by kernel_rfl
theorem held57 : Try.prog.stoodInHeld 57 = false := by kernel_rfl
theorem guard57 : Try.prog.eqGuardType Try.prog.depth 57 = false := by kernel_rfl
/-- Are two cells the same? -/
def sameC (a b x y : Int) : Bool := decide (a = x) && decide (b = y)
set_option maxRecDepth 20000 in
theorem eq_fields57 (a b x y : Int) (w : World) : (Op.equalIn 10000 57 (.agg #[.int .i64 a, .int .i64 b]) (.agg #[.int .i64 x, .int .i64 y])).run Try.prog w = .ok (sameC a b x y) w := by
  have u3 := Try.underlying3
  have a3 := Try.isAgg3
  have z3 := Try.sizeOf3
  rw [show (10000 : Nat) = 9999 + 1 from rfl, run_equalIn_agg w 9999 57 _ _ fields57 held57]
  simp only [Program.fieldsOf, Try.underlying57]
  go_simp
  by_cases h1 : a = x <;> by_cases h2 : b = y <;> simp [h1, h2, sameC]
theorem eql57 (a b x y : Int) (w : World) : (binOp .eql 57 (.agg #[.int .i64 a, .int .i64 b]) (.agg #[.int .i64 x, .int .i64 y])).run Try.prog w = .ok (.bool (sameC a b x y)) w := by
  rw [run_eql_struct, eq_fields57]; rfl
theorem neq57 (a b x y : Int) (w : World) : (binOp .neq 57 (.agg #[.int .i64 a, .int .i64 b]) (.agg #[.int .i64 x, .int .i64 y])).run Try.prog w = .ok (.bool (!sameC a b x y)) w := by
  rw [run_neq_struct, eq_fields57]; rfl
theorem eqg57 (op : BinOp) (x y : Operand) (xs ys : Array Value) (w : World) : (eqGuard op 57 x y (.agg xs) (.agg ys)).run Try.prog w = .ok () w := run_eqGuard_agg w op 57 x y xs ys guard57
attribute [local go_sem] eqg57
theorem mid_three (w : World) (o o' o'' : Obj) : (((w.alloc o).alloc o').alloc o'').heap[w.heap.size + 1]? = some o' := by
  rw [RowKit.Below.block (Up.alloc ((w.alloc o).alloc o') o'') _ (by simp)]; exact last_two _ _ _
theorem t60 (a b : Int) (c : Nat) (x y : Int) (z : Nat) (w : World) : Calls Try.prog 60 #[.agg #[.int .i64 a, .int .i64 b, .float .f64 c], .agg #[.int .i64 x, .int .i64 y, .float .f64 z]] w (VU w (.bool (sameC a b x y))) := by
  obtain ⟨k1, k2, k3, k4, k5, k6⟩ := six_cells w (.int .i64 a) (.int .i64 b) (.float .f64 c) (.int .i64 x) (.int .i64 y) (.float .f64 z) 29 29
  have HU : Hid (Gr w ((w.alloc (.cells #[.int .i64 a, .int .i64 b, .float .f64 c] 29)).alloc (.cells #[.int .i64 x, .int .i64 y, .float .f64 z] 29))) := (Gr.alloc _ _).trans (Gr.alloc _ _)
  have hEq := eql57 a b x y
  generalize sameC a b x y = s at *
  go_enter Try.func60, Try.ntmps60
  go_wp2
  generalize (w.alloc (.cells #[.int .i64 a, .int .i64 b, .float .f64 c] 29)).alloc (.cells #[.int .i64 x, .int .i64 y, .float .f64 z] 29) = W at *
  generalize w.heap.size = g at *
  go_region_held3 (fun w' => w'.cell? ⟨g, 0, none⟩ = some (.int .i64 a) ∧ w'.cell? ⟨g, 1, none⟩ = some (.int .i64 b) ∧ w'.cell? ⟨g, 2, none⟩ = some (.float .f64 c) ∧ w'.cell? ⟨g + 1, 0, none⟩ = some (.int .i64 x) ∧ w'.cell? ⟨g + 1, 1, none⟩ = some (.int .i64 y) ∧ w'.cell? ⟨g + 1, 2, none⟩ = some (.float .f64 z)) (first | exact ⟨k1, k2, k3, k4, k5, k6⟩ | exact six_up (by assumption) HU1.out.up | exact six_up (by assumption) HU3.out.up | exact six_up (w := W.drew) ⟨k1, k2, k3, k4, k5, k6⟩ HU1.out.up | assumption) (first
    | ((fail_if_success have := HU1); go_at_call 35; (with_reducible refine (t35 _ _ _ _).mono ?_); rintro e w1 ⟨rfl, HU1⟩)
    | (go_at_call 35; (with_reducible refine (t35 _ _ _ _).mono ?_); rintro e w3 ⟨rfl, HU3⟩))
  all_goals
    go_wp2
    go_ret
    exact ⟨rfl, ((HU.out.trans (Gr.drewN _ 1)).trans HU1.out).trans HU3.out⟩
/-- The bins about one. -/
def belowB (bins b : Int) : Int := if b = 0 then bins - 1 else b - 1
def aboveB (bins b : Int) : Int := if b = bins - 1 then 0 else b + 1
theorem about_is {bins b x y : Int} (hx : belowB bins b = x) (hy : aboveB bins b = y) : Value.agg #[.int .i64 b, .int .i64 x, .int .i64 y] = .agg #[.int .i64 b, .int .i64 (belowB bins b), .int .i64 (aboveB bins b)] := by rw [hx, hy]
set_option maxRecDepth 20000 in
theorem t67 (bins l b : Int) (w : World) (h0 : 0 ≤ b) (h1 : b < bins) (h2 : bins ≤ 9223372036854775807) : Calls Try.prog 67 #[.agg #[.int .i64 bins, .int .i64 l], .int .i64 b] w (VU w (.agg #[.int .i64 b, .int .i64 (belowB bins b), .int .i64 (aboveB bins b)])) := by
  go_enter Try.func67, Try.ntmps67
  go_wp2
  all_goals
    refine bodyPost_ret (results_cell_row Try.results67 _ _ _ 86 _ (0, 0) _ rfl (mid_three _ _ _ _) Try.underlying86 rfl (by kernel_rfl)) rfl ⟨?_, ((Gr.alloc _ _).trans (Gr.alloc _ _)).trans (Gr.alloc _ _)⟩
    refine congrArg Ending.returned (about_is ?_ ?_)
    all_goals (first | unfold belowB | unfold aboveB)
    all_goals (split <;> simp_all <;> omega)
end Go.Proofs.Ytephkmahnbhmbaa
