/- Centre: what is summed. -/
import Derived.Test.YtephkmahnbhmbaaSb
import Derived.Test.YtephkmahnbhmbaaQg
import Derived.Test.YtephkmahnbhmbaaRh
namespace Go.Proofs.Ytephkmahnbhmbaa
open Go.ChangeShapes Go.WideShapes Go.ChangeAt Go.RowKit Go.Fl Go.Sort
attribute [local go_sem] run_store_float call52 run_neg fold_eq fold_ne fold_lt fold_gt abs_eq
set_option maxRecDepth 20000
theorem three_box (w : World) (a b c : Value) (t : TypeId) : (w.alloc (.cells #[a, b, c] t)).cell? ⟨w.heap.size, 0, none⟩ = some a ∧ (w.alloc (.cells #[a, b, c] t)).cell? ⟨w.heap.size, 1, none⟩ = some b ∧ (w.alloc (.cells #[a, b, c] t)).cell? ⟨w.heap.size, 2, none⟩ = some c := by
  refine ⟨?_, ?_, ?_⟩ <;> rw [World.cell?_alloc_at _ _ _ _ rfl] <;> rfl
theorem five_up {w w' : World} {g t q : Nat} {a b c d e : Value} (h : w.cell? ⟨g, 0, none⟩ = some a ∧ w.cell? ⟨g, 1, none⟩ = some b ∧ w.cell? ⟨g, 2, none⟩ = some c ∧ w.cell? ⟨t, 0, none⟩ = some d ∧ w.cell? ⟨q, 0, none⟩ = some e) (hu : Up w w') :
    w'.cell? ⟨g, 0, none⟩ = some a ∧ w'.cell? ⟨g, 1, none⟩ = some b ∧ w'.cell? ⟨g, 2, none⟩ = some c ∧ w'.cell? ⟨t, 0, none⟩ = some d ∧ w'.cell? ⟨q, 0, none⟩ = some e :=
  ⟨cell_up h.1 hu, cell_up h.2.1 hu, cell_up h.2.2.1 hu, cell_up h.2.2.2.1 hu, cell_up h.2.2.2.2 hu⟩
theorem fourt_up {w w' : World} {g t : Nat} {a b c d : Value} (h : w.cell? ⟨g, 0, none⟩ = some a ∧ w.cell? ⟨g, 1, none⟩ = some b ∧ w.cell? ⟨g, 2, none⟩ = some c ∧ w.cell? ⟨t, 1, none⟩ = some d) (hu : Up w w') :
    w'.cell? ⟨g, 0, none⟩ = some a ∧ w'.cell? ⟨g, 1, none⟩ = some b ∧ w'.cell? ⟨g, 2, none⟩ = some c ∧ w'.cell? ⟨t, 1, none⟩ = some d :=
  ⟨cell_up h.1 hu, cell_up h.2.1 hu, cell_up h.2.2.1 hu, cell_up h.2.2.2 hu⟩
theorem field57_0 (x y : Int) (w : World) : (Instr.field 57 (.agg #[.int .i64 x, .int .i64 y]) 0).run Try.prog w = .ok (.int .i64 x) w := by kernel_rfl
theorem field57_1 (x y : Int) (w : World) : (Instr.field 57 (.agg #[.int .i64 x, .int .i64 y]) 1).run Try.prog w = .ok (.int .i64 y) w := by kernel_rfl
theorem eg39 (args : Array Value) (w : World) : (callFunc 39 args).run Try.prog w = .ok (.enter 39 args) w := enters Try.func39 (by kernel_rfl) (by kernel_rfl) _ _
theorem eg44 (args : Array Value) (w : World) : (callFunc 44 args).run Try.prog w = .ok (.enter 44 args) w := enters Try.func44 (by kernel_rfl) (by kernel_rfl) _ _
theorem t42 (a b : Int) (c : Nat) (w : World) : Calls Try.prog 42 #[.agg #[.int .i64 a, .int .i64 b, .float .f64 c]] w (FU w (ab c)) := by
  go_enter Try.func42, Try.ntmps42
  go_wp2
  go_ret
  exact FU.mk rfl (Up.alloc _ _)
theorem t43 {w : World} (a b : Int) (c : Nat) {t q : Nat} {tb bins : Int} (ht : w.cell? ⟨t, 0, none⟩ = some (.int .i64 tb)) (hq : w.cell? ⟨q, 0, none⟩ = some (.int .i64 bins)) (h0 : 0 ≤ bins) (h1 : bins ≤ 1073741824) (h2 : -1073741824 ≤ tb) (h3 : tb ≤ 1073741824) :
    Calls Try.prog 43 #[.agg #[.int .i64 a, .int .i64 b, .float .f64 c], .pointer (some ⟨t, 0, none⟩), .pointer (some ⟨q, 0, none⟩)] w (FU w (bin .mul (ab c) (ab (floatOfInt .f64 (nearF (clI a - tb) bins))))) := by
  obtain ⟨k1, k2, k3⟩ := three_box w (.int .i64 a) (.int .i64 b) (.float .f64 c) 29
  have k4 := cell_up ht (Up.alloc w (.cells #[.int .i64 a, .int .i64 b, .float .f64 c] 29))
  have k5 := cell_up hq (Up.alloc w (.cells #[.int .i64 a, .int .i64 b, .float .f64 c] 29))
  have HU : Hid (Up w (w.alloc (.cells #[.int .i64 a, .int .i64 b, .float .f64 c] 29))) := Up.alloc _ _
  obtain ⟨c1, c2⟩ := clI_in a
  clear ht hq
  have hfd := field57_0 (clI a) (clI b)
  have C39 : Hid (∀ w, Calls Try.prog 39 #[.agg #[.int .i64 a, .int .i64 b, .float .f64 c]] w (VU w (.agg #[.int .i64 (clI a), .int .i64 (clI b)]))) := fun w => t39 _ _ _ w
  have hwr : IntKind.i64.wrap (clI a - tb) = clI a - tb := by rw [IntKind.wrap_i64]; omega
  have C44 : Hid (∀ w, Calls Try.prog 44 #[.int .i64 (clI a - tb), .int .i64 bins] w fun e w' => e = .returned (.int .i64 (nearF (clI a - tb) bins)) ∧ w' = w) := fun w => t44 _ _ w h0 h1 (by omega) (by omega)
  go_enter Try.func43, Try.ntmps43
  go_wp2
  generalize w.alloc (.cells #[.int .i64 a, .int .i64 b, .float .f64 c] 29) = W at *
  generalize w.heap.size = g at *
  generalize clI a = x at *
  generalize clI b = y at *
  refine wp_region_ord 11 [(0, none), (1, some false), (2, some false), (5, none), (6, some false), (8, some false), (3, some true), (4, none), (7, none), (9, some true), (10, none)] (fun w' => Up W w') (by kernel_rfl) (by decide) rfl (by kernel_rfl) (fun _ _ d _ _ h => by cases d <;> exact h) (Up.drewN W 1) ?_
  refine ⟨_, .pointer (some ⟨g, 2, none⟩), some 5, rfl, rfl, Or.inl ⟨rfl, fun w' hS => ?_⟩, ?_⟩
  · go_simp
  refine ⟨_, .float .f64 c, some 6, rfl, rfl, Or.inl ⟨rfl, fun w' hS => ?_⟩, ?_⟩
  · have l1 := cell_up k1 hS
    have l2 := cell_up k2 hS
    have l3 := cell_up k3 hS
    have l4 := cell_up k4 hS
    have l5 := cell_up k5 hS
    go_simp
  refine ⟨_, .agg #[.int .i64 a, .int .i64 b, .float .f64 c], some 7, rfl, rfl, Or.inl ⟨rfl, fun w' hS => ?_⟩, ?_⟩
  · have l1 := cell_up k1 hS
    have l2 := cell_up k2 hS
    have l3 := cell_up k3 hS
    have l4 := cell_up k4 hS
    have l5 := cell_up k5 hS
    go_simp
  refine ⟨_, .pointer (some ⟨t, 0, none⟩), some 10, rfl, rfl, Or.inl ⟨rfl, fun w' hS => ?_⟩, ?_⟩
  · go_simp
  refine ⟨_, .int .i64 tb, some 11, rfl, rfl, Or.inl ⟨rfl, fun w' hS => ?_⟩, ?_⟩
  · have l1 := cell_up k1 hS
    have l2 := cell_up k2 hS
    have l3 := cell_up k3 hS
    have l4 := cell_up k4 hS
    have l5 := cell_up k5 hS
    go_simp
  refine ⟨_, .int .i64 bins, some 13, rfl, rfl, Or.inl ⟨rfl, fun w' hS => ?_⟩, ?_⟩
  · have l1 := cell_up k1 hS
    have l2 := cell_up k2 hS
    have l3 := cell_up k3 hS
    have l4 := cell_up k4 hS
    have l5 := cell_up k5 hS
    go_simp
  refine wpOp_call (f := 39) rfl rfl rfl #[.agg #[.int .i64 a, .int .i64 b, .float .f64 c]] (by kernel_rfl) (eg39 _ _) ?_
  refine (C39.out _).mono ?_
  rintro e w1 ⟨rfl, HU1⟩
  have HUA : Hid (Up W w1) := (show Up W W.drew from Up.drewN W 1).trans HU1.out.up
  refine ⟨_, rfl, HUA.out, ?_⟩
  refine ⟨_, .int .i64 x, some 9, rfl, rfl, Or.inl ⟨rfl, fun w' hS => ?_⟩, ?_⟩
  · go_simp
  refine ⟨_, .int .i64 (x - tb), some 12, rfl, rfl, Or.inl ⟨rfl, fun w' hS => ?_⟩, ?_⟩
  · go_simp
  refine wpOp_call (f := 44) rfl rfl rfl #[.int .i64 (x - tb), .int .i64 bins] (by kernel_rfl) (eg44 _ _) ?_
  refine (C44.out _).mono ?_
  rintro e w' ⟨rfl, hw⟩
  subst w'
  refine ⟨_, rfl, HUA.out, ?_⟩
  refine ⟨_, .float .f64 (floatOfInt .f64 (nearF (x - tb) bins)), some 15, rfl, rfl, Or.inl ⟨rfl, fun w' hS => ?_⟩, ?_⟩
  · go_simp
  simp only [OrdW, List.drop_succ_cons, List.drop_zero, Act.put, List.setIfInBounds_toArray, List.set_cons_succ, List.set_cons_zero]
  go_wp2_with ((with_reducible refine upon_fl (by simp) ?_); intro r3 k3 hr3)
  go_ret
  exact FU.mk hr3.out (HU.out.trans (HUA.out.trans (Up.drewN _ _)))
theorem t45 {w : World} (a b : Int) (c : Nat) {t : Nat} {tb : Int} (ht : w.cell? ⟨t, 1, none⟩ = some (.int .i64 tb)) (h2 : -1073741824 ≤ tb) (h3 : tb ≤ 1073741824) :
    Calls Try.prog 45 #[.agg #[.int .i64 a, .int .i64 b, .float .f64 c], .pointer (some ⟨t, 0, none⟩)] w (FU w (bin .mul (ab c) (ab (floatOfInt .f64 (clI b - tb))))) := by
  obtain ⟨k1, k2, k3⟩ := three_box w (.int .i64 a) (.int .i64 b) (.float .f64 c) 29
  have k4 := cell_up ht (Up.alloc w (.cells #[.int .i64 a, .int .i64 b, .float .f64 c] 29))
  have HU : Hid (Up w (w.alloc (.cells #[.int .i64 a, .int .i64 b, .float .f64 c] 29))) := Up.alloc _ _
  obtain ⟨c1, c2⟩ := clI_in b
  clear ht
  have hfd := field57_1 (clI a) (clI b)
  have C39 : Hid (∀ w, Calls Try.prog 39 #[.agg #[.int .i64 a, .int .i64 b, .float .f64 c]] w (VU w (.agg #[.int .i64 (clI a), .int .i64 (clI b)]))) := fun w => t39 _ _ _ w
  have hwr : IntKind.i64.wrap (clI b - tb) = clI b - tb := by rw [IntKind.wrap_i64]; omega
  go_enter Try.func45, Try.ntmps45
  go_wp2
  generalize w.alloc (.cells #[.int .i64 a, .int .i64 b, .float .f64 c] 29) = W at *
  generalize w.heap.size = g at *
  generalize clI a = x at *
  generalize clI b = y at *
  refine wp_region_ord 9 [(0, none), (1, some false), (2, some false), (5, none), (6, some false), (3, some true), (4, none), (7, none), (8, none)] (fun w' => Up W w') (by kernel_rfl) (by decide) rfl (by kernel_rfl) (fun _ _ d _ _ h => by cases d <;> exact h) (Up.drewN W 1) ?_
  refine ⟨_, .pointer (some ⟨g, 2, none⟩), some 4, rfl, rfl, Or.inl ⟨rfl, fun w' hS => ?_⟩, ?_⟩
  · go_simp
  refine ⟨_, .float .f64 c, some 5, rfl, rfl, Or.inl ⟨rfl, fun w' hS => ?_⟩, ?_⟩
  · have l1 := cell_up k1 hS
    have l2 := cell_up k2 hS
    have l3 := cell_up k3 hS
    have l4 := cell_up k4 hS
    go_simp
  refine ⟨_, .agg #[.int .i64 a, .int .i64 b, .float .f64 c], some 6, rfl, rfl, Or.inl ⟨rfl, fun w' hS => ?_⟩, ?_⟩
  · have l1 := cell_up k1 hS
    have l2 := cell_up k2 hS
    have l3 := cell_up k3 hS
    have l4 := cell_up k4 hS
    go_simp
  refine ⟨_, .pointer (some ⟨t, 1, none⟩), some 9, rfl, rfl, Or.inl ⟨rfl, fun w' hS => ?_⟩, ?_⟩
  · go_simp
  refine ⟨_, .int .i64 tb, some 10, rfl, rfl, Or.inl ⟨rfl, fun w' hS => ?_⟩, ?_⟩
  · have l1 := cell_up k1 hS
    have l2 := cell_up k2 hS
    have l3 := cell_up k3 hS
    have l4 := cell_up k4 hS
    go_simp
  refine wpOp_call (f := 39) rfl rfl rfl #[.agg #[.int .i64 a, .int .i64 b, .float .f64 c]] (by kernel_rfl) (eg39 _ _) ?_
  refine (C39.out _).mono ?_
  rintro e w1 ⟨rfl, HU1⟩
  have HUA : Hid (Up W w1) := (show Up W W.drew from Up.drewN W 1).trans HU1.out.up
  refine ⟨_, rfl, HUA.out, ?_⟩
  refine ⟨_, .int .i64 y, some 8, rfl, rfl, Or.inl ⟨rfl, fun w' hS => ?_⟩, ?_⟩
  · go_simp
  refine ⟨_, .int .i64 (y - tb), some 11, rfl, rfl, Or.inl ⟨rfl, fun w' hS => ?_⟩, ?_⟩
  · go_simp
  refine ⟨_, .float .f64 (floatOfInt .f64 (y - tb)), some 12, rfl, rfl, Or.inl ⟨rfl, fun w' hS => ?_⟩, ?_⟩
  · go_simp
  simp only [OrdW, List.drop_succ_cons, List.drop_zero, Act.put, List.setIfInBounds_toArray, List.set_cons_succ, List.set_cons_zero]
  go_wp2_with ((with_reducible refine upon_fl (by simp) ?_); intro r3 k3 hr3)
  go_ret
  exact FU.mk hr3.out (HU.out.trans (HUA.out.trans (Up.drewN _ _)))
end Go.Proofs.Ytephkmahnbhmbaa
