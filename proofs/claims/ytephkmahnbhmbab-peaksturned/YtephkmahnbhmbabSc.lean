/- Centre: what is summed. -/
import Derived.Test.YtephkmahnbhmbabSb
import Derived.Test.YtephkmahnbhmbabQg
namespace Go.Proofs.Ytephkmahnbhmbab
open Go.ChangeShapes Go.WideShapes Go.ChangeAt Go.RowKit Go.Fl Go.Sort
attribute [local go_sem] run_store_float run_neg fold_eq fold_ne fold_lt fold_gt abs_eq
set_option maxRecDepth 20000
theorem three_box (w : World) (a b c : Value) (t : TypeId) : (w.alloc (.cells #[a, b, c] t)).cell? ⟨w.heap.size, 0, none⟩ = some a ∧ (w.alloc (.cells #[a, b, c] t)).cell? ⟨w.heap.size, 1, none⟩ = some b ∧ (w.alloc (.cells #[a, b, c] t)).cell? ⟨w.heap.size, 2, none⟩ = some c := by
  refine ⟨?_, ?_, ?_⟩ <;> rw [World.cell?_alloc_at _ _ _ _ rfl] <;> rfl
theorem five_up {w w' : World} {g t q : Nat} {a b c d e : Value} (h : w.cell? ⟨g, 0, none⟩ = some a ∧ w.cell? ⟨g, 1, none⟩ = some b ∧ w.cell? ⟨g, 2, none⟩ = some c ∧ w.cell? ⟨t, 0, none⟩ = some d ∧ w.cell? ⟨q, 0, none⟩ = some e) (hu : Up w w') :
    w'.cell? ⟨g, 0, none⟩ = some a ∧ w'.cell? ⟨g, 1, none⟩ = some b ∧ w'.cell? ⟨g, 2, none⟩ = some c ∧ w'.cell? ⟨t, 0, none⟩ = some d ∧ w'.cell? ⟨q, 0, none⟩ = some e :=
  ⟨cell_up h.1 hu, cell_up h.2.1 hu, cell_up h.2.2.1 hu, cell_up h.2.2.2.1 hu, cell_up h.2.2.2.2 hu⟩
theorem fourt_up {w w' : World} {g t : Nat} {a b c d : Value} (h : w.cell? ⟨g, 0, none⟩ = some a ∧ w.cell? ⟨g, 1, none⟩ = some b ∧ w.cell? ⟨g, 2, none⟩ = some c ∧ w.cell? ⟨t, 1, none⟩ = some d) (hu : Up w w') :
    w'.cell? ⟨g, 0, none⟩ = some a ∧ w'.cell? ⟨g, 1, none⟩ = some b ∧ w'.cell? ⟨g, 2, none⟩ = some c ∧ w'.cell? ⟨t, 1, none⟩ = some d :=
  ⟨cell_up h.1 hu, cell_up h.2.1 hu, cell_up h.2.2.1 hu, cell_up h.2.2.2 hu⟩
theorem field57_0 (x y : Int) (w : World) : (Instr.field 42 (.agg #[.int .i64 x, .int .i64 y]) 0).run Try.prog w = .ok (.int .i64 x) w := by kernel_rfl
theorem field57_1 (x y : Int) (w : World) : (Instr.field 42 (.agg #[.int .i64 x, .int .i64 y]) 1).run Try.prog w = .ok (.int .i64 y) w := by kernel_rfl
theorem t42 (a b : Int) (c : Nat) (w : World) : Calls Try.prog 18 #[.agg #[.int .i64 a, .int .i64 b, .float .f64 c]] w (FU w (ab c)) := by
  go_enter Try.func18, Try.ntmps18
  go_wp2
  go_ret
  exact FU.mk rfl (Up.alloc _ _)
theorem t43 {w : World} (a b : Int) (c : Nat) {t q : Nat} {tb bins : Int} (ht : w.cell? ⟨t, 0, none⟩ = some (.int .i64 tb)) (hq : w.cell? ⟨q, 0, none⟩ = some (.int .i64 bins)) (h0 : 0 ≤ bins) (h1 : bins ≤ 1073741824) (h2 : -1073741824 ≤ tb) (h3 : tb ≤ 1073741824) :
    Calls Try.prog 19 #[.agg #[.int .i64 a, .int .i64 b, .float .f64 c], .pointer (some ⟨t, 0, none⟩), .pointer (some ⟨q, 0, none⟩)] w (FU w (bin .mul (ab c) (ab (floatOfInt .f64 (nearF (clI a - tb) bins))))) := by
  obtain ⟨k1, k2, k3⟩ := three_box w (.int .i64 a) (.int .i64 b) (.float .f64 c) 31
  have k4 := cell_up ht (Up.alloc w (.cells #[.int .i64 a, .int .i64 b, .float .f64 c] 31))
  have k5 := cell_up hq (Up.alloc w (.cells #[.int .i64 a, .int .i64 b, .float .f64 c] 31))
  have HU : Hid (Up w (w.alloc (.cells #[.int .i64 a, .int .i64 b, .float .f64 c] 31))) := Up.alloc _ _
  obtain ⟨c1, c2⟩ := clI_in a
  clear ht hq
  have hfd := field57_0 (clI a) (clI b)
  have C39 : Hid (∀ w, Calls Try.prog 15 #[.agg #[.int .i64 a, .int .i64 b, .float .f64 c]] w (VU w (.agg #[.int .i64 (clI a), .int .i64 (clI b)]))) := fun w => t39 _ _ _ w
  have hwr : IntKind.i64.wrap (clI a - tb) = clI a - tb := by rw [IntKind.wrap_i64]; omega
  have C44 : Hid (∀ w, Calls Try.prog 20 #[.int .i64 (clI a - tb), .int .i64 bins] w fun e w' => e = .returned (.int .i64 (nearF (clI a - tb) bins)) ∧ w' = w) := fun w => t44 _ _ w h0 h1 (by omega) (by omega)
  go_enter Try.func19, Try.ntmps19
  go_wp2
  generalize w.alloc (.cells #[.int .i64 a, .int .i64 b, .float .f64 c] 31) = W at *
  generalize w.heap.size = g at *
  generalize clI a = x at *
  generalize clI b = y at *
  go_region_held3 (fun w' => w'.cell? ⟨g, 0, none⟩ = some (.int .i64 a) ∧ w'.cell? ⟨g, 1, none⟩ = some (.int .i64 b) ∧ w'.cell? ⟨g, 2, none⟩ = some (.float .f64 c) ∧ w'.cell? ⟨t, 0, none⟩ = some (.int .i64 tb) ∧ w'.cell? ⟨q, 0, none⟩ = some (.int .i64 bins)) (first | exact ⟨k1, k2, k3, k4, k5⟩ | exact five_up (by assumption) HU1.out.up | exact five_up (w := W.drew) ⟨k1, k2, k3, k4, k5⟩ HU1.out.up | go_keep) (first
    | (go_at_call 15; (with_reducible refine (C39.out _).mono ?_); rintro e w1 ⟨rfl, HU1⟩)
    | (go_at_call 20; (with_reducible refine (C44.out _).mono ?_); rintro e w' ⟨rfl, hw⟩; subst w')
    | ((with_reducible refine upon_fl (by simp) ?_); intro r3 k3 hr3))
  all_goals
    go_wp2
    go_ret
    exact FU.mk hr3.out (HU.out.trans ((Up.drewN _ 1).trans (HU1.out.up.trans (Up.drewN _ _))))
theorem t45 {w : World} (a b : Int) (c : Nat) {t : Nat} {tb : Int} (ht : w.cell? ⟨t, 1, none⟩ = some (.int .i64 tb)) (h2 : -1073741824 ≤ tb) (h3 : tb ≤ 1073741824) :
    Calls Try.prog 21 #[.agg #[.int .i64 a, .int .i64 b, .float .f64 c], .pointer (some ⟨t, 0, none⟩)] w (FU w (bin .mul (ab c) (ab (floatOfInt .f64 (clI b - tb))))) := by
  obtain ⟨k1, k2, k3⟩ := three_box w (.int .i64 a) (.int .i64 b) (.float .f64 c) 31
  have k4 := cell_up ht (Up.alloc w (.cells #[.int .i64 a, .int .i64 b, .float .f64 c] 31))
  have HU : Hid (Up w (w.alloc (.cells #[.int .i64 a, .int .i64 b, .float .f64 c] 31))) := Up.alloc _ _
  obtain ⟨c1, c2⟩ := clI_in b
  clear ht
  have hfd := field57_1 (clI a) (clI b)
  have C39 : Hid (∀ w, Calls Try.prog 15 #[.agg #[.int .i64 a, .int .i64 b, .float .f64 c]] w (VU w (.agg #[.int .i64 (clI a), .int .i64 (clI b)]))) := fun w => t39 _ _ _ w
  have hwr : IntKind.i64.wrap (clI b - tb) = clI b - tb := by rw [IntKind.wrap_i64]; omega
  go_enter Try.func21, Try.ntmps21
  go_wp2
  generalize w.alloc (.cells #[.int .i64 a, .int .i64 b, .float .f64 c] 31) = W at *
  generalize w.heap.size = g at *
  generalize clI a = x at *
  generalize clI b = y at *
  go_region_held3 (fun w' => w'.cell? ⟨g, 0, none⟩ = some (.int .i64 a) ∧ w'.cell? ⟨g, 1, none⟩ = some (.int .i64 b) ∧ w'.cell? ⟨g, 2, none⟩ = some (.float .f64 c) ∧ w'.cell? ⟨t, 1, none⟩ = some (.int .i64 tb)) (first | exact ⟨k1, k2, k3, k4⟩ | exact fourt_up (by assumption) HU1.out.up | exact fourt_up (w := W.drew) ⟨k1, k2, k3, k4⟩ HU1.out.up | go_keep) (first
    | (go_at_call 15; (with_reducible refine (C39.out _).mono ?_); rintro e w1 ⟨rfl, HU1⟩)
    | ((with_reducible refine upon_fl (by simp) ?_); intro r3 k3 hr3))
  all_goals
    go_wp2
    go_ret
    exact FU.mk hr3.out (HU.out.trans ((Up.drewN _ 1).trans (HU1.out.up.trans (Up.drewN _ _))))
end Go.Proofs.Ytephkmahnbhmbab
