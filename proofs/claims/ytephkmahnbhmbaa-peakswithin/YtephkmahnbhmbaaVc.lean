/- Which of two spots is ahead, which are neighbours. -/
import Derived.Test.YtephkmahnbhmbaaSg
namespace Go.Proofs.Ytephkmahnbhmbaa
open Go.ChangeShapes Go.WideShapes Go.ChangeAt Go.RowKit Go.Fl Go.Sort
attribute [local go_sem] run_store_float call52 run_neg fold_eq fold_ne fold_lt fold_gt abs_eq
set_option maxRecDepth 20000
/-- Is one cell ahead of another? -/
def ahB (a b x y : Int) : Bool := decide (a < x) || decide (a = x) && decide (b < y)
theorem ret_bool {a b : Bool} (h : a = b) : Ending.returned (.bool a) = Ending.returned (.bool b) := by rw [h]
theorem t27 (a b : Int) (c : Nat) (x y : Int) (z : Nat) (w : World) : Calls Try.prog 27 #[.agg #[.int .i64 a, .int .i64 b, .float .f64 c], .agg #[.int .i64 x, .int .i64 y, .float .f64 z]] w (VU w (.bool (ahB a b x y))) := by
  obtain ⟨k1, k2, k3, k4, k5, k6⟩ := six_cells w (.int .i64 a) (.int .i64 b) (.float .f64 c) (.int .i64 x) (.int .i64 y) (.float .f64 z) 29 29
  go_enter Try.func27, Try.ntmps27
  go_wp2
  all_goals
    go_ret
    refine ⟨ret_bool ?_, (Gr.alloc _ _).trans (Gr.alloc _ _)⟩
    unfold ahB
    rw [Bool.eq_iff_iff]
    simp only [Bool.or_eq_true, Bool.and_eq_true, decide_eq_true_eq, true_iff]
    omega
theorem t56 (a b : Int) (c : Nat) (x y : Int) (z : Nat) (w : World) : Calls Try.prog 56 #[.agg #[.int .i64 a, .int .i64 b, .float .f64 c], .agg #[.int .i64 x, .int .i64 y, .float .f64 z]] w (VU w (.bool (ahB a b x y))) := by
  obtain ⟨k1, k2, k3, k4, k5, k6⟩ := six_cells w (.int .i64 a) (.int .i64 b) (.float .f64 c) (.int .i64 x) (.int .i64 y) (.float .f64 z) 29 29
  go_enter Try.func56, Try.ntmps56
  go_wp2
  all_goals
    go_ret
    refine ⟨ret_bool ?_, (Gr.alloc _ _).trans (Gr.alloc _ _)⟩
    unfold ahB
    rw [Bool.eq_iff_iff]
    simp only [Bool.or_eq_true, Bool.and_eq_true, decide_eq_true_eq, true_iff]
    omega
/-- Are two cells of a map of n bins neighbours? -/
def nextB (n a b x y : Int) : Bool := decide (-1 ≤ b - y) && decide (b - y ≤ 1) && !(decide (a = x) && decide (b = y)) && (decide (-2 < a - x ∧ a - x < 2) || decide (a - x = n - 1 ∧ 0 ≤ a - x ∨ x - a = n - 1 ∧ a - x < 0))
theorem t31 {n a b : Int} (c : Nat) {x y : Int} (z : Nat) (w : World) (h1 : -4611686018427387904 ≤ a) (h1' : a ≤ 4611686018427387903) (h2 : -4611686018427387904 ≤ b) (h2' : b ≤ 4611686018427387903) (h3 : -4611686018427387904 ≤ x) (h3' : x ≤ 4611686018427387903) (h4 : -4611686018427387904 ≤ y) (h4' : y ≤ 4611686018427387903) (h5 : 0 ≤ n) (h5' : n ≤ 4611686018427387904) : Calls Try.prog 31 #[.int .i64 n, .agg #[.int .i64 a, .int .i64 b, .float .f64 c], .agg #[.int .i64 x, .int .i64 y, .float .f64 z]] w (VU w (.bool (nextB n a b x y))) := by
  obtain ⟨k1, k2, k3, k4, k5, k6⟩ := six_cells w (.int .i64 a) (.int .i64 b) (.float .f64 c) (.int .i64 x) (.int .i64 y) (.float .f64 z) 29 29
  go_enter Try.func31, Try.ntmps31
  go_wp2
  all_goals
    go_ret
    refine ⟨ret_bool ?_, (Gr.alloc _ _).trans (Gr.alloc _ _)⟩
    unfold nextB
    rw [Bool.eq_iff_iff]
    simp only [Bool.or_eq_true, Bool.and_eq_true, decide_eq_true_eq, Bool.false_eq_true, false_iff, true_iff, Bool.not_eq_true', Bool.and_eq_false_iff, decide_eq_false_iff_not, beq_iff_eq, beq_eq_false_iff_ne] at *
    omega
/-- Does a cell stand in the way of another one's being highest? -/
def beatB (a b : Int) (c : Option Nat) (x y : Int) (z : Option Nat) : Bool := gtF c z || eqF c z && ahB a b x y
theorem t32 (a b : Int) (c : Nat) (x y : Int) (z : Nat) (w : World) : Calls Try.prog 32 #[.agg #[.int .i64 a, .int .i64 b, .float .f64 c], .agg #[.int .i64 x, .int .i64 y, .float .f64 z]] w (VU w (.bool (beatB a b (ab c) x y (ab z)))) := by
  obtain ⟨k1, k2, k3, k4, k5, k6⟩ := six_cells w (.int .i64 a) (.int .i64 b) (.float .f64 c) (.int .i64 x) (.int .i64 y) (.float .f64 z) 29 29
  have HU : Hid (Gr w ((w.alloc (.cells #[.int .i64 a, .int .i64 b, .float .f64 c] 29)).alloc (.cells #[.int .i64 x, .int .i64 y, .float .f64 z] 29))) := (Gr.alloc _ _).trans (Gr.alloc _ _)
  go_enter Try.func32, Try.ntmps32
  go_wp2_with (go_at_call 56; (with_reducible refine (t56 _ _ _ _ _ _ _).mono ?_); rintro e w1 ⟨rfl, HU1⟩)
  · go_ret
    exact ⟨ret_bool (by unfold beatB; simp_all), HU⟩
  · go_ret
    exact ⟨ret_bool (by unfold beatB; simp_all), HU.out.trans HU1.out⟩
  · go_ret
    exact ⟨ret_bool (by unfold beatB; simp_all), HU⟩
/-- The law's own: are two cells of a map of n bins neighbours, the bins going round? -/
def roundB (n a b x y : Int) : Bool := (decide (((a - x).tmod n + n).tmod n ≤ 1) || decide (((a - x).tmod n + n).tmod n = n - 1)) && decide (-1 ≤ b - y) && decide (b - y ≤ 1) && (decide (((a - x).tmod n + n).tmod n ≠ 0) || decide (b - y ≠ 0))
theorem t26 {n a b : Int} (c : Nat) {x y : Int} (z : Nat) (w : World) (h1 : 0 ≤ a) (h1' : a ≤ 4611686018427387903) (h2 : 0 ≤ b) (h2' : b ≤ 4611686018427387903) (h3 : 0 ≤ x) (h3' : x ≤ 4611686018427387903) (h4 : 0 ≤ y) (h4' : y ≤ 4611686018427387903) (h5 : 1 ≤ n) (h5' : n ≤ 4611686018427387903) : Calls Try.prog 26 #[.agg #[.int .i64 a, .int .i64 b, .float .f64 c], .agg #[.int .i64 x, .int .i64 y, .float .f64 z], .int .i64 n] w (VU w (.bool (roundB n a b x y))) := by
  obtain ⟨k1, k2, k3, k4, k5, k6⟩ := six_cells w (.int .i64 a) (.int .i64 b) (.float .f64 c) (.int .i64 x) (.int .i64 y) (.float .f64 z) 29 29
  obtain ⟨t, ht⟩ : ∃ t, (a - x).tmod n = t := ⟨_, rfl⟩
  have b1 : t < n := by rw [← ht]; exact Int.tmod_lt_of_pos _ (by omega)
  have b2 : -n < t := by
    have := Int.neg_tmod (a - x) n
    have h := Int.tmod_lt_of_pos (-(a - x)) (show 0 < n by omega)
    omega
  obtain ⟨q, hq⟩ : ∃ q, (t + n).tmod n = q := ⟨_, rfl⟩
  have b3 : 0 ≤ q := by rw [← hq]; exact Int.tmod_nonneg _ (by omega)
  have b4 : q < n := by rw [← hq]; exact Int.tmod_lt_of_pos _ (by omega)
  have HR : Hid (roundB n a b x y = ((decide (q ≤ 1) || decide (q = n - 1)) && decide (-1 ≤ b - y) && decide (b - y ≤ 1) && (decide (q ≠ 0) || decide (b - y ≠ 0)))) := by
    show _ = _
    unfold roundB
    rw [ht, hq]
  go_enter Try.func26, Try.ntmps26
  go_wp2
  all_goals
    go_ret
    refine ⟨ret_bool ?_, (Gr.alloc _ _).trans (Gr.alloc _ _)⟩
    rw [HR.out, Bool.eq_iff_iff]
    simp only [Bool.or_eq_true, Bool.and_eq_true, decide_eq_true_eq, Bool.false_eq_true, false_iff, true_iff, beq_iff_eq, bne_iff_ne, ne_eq] at *
    omega
end Go.Proofs.Ytephkmahnbhmbaa
