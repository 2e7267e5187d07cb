/- Steps of sources that are not there. -/
import Derived.Test.YtcocliilapeelaaZ
namespace Go.Proofs.Ytcocliilapeelaa
open Go.ChangeShapes Go.WideShapes Go.ChangeAt Go.RowKit Go.Fl Ieee
attribute [local go_sem] run_store_float run_store_complex call38 call37 run_neg fold_eq fold_ne fold_lt fold_gt abs_eq

/-- What is asked, in a place of its own. -/
structure SN (w W : World) (K N S : Int) (X : Nat) : Prop where
  upp : Up w W
  row : W.heap[w.heap.size]? = some (.cells #[.int .i64 K, .int .i64 N, .int .u64 S, .float .f64 X] 30 (0, 0))
theorem SN.new (w : World) (K N S : Int) (X : Nat) : SN w (w.alloc (.cells #[.int .i64 K, .int .i64 N, .int .u64 S, .float .f64 X] 30)) K N S X := ⟨Up.alloc _ _, heap_alloc_last _ _⟩
theorem SN.up {w W W' : World} {K N S : Int} {X : Nat} (h : SN w W K N S X) (hu : Up W W') : SN w W' K N S X := by
  refine ⟨h.upp.trans hu, ?_⟩
  have hl : w.heap.size < W.heap.size := by
    have := h.row
    rcases Nat.lt_or_ge w.heap.size W.heap.size with h1 | h1
    · exact h1
    · rw [Array.getElem?_eq_none h1] at this; cases this
  exact (hu.block _ hl).trans h.row
theorem SN.drew {w W : World} {K N S : Int} {X : Nat} (h : SN w W K N S X) : SN w W.drew K N S X := h.up (Up.drewN W 1)
theorem SN.cells {w W : World} {K N S : Int} {X : Nat} (h : SN w W K N S X) : W.cell? ⟨w.heap.size, 0, none⟩ = some (.int .i64 K) ∧ W.cell? ⟨w.heap.size, 1, none⟩ = some (.int .i64 N) ∧ W.cell? ⟨w.heap.size, 2, none⟩ = some (.int .u64 S) ∧ W.cell? ⟨w.heap.size, 3, none⟩ = some (.float .f64 X) := by
  have hh := h.row
  refine ⟨?_, ?_, ?_, ?_⟩ <;> (rw [cell_of_row _ _ _ _ _ _ hh]; rfl)
set_option maxHeartbeats 2000000 in
theorem z0 (w : World) (N S : Int) (X : Nat) : Calls Try.prog 10 #[.pointer none, .pointer none, .agg #[.int .i64 0, .int .i64 N, .int .u64 S, .float .f64 X]] w (TU w) := by
  have H := SN.new w 0 N S X
  obtain ⟨c0, c1, c2, c3⟩ := H.cells
  have HS : Hid (SN w (w.alloc (.cells #[.int .i64 0, .int .i64 N, .int .u64 S, .float .f64 X] 30)) 0 N S X) := H
  clear H
  go_enter Try.func10, Try.ntmps10
  go_wp2_with (first
    | (go_at_call 13; (with_reducible refine (t13n _).mono ?_); rintro e w' ⟨rfl, hw⟩; subst w')
    | (go_at_call 23; (with_reducible refine (t23n _).mono ?_); rintro e w' ⟨rfl, hw⟩; subst w'))
  go_ret
  exact ⟨rfl, HS.out.upp⟩
set_option maxHeartbeats 2000000 in
theorem z1 (w : World) (N S : Int) (X : Nat) : Calls Try.prog 10 #[.pointer none, .pointer none, .agg #[.int .i64 1, .int .i64 N, .int .u64 S, .float .f64 X]] w (TU w) := by
  have H := SN.new w 1 N S X
  obtain ⟨c0, c1, c2, c3⟩ := H.cells
  have HS : Hid (SN w (w.alloc (.cells #[.int .i64 1, .int .i64 N, .int .u64 S, .float .f64 X] 30)) 1 N S X) := H
  clear H
  go_enter Try.func10, Try.ntmps10
  go_wp2_with (first
    | (go_at_call 18; (with_reducible refine (t18n (w.alloc (.cells #[.int .i64 1, .int .i64 N, .int .u64 S, .float .f64 X] 30))).mono ?_); rintro e w1 ⟨rfl, u1⟩; have H1 : Hid (SN w w1 1 N S X) := HS.out.up u1.out)
    | (go_at_call 25; (with_reducible refine (t25n w1).mono ?_); rintro e w2 ⟨rfl, u2⟩; have H2 : Hid (SN w w2 1 N S X) := H1.out.up u2.out)
    | (go_at_call 24; (with_reducible refine (t24t rfl _).mono ?_); rintro e w' ⟨rfl, hw⟩; subst w'))
  go_ret
  exact ⟨rfl, H2.out.upp⟩
set_option maxHeartbeats 2000000 in
theorem z2 (w : World) (N S : Int) (X : Nat) : Calls Try.prog 10 #[.pointer none, .pointer none, .agg #[.int .i64 2, .int .i64 N, .int .u64 S, .float .f64 X]] w (TU w) := by
  have H := SN.new w 2 N S X
  obtain ⟨c0, c1, c2, c3⟩ := H.cells
  have HS : Hid (SN w (w.alloc (.cells #[.int .i64 2, .int .i64 N, .int .u64 S, .float .f64 X] 30)) 2 N S X) := H
  clear H
  go_enter Try.func10, Try.ntmps10
  go_wp2_with (first
    | (go_at_call 15; (with_reducible refine (t15n _).mono ?_); rintro e w' ⟨rfl, hw⟩; subst w')
    | (go_at_call 26; (with_reducible refine (t26n _).mono ?_); rintro e w' ⟨rfl, hw⟩; subst w')
    | (go_at_call 24; (with_reducible refine (t24t rfl _).mono ?_); rintro e w' ⟨rfl, hw⟩; subst w'))
  go_ret
  exact ⟨rfl, HS.out.upp⟩
set_option maxHeartbeats 2000000 in
theorem z3 (w : World) (N S : Int) (X : Nat) : Calls Try.prog 10 #[.pointer none, .pointer none, .agg #[.int .i64 3, .int .i64 N, .int .u64 S, .float .f64 X]] w (TU w) := by
  have H := SN.new w 3 N S X
  obtain ⟨c0, c1, c2, c3⟩ := H.cells
  have HS : Hid (SN w (w.alloc (.cells #[.int .i64 3, .int .i64 N, .int .u64 S, .float .f64 X] 30)) 3 N S X) := H
  clear H
  go_enter Try.func10, Try.ntmps10
  go_wp2_with fail
  generalize w.alloc (.cells #[.int .i64 3, .int .i64 N, .int .u64 S, .float .f64 X] 30) = w1 at *
  generalize eg : w.heap.size = g at *
  go_region_held3 (fun w' => w'.cell? ⟨g, 3, none⟩ = some (.float .f64 X))
    (first
      | go_keep
      | exact cell_up (by assumption) u2.out
      | exact cell_up (by assumption) u3.out
      | exact cell_up (by assumption) u4.out)
    (first
      | (go_at_call 22; (with_reducible refine (t22n X w1.drew).mono ?_); rintro e w' ⟨rfl, hw⟩; subst w')
      | (go_at_call 28; (with_reducible refine (t28 0 0 w1.drew).mono ?_); rintro e w2 ⟨rfl, u2⟩; have H2 : Hid (SN w w2 3 N S X) := HS.out.drew.up u2.out)
      | (go_at_call 29; (with_reducible refine (t29n X w2).mono ?_); rintro e w3 ⟨rfl, u3⟩; have H3 : Hid (SN w w3 3 N S X) := H2.out.up u3.out)
      | (go_at_call 27; (with_reducible refine (t27t w3 rfl rfl).mono ?_); rintro e w4 ⟨rfl, u4⟩; have H4 : Hid (SN w w4 3 N S X) := H3.out.up u4.out))
  all_goals (try go_wp2)
  all_goals (go_ret; exact ⟨rfl, H4.out.upp⟩)
set_option maxHeartbeats 2000000 in
theorem z4 (w : World) (N S : Int) (X : Nat) : Calls Try.prog 10 #[.pointer none, .pointer none, .agg #[.int .i64 4, .int .i64 N, .int .u64 S, .float .f64 X]] w (TU w) := by
  have H := SN.new w 4 N S X
  obtain ⟨c0, c1, c2, c3⟩ := H.cells
  have HS : Hid (SN w (w.alloc (.cells #[.int .i64 4, .int .i64 N, .int .u64 S, .float .f64 X] 30)) 4 N S X) := H
  clear H
  go_enter Try.func10, Try.ntmps10
  go_wp2_with (go_at_call 16; (with_reducible refine (t16n N X _).mono ?_); rintro e w' ⟨rfl, hw⟩; subst w')
  generalize w.alloc (.cells #[.int .i64 4, .int .i64 N, .int .u64 S, .float .f64 X] 30) = w1 at *
  generalize eg : w.heap.size = g at *
  go_region_held3 (fun w' => w'.cell? ⟨g, 1, none⟩ = some (.int .i64 N) ∧ w'.cell? ⟨g, 3, none⟩ = some (.float .f64 X))
    (first
      | go_keep
      | (go_split_ands; refine ⟨cell_up ?_ u2.out, cell_up ?_ u2.out⟩ <;> assumption)
      | (go_split_ands; refine ⟨cell_up ?_ u4.out, cell_up ?_ u4.out⟩ <;> assumption))
    (first
      | (go_at_call 31; (with_reducible refine (t31z w1.drew).mono ?_); rintro e w2 ⟨v1, rfl, r1, u2⟩; have H2 : Hid (SN w w2 4 N S X) := HS.out.drew.up u2.out)
      | (go_at_call 32; (with_reducible refine (t32n N X w2).mono ?_); rintro e w' ⟨rfl, hw⟩; subst w')
      | (go_at_call 30; (with_reducible refine (t30z r1.out).mono ?_); rintro e w4 ⟨rfl, u4⟩; have H4 : Hid (SN w w4 4 N S X) := H2.out.up u4.out))
  all_goals (try go_wp2)
  all_goals
    go_loopw [9, 64] (fun _ i wr => i = .int .i64 0 ∧ Hid (SN w wr 4 N S X)) (fun _ i _ => 0)
    case atStart => exact ⟨rfl, H4⟩
    case round =>
      clear H4
      obtain ⟨rfl, HT⟩ := hrel
      go_wp2
      go_ret
      exact ⟨rfl, HT.out.upp⟩
set_option maxHeartbeats 2000000 in
theorem z5 (w : World) (N S : Int) (X : Nat) : Calls Try.prog 10 #[.pointer none, .pointer none, .agg #[.int .i64 5, .int .i64 N, .int .u64 S, .float .f64 X]] w (TU w) := by
  have H := SN.new w 5 N S X
  obtain ⟨c0, c1, c2, c3⟩ := H.cells
  have HS : Hid (SN w (w.alloc (.cells #[.int .i64 5, .int .i64 N, .int .u64 S, .float .f64 X] 30)) 5 N S X) := H
  clear H
  go_enter Try.func10, Try.ntmps10
  go_wp2_with (first
    | (go_at_call 14; (with_reducible refine (t14n _ _).mono ?_); rintro e w' ⟨rfl, hw⟩; subst w')
    | (go_at_call 33; (with_reducible refine (t33n _ _).mono ?_); rintro e w' ⟨rfl, hw⟩; subst w')
    | (go_at_call 11; (with_reducible refine (t11n _).mono ?_); rintro e w' ⟨rfl, hw⟩; subst w')
    | (go_at_call 12; (with_reducible refine (t12n _).mono ?_); rintro e w' ⟨rfl, hw⟩; subst w'))
  go_ret
  exact ⟨rfl, HS.out.upp⟩
set_option maxHeartbeats 2000000 in
theorem z6 (w : World) (K : Int) (N S : Int) (X : Nat) (h0 : (K == 0) = false) (h1 : (K == 1) = false) (h2 : (K == 2) = false) (h3 : (K == 3) = false) (h4 : (K == 4) = false) (h5 : (K == 5) = false) : Calls Try.prog 10 #[.pointer none, .pointer none, .agg #[.int .i64 K, .int .i64 N, .int .u64 S, .float .f64 X]] w (TU w) := by
  have H := SN.new w K N S X
  obtain ⟨c0, c1, c2, c3⟩ := H.cells
  have HS : Hid (SN w (w.alloc (.cells #[.int .i64 K, .int .i64 N, .int .u64 S, .float .f64 X] 30)) K N S X) := H
  clear H
  go_enter Try.func10, Try.ntmps10
  go_wp2_with (first
    | (go_at_call 11; (with_reducible refine (t11n _).mono ?_); rintro e w' ⟨rfl, hw⟩; subst w')
    | (go_at_call 12; (with_reducible refine (t12n _).mono ?_); rintro e w' ⟨rfl, hw⟩; subst w'))
  go_ret
  exact ⟨rfl, HS.out.upp⟩
theorem t10n (w : World) (K N S : Int) (X : Nat) : Calls Try.prog 10 #[.pointer none, .pointer none, .agg #[.int .i64 K, .int .i64 N, .int .u64 S, .float .f64 X]] w (TU w) := by
  by_cases h0 : K = 0
  · subst h0; exact z0 w N S X
  by_cases h1 : K = 1
  · subst h1; exact z1 w N S X
  by_cases h2 : K = 2
  · subst h2; exact z2 w N S X
  by_cases h3 : K = 3
  · subst h3; exact z3 w N S X
  by_cases h4 : K = 4
  · subst h4; exact z4 w N S X
  by_cases h5 : K = 5
  · subst h5; exact z5 w N S X
  exact z6 w K N S X (by simpa using h0) (by simpa using h1) (by simpa using h2) (by simpa using h3) (by simpa using h4) (by simpa using h5)
end Go.Proofs.Ytcocliilapeelaa
