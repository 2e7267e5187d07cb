/- The walk of GateNear. -/
import Derived.Test.YtcekbnjgdgapgaaLk
import Derived.Test.YtcekbnjgdgapgaaNb
namespace Go.Proofs.Ytcekbnjgdgapgaa
open Go.ChangeShapes Go.WideShapes Go.ChangeAt Go.RowKit Go.Fl Ieee
attribute [local go_sem] run_store_float call36 call37 run_neg fold_eq fold_ne fold_lt fold_gt abs_eq

theorem md_of {c : Nat} (h : goodF (ab c) = true) (hb : ((gtF (ab c) (ab 4562254508917369340) || eqF (ab c) (ab 4562254508917369340)) && (ltF (ab c) (ab 4741671816366391296) || eqF (ab c) (ab 4741671816366391296))) = true) : Md c := by
  obtain ⟨f, p⟩ := good_val h
  have f1 : Fnt 4562254508917369340 := by unfold Fnt; decide
  have f2 : Fnt 4741671816366391296 := by unfold Fnt; decide
  have v1 : (1 : Rat) / 1001 ≤ val 4562254508917369340 := by decide +kernel
  have v2 : val 4741671816366391296 ≤ 1000000000 := by decide +kernel
  rw [gtF_val f f1, eqF_val f f1, ltF_val f f2, eqF_val f f2] at hb
  simp only [Bool.and_eq_true, Bool.or_eq_true, decide_eq_true_eq] at hb
  exact ⟨f, by grind, by grind⟩
set_option maxRecDepth 100000 in
set_option maxHeartbeats 1000000 in
theorem t7no (c v r : Nat) (E R k : Int) (w : World) (h : checkF (ab c) (ab v) (ab r) E R ≠ 0 ∨ ((gtF (ab c) (ab 4562254508917369340) || eqF (ab c) (ab 4562254508917369340)) && (ltF (ab c) (ab 4741671816366391296) || eqF (ab c) (ab 4741671816366391296))) = false ∨ ((gtF (ab v) (ab 4562254508917369340) || eqF (ab v) (ab 4562254508917369340)) && (ltF (ab v) (ab 4741671816366391296) || eqF (ab v) (ab 4741671816366391296))) = false ∨ ((gtF (ab r) (ab 4562254508917369340) || eqF (ab r) (ab 4562254508917369340)) && (ltF (ab r) (ab 4741671816366391296) || eqF (ab r) (ab 4741671816366391296))) = false) : Calls Try.prog 7 #[.agg #[.float .f64 c, .float .f64 v, .float .f64 r, .int .i64 E, .int .i64 R], .int .i64 k] w (TU w) := by
  have H9 : Hid (∀ w, Calls Try.prog 9 #[.agg #[.float .f64 c, .float .f64 v, .float .f64 r, .int .i64 E, .int .i64 R]] w (IU w (checkF (ab c) (ab v) (ab r) E R))) := fun w => t9 c v r E R w
  have HB := BC.new w c v r E R
  have HU : Hid (Up w (w.alloc (.cells #[.float .f64 c, .float .f64 v, .float .f64 r, .int .i64 E, .int .i64 R] 24))) := Up.alloc _ _
  obtain ⟨b0, b1, b2, b3, b4⟩ := HB
  by_cases hk : checkF (ab c) (ab v) (ab r) E R = 0
  · replace h := h.resolve_left (by simp [hk])
    rw [hk] at H9
    clear hk
    cases hc : ((gtF (ab c) (ab 4562254508917369340) || eqF (ab c) (ab 4562254508917369340)) && (ltF (ab c) (ab 4741671816366391296) || eqF (ab c) (ab 4741671816366391296)))
    · clear h
      go_enter Try.func7, Try.ntmps7
      go_wp2_with (first
        | (go_at_call 16; (with_reducible refine (t16 _).mono ?_); rintro e w0 ⟨rfl, u0⟩; have a0 := up_cell u0.out (by first | exact b0 | exact c0); have a1 := up_cell u0.out (by first | exact b1 | exact c1); have a2 := up_cell u0.out (by first | exact b2 | exact c2); have a3 := up_cell u0.out (by first | exact b3 | exact c3); have a4 := up_cell u0.out (by first | exact b4 | exact c4); replace HU := uph HU u0)
        | (go_at_call 9; (with_reducible refine (H9.out _).mono ?_); rintro e w1 ⟨rfl, u1⟩; have c0 := up_cell u1.out (by first | exact a0); have c1 := up_cell u1.out (by first | exact a1); have c2 := up_cell u1.out (by first | exact a2); have c3 := up_cell u1.out (by first | exact a3); have c4 := up_cell u1.out (by first | exact a4); replace HU := (by first | exact uph HU u1 | exact uph (uph HU (Up.drew _)) u1 | exact uph (uph HU (Up.drewN _ _)) u1 : Hid (Up w w1)))
        | (go_at_call 23; (with_reducible refine (t23 _ _ _ _).mono ?_); rintro e w' ⟨rfl, rfl⟩))
      go_ret
      exact ⟨rfl, HU⟩
    · cases hv : ((gtF (ab v) (ab 4562254508917369340) || eqF (ab v) (ab 4562254508917369340)) && (ltF (ab v) (ab 4741671816366391296) || eqF (ab v) (ab 4741671816366391296)))
      · clear h
        go_enter Try.func7, Try.ntmps7
        go_wp2_with (first
          | (go_at_call 16; (with_reducible refine (t16 _).mono ?_); rintro e w0 ⟨rfl, u0⟩; have a0 := up_cell u0.out (by first | exact b0 | exact c0); have a1 := up_cell u0.out (by first | exact b1 | exact c1); have a2 := up_cell u0.out (by first | exact b2 | exact c2); have a3 := up_cell u0.out (by first | exact b3 | exact c3); have a4 := up_cell u0.out (by first | exact b4 | exact c4); replace HU := uph HU u0)
          | (go_at_call 9; (with_reducible refine (H9.out _).mono ?_); rintro e w1 ⟨rfl, u1⟩; have c0 := up_cell u1.out (by first | exact a0); have c1 := up_cell u1.out (by first | exact a1); have c2 := up_cell u1.out (by first | exact a2); have c3 := up_cell u1.out (by first | exact a3); have c4 := up_cell u1.out (by first | exact a4); replace HU := (by first | exact uph HU u1 | exact uph (uph HU (Up.drew _)) u1 | exact uph (uph HU (Up.drewN _ _)) u1 : Hid (Up w w1)))
          | (go_at_call 23; (with_reducible refine (t23 _ _ _ _).mono ?_); rintro e w' ⟨rfl, rfl⟩))
        go_ret
        exact ⟨rfl, HU⟩
      · have hr : ((gtF (ab r) (ab 4562254508917369340) || eqF (ab r) (ab 4562254508917369340)) && (ltF (ab r) (ab 4741671816366391296) || eqF (ab r) (ab 4741671816366391296))) = false := by
          rcases h with h | h | h
          · rw [hc] at h; cases h
          · rw [hv] at h; cases h
          · exact h
        clear h
        go_enter Try.func7, Try.ntmps7
        go_wp2_with (first
          | (go_at_call 16; (with_reducible refine (t16 _).mono ?_); rintro e w0 ⟨rfl, u0⟩; have a0 := up_cell u0.out (by first | exact b0 | exact c0); have a1 := up_cell u0.out (by first | exact b1 | exact c1); have a2 := up_cell u0.out (by first | exact b2 | exact c2); have a3 := up_cell u0.out (by first | exact b3 | exact c3); have a4 := up_cell u0.out (by first | exact b4 | exact c4); replace HU := uph HU u0)
          | (go_at_call 9; (with_reducible refine (H9.out _).mono ?_); rintro e w1 ⟨rfl, u1⟩; have c0 := up_cell u1.out (by first | exact a0); have c1 := up_cell u1.out (by first | exact a1); have c2 := up_cell u1.out (by first | exact a2); have c3 := up_cell u1.out (by first | exact a3); have c4 := up_cell u1.out (by first | exact a4); replace HU := (by first | exact uph HU u1 | exact uph (uph HU (Up.drew _)) u1 | exact uph (uph HU (Up.drewN _ _)) u1 : Hid (Up w w1)))
          | (go_at_call 23; (with_reducible refine (t23 _ _ _ _).mono ?_); rintro e w' ⟨rfl, rfl⟩))
        go_ret
        exact ⟨rfl, HU⟩
  · generalize checkF (ab c) (ab v) (ab r) E R = q at *
    clear h
    go_enter Try.func7, Try.ntmps7
    go_wp2_with (first
      | (go_at_call 16; (with_reducible refine (t16 _).mono ?_); rintro e w0 ⟨rfl, u0⟩; have a0 := up_cell u0.out (by first | exact b0 | exact c0); have a1 := up_cell u0.out (by first | exact b1 | exact c1); have a2 := up_cell u0.out (by first | exact b2 | exact c2); have a3 := up_cell u0.out (by first | exact b3 | exact c3); have a4 := up_cell u0.out (by first | exact b4 | exact c4); replace HU := uph HU u0)
      | (go_at_call 9; (with_reducible refine (H9.out _).mono ?_); rintro e w1 ⟨rfl, u1⟩; have c0 := up_cell u1.out (by first | exact a0); have c1 := up_cell u1.out (by first | exact a1); have c2 := up_cell u1.out (by first | exact a2); have c3 := up_cell u1.out (by first | exact a3); have c4 := up_cell u1.out (by first | exact a4); replace HU := (by first | exact uph HU u1 | exact uph (uph HU (Up.drew _)) u1 | exact uph (uph HU (Up.drewN _ _)) u1 : Hid (Up w w1)))
      | (go_at_call 23; (with_reducible refine (t23 _ _ _ _).mono ?_); rintro e w' ⟨rfl, rfl⟩))
    go_ret
    exact ⟨rfl, HU⟩
set_option maxRecDepth 100000 in
set_option maxHeartbeats 1000000 in
theorem t7yes (c v r : Nat) (E R k : Int) (w : World) (hk : checkF (ab c) (ab v) (ab r) E R = 0) (hc : ((gtF (ab c) (ab 4562254508917369340) || eqF (ab c) (ab 4562254508917369340)) && (ltF (ab c) (ab 4741671816366391296) || eqF (ab c) (ab 4741671816366391296))) = true) (hv : ((gtF (ab v) (ab 4562254508917369340) || eqF (ab v) (ab 4562254508917369340)) && (ltF (ab v) (ab 4741671816366391296) || eqF (ab v) (ab 4741671816366391296))) = true) (hr : ((gtF (ab r) (ab 4562254508917369340) || eqF (ab r) (ab 4562254508917369340)) && (ltF (ab r) (ab 4741671816366391296) || eqF (ab r) (ab 4741671816366391296))) = true) : Calls Try.prog 7 #[.agg #[.float .f64 c, .float .f64 v, .float .f64 r, .int .i64 E, .int .i64 R], .int .i64 k] w (TU w) := by
  have hKo := check0 hk
  have hR1 := hKo.r1
  have hR2 := hKo.r2
  have H9 : Hid (∀ w, Calls Try.prog 9 #[.agg #[.float .f64 c, .float .f64 v, .float .f64 r, .int .i64 E, .int .i64 R]] w (IU w 0)) := fun w => by rw [← hk]; exact t9 c v r E R w
  have j1 : -R < k.tmod R := by
    have := Int.natAbs_tmod k R
    have h2 : k.natAbs % R.natAbs < R.natAbs := Nat.mod_lt _ (by omega)
    omega
  have j2 : k.tmod R < R := Int.tmod_lt_of_pos k (by omega)
  obtain ⟨K, hK⟩ : ∃ K, k.tmod R = K := ⟨_, rfl⟩
  rw [hK] at j1 j2
  have HB := BC.new w c v r E R
  have HU : Hid (Up w (w.alloc (.cells #[.float .f64 c, .float .f64 v, .float .f64 r, .int .i64 E, .int .i64 R] 24))) := Up.alloc _ _
  obtain ⟨b0, b1, b2, b3, b4⟩ := HB
  by_cases h3 : R ≤ 2 * K
  · clear hk hKo
    go_enter Try.func7, Try.ntmps7
    go_wp2_with (first
      | (go_at_call 16; (with_reducible refine (t16 _).mono ?_); rintro e w0 ⟨rfl, u0⟩; have a0 := up_cell u0.out (by first | exact b0 | exact c0); have a1 := up_cell u0.out (by first | exact b1 | exact c1); have a2 := up_cell u0.out (by first | exact b2 | exact c2); have a3 := up_cell u0.out (by first | exact b3 | exact c3); have a4 := up_cell u0.out (by first | exact b4 | exact c4); replace HU := uph HU u0)
      | (go_at_call 9; (with_reducible refine (H9.out _).mono ?_); rintro e w1 ⟨rfl, u1⟩; have c0 := up_cell u1.out (by first | exact a0); have c1 := up_cell u1.out (by first | exact a1); have c2 := up_cell u1.out (by first | exact a2); have c3 := up_cell u1.out (by first | exact a3); have c4 := up_cell u1.out (by first | exact a4); replace HU := (by first | exact uph HU u1 | exact uph (uph HU (Up.drew _)) u1 | exact uph (uph HU (Up.drewN _ _)) u1 : Hid (Up w w1)))
      | (go_at_call 23; (with_reducible refine (t23 _ _ _ _).mono ?_); rintro e w' ⟨rfl, rfl⟩))
    go_ret
    exact ⟨rfl, HU⟩
  · by_cases h4 : 2 * K ≤ -R
    · clear hk hKo
      go_enter Try.func7, Try.ntmps7
      go_wp2_with (first
        | (go_at_call 16; (with_reducible refine (t16 _).mono ?_); rintro e w0 ⟨rfl, u0⟩; have a0 := up_cell u0.out (by first | exact b0 | exact c0); have a1 := up_cell u0.out (by first | exact b1 | exact c1); have a2 := up_cell u0.out (by first | exact b2 | exact c2); have a3 := up_cell u0.out (by first | exact b3 | exact c3); have a4 := up_cell u0.out (by first | exact b4 | exact c4); replace HU := uph HU u0)
        | (go_at_call 9; (with_reducible refine (H9.out _).mono ?_); rintro e w1 ⟨rfl, u1⟩; have c0 := up_cell u1.out (by first | exact a0); have c1 := up_cell u1.out (by first | exact a1); have c2 := up_cell u1.out (by first | exact a2); have c3 := up_cell u1.out (by first | exact a3); have c4 := up_cell u1.out (by first | exact a4); replace HU := (by first | exact uph HU u1 | exact uph (uph HU (Up.drew _)) u1 | exact uph (uph HU (Up.drewN _ _)) u1 : Hid (Up w w1)))
        | (go_at_call 23; (with_reducible refine (t23 _ _ _ _).mono ?_); rintro e w' ⟨rfl, rfl⟩))
      go_ret
      exact ⟨rfl, HU⟩
    · obtain ⟨s, p, d, n1, n2, n3, n4, n5, n6⟩ := near_chain hk (md_of hKo.v hv) (md_of hKo.r hr) (K := K) (by omega) (by omega)
      have H19 : Hid (∀ w, Calls Try.prog 19 #[.agg #[.float .f64 c, .float .f64 v, .float .f64 r, .int .i64 E, .int .i64 R], .float .f64 (floatOfInt .f64 K)] w fun e w' => e = .returned (.tuple #[.float .f64 s, .int .i64 0]) ∧ Hid (Up w w')) := fun w => (t19 _ _ _ _ _ _ w).mono fun _ _ q => q.k n1
      have H17 : Hid (∀ w, Calls Try.prog 17 #[.agg #[.float .f64 c, .float .f64 v, .float .f64 r, .int .i64 E, .int .i64 R], .float .f64 s] w fun e w' => e = .returned (.tuple #[.float .f64 p, .int .i64 0]) ∧ Hid (Up w w')) := fun w => (t17 _ _ _ _ _ _ w).mono fun _ _ q => q.k n3
      have F1 : ∀ w : World, (binOp .sub 22 (.float .f64 p) (.float .f64 (floatOfInt .f64 K))).run Try.prog w = .ok (.float .f64 d) w := fun w => run_fl_some .sub 22 w n5
      clear hk hKo n1 n2 n3 n4 n5
      go_enter Try.func7, Try.ntmps7
      go_wp2_with (first
        | (go_at_call 16; (with_reducible refine (t16 _).mono ?_); rintro e w0 ⟨rfl, u0⟩; have a0 := up_cell u0.out (by first | exact b0 | exact c0); have a1 := up_cell u0.out (by first | exact b1 | exact c1); have a2 := up_cell u0.out (by first | exact b2 | exact c2); have a3 := up_cell u0.out (by first | exact b3 | exact c3); have a4 := up_cell u0.out (by first | exact b4 | exact c4); replace HU := uph HU u0)
        | (go_at_call 9; (with_reducible refine (H9.out _).mono ?_); rintro e w1 ⟨rfl, u1⟩; have c0 := up_cell u1.out (by first | exact a0); have c1 := up_cell u1.out (by first | exact a1); have c2 := up_cell u1.out (by first | exact a2); have c3 := up_cell u1.out (by first | exact a3); have c4 := up_cell u1.out (by first | exact a4); replace HU := (by first | exact uph HU u1 | exact uph (uph HU (Up.drew _)) u1 | exact uph (uph HU (Up.drewN _ _)) u1 : Hid (Up w w1)))
        | (go_at_call 23; (with_reducible refine (t23 _ _ _ _).mono ?_); rintro e w' ⟨rfl, rfl⟩)
        | (go_at_call 19; (with_reducible refine (H19.out _).mono ?_); rintro e w2 ⟨rfl, u2⟩; have d0 := up_cell u2.out (by first | exact c0); have d1 := up_cell u2.out (by first | exact c1); have d2 := up_cell u2.out (by first | exact c2); have d3 := up_cell u2.out (by first | exact c3); have d4 := up_cell u2.out (by first | exact c4); replace HU := (by first | exact uph HU u2 | exact uph (uph HU (Up.drew _)) u2 | exact uph (uph HU (Up.drewN _ _)) u2 : Hid (Up w w2)))
        | (go_at_call 17; (with_reducible refine (H17.out _).mono ?_); rintro e w3 ⟨rfl, u3⟩; have f0 := up_cell u3.out (by first | exact d0); have f1 := up_cell u3.out (by first | exact d1); have f2 := up_cell u3.out (by first | exact d2); have f3 := up_cell u3.out (by first | exact d3); have f4 := up_cell u3.out (by first | exact d4); replace HU := (by first | exact uph HU u3 | exact uph (uph HU (Up.drew _)) u3 | exact uph (uph HU (Up.drewN _ _)) u3 : Hid (Up w w3)))
        | (go_at_call 25; (with_reducible refine (t25 _ _).mono ?_); rintro e w' ⟨rfl, rfl⟩))
      all_goals go_ret
      all_goals exact ⟨rfl, HU⟩
theorem t7 (c v r : Nat) (E R k : Int) (w : World) : Calls Try.prog 7 #[.agg #[.float .f64 c, .float .f64 v, .float .f64 r, .int .i64 E, .int .i64 R], .int .i64 k] w (TU w) := by
  by_cases hk : checkF (ab c) (ab v) (ab r) E R = 0
  · cases hc : ((gtF (ab c) (ab 4562254508917369340) || eqF (ab c) (ab 4562254508917369340)) && (ltF (ab c) (ab 4741671816366391296) || eqF (ab c) (ab 4741671816366391296)))
    · exact t7no c v r E R k w (Or.inr (Or.inl hc))
    · cases hv : ((gtF (ab v) (ab 4562254508917369340) || eqF (ab v) (ab 4562254508917369340)) && (ltF (ab v) (ab 4741671816366391296) || eqF (ab v) (ab 4741671816366391296)))
      · exact t7no c v r E R k w (Or.inr (Or.inr (Or.inl hv)))
      · cases hr : ((gtF (ab r) (ab 4562254508917369340) || eqF (ab r) (ab 4562254508917369340)) && (ltF (ab r) (ab 4741671816366391296) || eqF (ab r) (ab 4741671816366391296)))
        · exact t7no c v r E R k w (Or.inr (Or.inr (Or.inr hr)))
        · exact t7yes c v r E R k w hk hc hv hr
  · exact t7no c v r E R k w (Or.inl hk)
end Go.Proofs.Ytcekbnjgdgapgaa
