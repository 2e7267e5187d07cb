/- The document's Angle and From. -/
import Derived.Test.YtlgejebgkkmacaaPf
import Derived.Deep.CutRange
namespace Go.Proofs.Ytlgejebgkkmacaa
open Go.ChangeShapes Go.WideShapes Go.ChangeAt Go.RowKit Go.Fl Ieee
attribute [local go_sem] run_store_float run_store_complex call39 call50 run_neg fold_eq fold_ne fold_lt fold_gt abs_eq

set_option maxHeartbeats 4000000 in
theorem t36 (a b : Nat) (w : World) : Calls Try.prog 36 #[.agg #[.float .f64 a, .float .f64 b]] w (FU w (angleF (ab a) (ab b))) := by
  cases e1 : eqF (ab a) (ab a)
  · rw [angle_nf (Or.inl (by unfold fin; rw [e1]; rfl))]
    replace e1 : Hid (eqF (ab a) (ab a) = !true) := e1
    have e2 := e1
    have g1 : Hid True := trivial
    have g2 := g1
    go_enter Try.func36, Try.ntmps36
    go_wp2_with (first
      | (go_at_call 40; (with_reducible refine (t40k e1.out _).mono ?_); rintro e w' ⟨rfl, rfl⟩)
      | (go_at_call 40; (with_reducible refine (t40k e2.out _).mono ?_); rintro e w' ⟨rfl, rfl⟩)
      | (go_at_call 41; (with_reducible refine (t41k g1.out _).mono ?_); rintro e w' ⟨rfl, rfl⟩)
      | (go_at_call 41; (with_reducible refine (t41k g2.out _).mono ?_); rintro e w' ⟨rfl, rfl⟩)
      | (go_at_call 27; (with_reducible refine (t27 _).mono ?_); rintro e w' ⟨rfl, rfl⟩))
    go_ret
    exact FU.mk rfl (Up.alloc _ _)
  · replace e1 : Hid (eqF (ab a) (ab a) = !false) := e1
    cases g1 : gtF ((ab a).map abs) (ab 9218868437227405311)
    · replace g1 : Hid _ := g1
      cases e2 : eqF (ab b) (ab b)
      · rw [angle_nf (Or.inr (by unfold fin; rw [e2]; rfl))]
        replace e2 : Hid (eqF (ab b) (ab b) = !true) := e2
        have g2 : Hid True := trivial
        go_enter Try.func36, Try.ntmps36
        go_wp2_with (first
          | (go_at_call 40; (with_reducible refine (t40k e1.out _).mono ?_); rintro e w' ⟨rfl, rfl⟩)
          | (go_at_call 40; (with_reducible refine (t40k e2.out _).mono ?_); rintro e w' ⟨rfl, rfl⟩)
          | (go_at_call 41; (with_reducible refine (t41k g1.out _).mono ?_); rintro e w' ⟨rfl, rfl⟩)
          | (go_at_call 41; (with_reducible refine (t41k g2.out _).mono ?_); rintro e w' ⟨rfl, rfl⟩)
          | (go_at_call 27; (with_reducible refine (t27 _).mono ?_); rintro e w' ⟨rfl, rfl⟩))
        go_ret
        exact FU.mk rfl (Up.alloc _ _)
      · replace e2 : Hid (eqF (ab b) (ab b) = !false) := e2
        cases g2 : gtF ((ab b).map abs) (ab 9218868437227405311)
        · exact t36f a b w e1 e2 g1 g2
        · rw [angle_nf (Or.inr (by unfold fin; rw [g2, Bool.not_true, Bool.and_false]))]
          replace g2 : Hid _ := g2
          go_enter Try.func36, Try.ntmps36
          go_wp2_with (first
            | (go_at_call 40; (with_reducible refine (t40k e1.out _).mono ?_); rintro e w' ⟨rfl, rfl⟩)
            | (go_at_call 40; (with_reducible refine (t40k e2.out _).mono ?_); rintro e w' ⟨rfl, rfl⟩)
            | (go_at_call 41; (with_reducible refine (t41k g1.out _).mono ?_); rintro e w' ⟨rfl, rfl⟩)
            | (go_at_call 41; (with_reducible refine (t41k g2.out _).mono ?_); rintro e w' ⟨rfl, rfl⟩)
            | (go_at_call 27; (with_reducible refine (t27 _).mono ?_); rintro e w' ⟨rfl, rfl⟩))
          go_ret
          exact FU.mk rfl (Up.alloc _ _)
    · rw [angle_nf (Or.inl (by unfold fin; rw [g1, Bool.not_true, Bool.and_false]))]
      replace g1 : Hid _ := g1
      have e2 : Hid True := trivial
      have g2 := e2
      go_enter Try.func36, Try.ntmps36
      go_wp2_with (first
        | (go_at_call 40; (with_reducible refine (t40k e1.out _).mono ?_); rintro e w' ⟨rfl, rfl⟩)
        | (go_at_call 40; (with_reducible refine (t40k e2.out _).mono ?_); rintro e w' ⟨rfl, rfl⟩)
        | (go_at_call 41; (with_reducible refine (t41k g1.out _).mono ?_); rintro e w' ⟨rfl, rfl⟩)
        | (go_at_call 41; (with_reducible refine (t41k g2.out _).mono ?_); rintro e w' ⟨rfl, rfl⟩)
        | (go_at_call 27; (with_reducible refine (t27 _).mono ?_); rintro e w' ⟨rfl, rfl⟩))
      go_ret
      exact FU.mk rfl (Up.alloc _ _)
theorem fromCells {w1 v : World} {r i : Nat} (hu : Up (w1.alloc (.cells #[.float .f64 r, .float .f64 i] 53)) v) : v.cell? ⟨w1.heap.size, 0, none⟩ = some (.float .f64 r) ∧ v.cell? ⟨w1.heap.size, 1, none⟩ = some (.float .f64 i) := by
  have h := kept2 (heap_alloc_last w1 (.cells #[.float .f64 r, .float .f64 i] 53)) hu
  obtain ⟨a, b, _, _⟩ := facts2 h
  exact ⟨a, b⟩
set_option maxHeartbeats 4000000 in
theorem t10 (x y : Nat) (w : World) : Calls Try.prog 10 #[.agg #[.float .f64 x, .float .f64 y]] w (F2 w (absF (ab y) (ab x)) (upF (angleF (ab y) (ab x)))) := by
  go_enter Try.func10, Try.ntmps10
  go_upto_region 2 with (first
    | (go_at_call 33; (with_reducible refine (t33 _ _ _).mono ?_); rintro e w1 ⟨r, i, rfl, hr, hi, hb⟩))
  refine wp_region_up 5 [cV (.agg #[.float .f64 r, .float .f64 i]), cF (absF (ab y) (ab x)), cV (.agg #[.float .f64 r, .float .f64 i]), cF (angleF (ab y) (ab x)), cF (upF (angleF (ab y) (ab x)))] (by kernel_rfl) (by decide) rfl (by kernel_rfl) (by kernel_rfl) ⟨mV _, mF _, mV _, mF _, mF _, trivial⟩ ?_
  intro vals
  simp only [List.take_succ_cons, List.take_zero, valsN, FillL, Act.put, List.setIfInBounds_toArray, List.set_cons_succ, List.set_cons_zero, Nat.zero_add, Nat.reduceAdd]
  refine ⟨⟨fun v hu h => ?_, fun v hu h => ?_, fun v hu h => ?_, fun v hu h => ?_, fun v hu h => ?_, trivial⟩, fun v hu h => ?_⟩
  all_goals obtain ⟨c0, c1⟩ := fromCells hu
  · refine UpO.is _ rfl rfl ?_
    go_simp
  · have e0 : vals 0 = .agg #[.float .f64 r, .float .f64 i] := h 0 (by decide) (by kernel_rfl)
    refine UpO.call #[.agg #[.float .f64 r, .float .f64 i]] rfl rfl (by rw [e0]; kernel_rfl) (enters Try.func34 (by kernel_rfl) (by kernel_rfl) _ _) ?_
    rw [← hr.out, ← hi.out]
    exact (t34 _ _ _).mono fu_cF
  · refine UpO.is _ rfl rfl ?_
    go_simp
  · have e2 : vals 2 = .agg #[.float .f64 r, .float .f64 i] := h 2 (by decide) (by kernel_rfl)
    refine UpO.call #[.agg #[.float .f64 r, .float .f64 i]] rfl rfl (by rw [e2]; kernel_rfl) (enters Try.func36 (by kernel_rfl) (by kernel_rfl) _ _) ?_
    rw [← hr.out, ← hi.out]
    exact (t36 _ _ _).mono fu_cF
  · obtain ⟨r3, e3, hr3⟩ : cF (angleF (ab y) (ab x)) (vals 3) v := h 3 (by decide) (by kernel_rfl)
    refine UpO.call #[.float .f64 r3] rfl rfl (by rw [e3]; kernel_rfl) (enters Try.func35 (by kernel_rfl) (by kernel_rfl) _ _) ?_
    rw [← hr3.out]
    exact (t35 _ _).mono fr_cF
  · obtain ⟨r1, e1, hr1⟩ : cF (absF (ab y) (ab x)) (vals 1) v := h 1 (by decide)
    obtain ⟨r4, e4, hr4⟩ : cF (upF (angleF (ab y) (ab x))) (vals 4) v := h 4 (by decide)
    rw [e1, e4]
    simp only [List.drop_succ_cons, List.drop_zero]
    replace hu : Hid _ := hu
    clear h e1 e4
    go_wp2
    exact bodyPost_ret (results_tmp2 Try.results10 _ _ _) rfl ⟨_, _, rfl, hr1, hr4, ((Up.alloc _ _).trans hb).trans ((Up.alloc _ _).trans hu.out)⟩
end Go.Proofs.Ytlgejebgkkmacaa
