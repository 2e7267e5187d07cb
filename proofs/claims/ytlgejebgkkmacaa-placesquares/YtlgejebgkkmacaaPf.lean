/- The document's Angle and From. -/
import Derived.Test.YtlgejebgkkmacaaPe
import Derived.Test.YtlgejebgkkmacaaLv
namespace Go.Proofs.Ytlgejebgkkmacaa
open Go.ChangeShapes Go.WideShapes Go.ChangeAt Go.RowKit Go.Fl Ieee
attribute [local go_sem] run_store_float run_store_complex call39 call50 run_neg fold_eq fold_ne fold_lt fold_gt abs_eq

theorem fold31t (g cap z : Nat) (w : World) (h : Hid (∀ i, i < 24 → w.cell? ⟨g, 0 + i, none⟩ = some (.float .f64 (tangentL.getD i 0)))) : Calls Try.prog 62 #[.slice (some ⟨g, 0, none⟩) 24 cap, .float .f64 z] w (FR w (foldF tangentL (ab z))) :=
  t62 tangentL 23 g 0 cap z w rfl (by omega) h
theorem t59 (x : Nat) (w : World) : Calls Try.prog 59 #[.float .f64 x] w (FU w (partF (ab x))) := by
  go_enter Try.func59, Try.ntmps59
  go_wp2_with (first
    | ((with_reducible refine upon_fl (by simp) ?_); intro r n hr)
    | (go_at_call 63; (with_reducible refine (t63t _).mono ?_); rintro e w1 ⟨g, cap, rfl, hS, hb1⟩)
    | (go_at_call 62; (with_reducible refine (fold31t _ _ _ _ hS).mono ?_); rintro e w' ⟨r, n, rfl, rfl, hr⟩))
  go_ret
  refine FU.mk ?_ (((Up.drewN _ _).trans hb1).trans (Up.drewN _ _))
  simp_all [partF, Hid]
theorem zero_abs (x : Nat) : eqF (ab (abs x)) (ab 0) = eqF (ab x) (ab 0) := by
  have h0 : isN 0 = false := by decide +kernel
  rw [ab_some h0]
  cases h : isN x
  · rw [ab_some h, ab_some (by rw [isN_abs]; exact h), eqF_lin (by rw [isN_abs]; exact h) h0, eqF_lin h h0, Bool.eq_iff_iff]
    simp only [decide_eq_true_eq]
    unfold lin sgn Go.Fl.abs
    have e1 : x % 2 ^ 63 / 2 ^ 63 % 2 = 0 := by omega
    rw [e1]
    cases (x / 2 ^ 63 % 2 == 1) <;> simp <;> omega
  · have : ab x = none := by unfold ab; rw [if_pos h]
    have h' : ab (abs x) = none := by unfold ab; rw [if_pos (by rw [isN_abs]; exact h)]
    rw [this, h']
theorem angle_nf {x y : Option Nat} (h : fin x = false ∨ fin y = false) : angleF x y = none := by
  unfold angleF
  rw [if_pos]
  rcases h with h | h <;> simp [h]
theorem HEq' {α : Type} (a : α) : ∃ v, Hid (a = v) := ⟨a, rfl⟩
set_option maxHeartbeats 4000000 in
set_option maxRecDepth 20000 in
theorem t36f (a b : Nat) (w : World) (e1 : Hid (eqF (ab a) (ab a) = !false)) (e2 : Hid (eqF (ab b) (ab b) = !false)) (g1 : Hid (gtF ((ab a).map abs) (ab 9218868437227405311) = false)) (g2 : Hid (gtF ((ab b).map abs) (ab 9218868437227405311) = false)) : Calls Try.prog 36 #[.agg #[.float .f64 a, .float .f64 b]] w (FU w (angleF (ab a) (ab b))) := by
  have f1 : fin (ab a) = true := by unfold fin; rw [e1.out, g1.out]; rfl
  have f2 : fin (ab b) = true := by unfold fin; rw [e2.out, g2.out]; rfl
  unfold angleF
  rw [f1, f2, if_neg (by decide), ← ab_abs, ← ab_abs, zero_abs, zero_abs]
  unfold quarterF
  clear f1 f2
  cases hz : eqF (ab a) (ab 0) && eqF (ab b) (ab 0)
  · rw [if_neg (by decide)]
    have hz' : Hid (eqF (ab a) (ab 0) = true → eqF (ab b) (ab 0) = true → False) := fun p q => by rw [p, q] at hz; cases hz
    clear hz
    simp only
    cases hg : gtF (ab (abs b)) (ab (abs a))
    all_goals
      simp only [Bool.false_eq_true, if_false, if_true]
      unfold angleOfF
      obtain ⟨V, HV⟩ := HEq' (if eqF (if ltF (ab a) (ab 0) = true then _ else _) (ab 4602678819172646912) = true then ab 13826050856027422720 else _)
      rw [HV.out]
      go_enter Try.func36, Try.ntmps36
      go_wp2_with (first
      | ((with_reducible refine upon_fl (by simp) ?_); intro r n hr)
      | (go_at_call 40; (with_reducible refine (t40k e1.out _).mono ?_); rintro e w' ⟨rfl, rfl⟩)
      | (go_at_call 40; (with_reducible refine (t40k e2.out _).mono ?_); rintro e w' ⟨rfl, rfl⟩)
      | (go_at_call 41; (with_reducible refine (t41k g1.out _).mono ?_); rintro e w' ⟨rfl, rfl⟩)
      | (go_at_call 41; (with_reducible refine (t41k g2.out _).mono ?_); rintro e w' ⟨rfl, rfl⟩)
      | (go_at_call 27; (with_reducible refine (t27 _).mono ?_); rintro e w' ⟨rfl, rfl⟩)
      | (go_at_call 25; (with_reducible refine (t25 _ _).mono ?_); rintro e w' ⟨rfl, rfl⟩)
      | (go_at_call 60; (with_reducible refine (t60 _ _).mono ?_); rintro e w' ⟨r, n, rfl, rfl, hr⟩)
      | (go_at_call 59; (with_reducible refine (t59 _ _).mono ?_); rintro e w1 ⟨r, rfl, hr, hu⟩; have HK := keptA hu; obtain ⟨k1, k2, k3, k4⟩ := facts2 HK; clear HK))
      all_goals (try (exfalso; exact hz'.out ‹_› ‹_›))
    all_goals (go_ret; refine FU.mk ?_ (by first | exact Up.alloc _ _ | exact up1 _ _ _ | exact (up1 _ _ _).trans ‹Up _ _› | exact ((up1 _ _ _).trans ‹Up _ _›).trans (Up.drewN _ _)))
    all_goals (rw [← HV.out]; clear e1 e2 g1 g2 hz' HV)
    all_goals (try clear k1 k2 k3 k4 hu)
    all_goals simp_all [Hid, ab_neg]
  · have hz1 : eqF (ab a) (ab 0) = true := by
      cases h : eqF (ab a) (ab 0)
      · rw [h] at hz; cases hz
      · rfl
    have hz2 : eqF (ab b) (ab 0) = true := by
      cases h : eqF (ab b) (ab 0)
      · rw [h, Bool.and_false] at hz; cases hz
      · rfl
    rw [if_pos rfl]
    clear hz
    go_enter Try.func36, Try.ntmps36
    go_wp2_with (first
      | ((with_reducible refine upon_fl (by simp) ?_); intro r n hr)
      | (go_at_call 40; (with_reducible refine (t40k e1.out _).mono ?_); rintro e w' ⟨rfl, rfl⟩)
      | (go_at_call 40; (with_reducible refine (t40k e2.out _).mono ?_); rintro e w' ⟨rfl, rfl⟩)
      | (go_at_call 41; (with_reducible refine (t41k g1.out _).mono ?_); rintro e w' ⟨rfl, rfl⟩)
      | (go_at_call 41; (with_reducible refine (t41k g2.out _).mono ?_); rintro e w' ⟨rfl, rfl⟩)
      | (go_at_call 27; (with_reducible refine (t27 _).mono ?_); rintro e w' ⟨rfl, rfl⟩)
      | (go_at_call 25; (with_reducible refine (t25 _ _).mono ?_); rintro e w' ⟨rfl, rfl⟩)
      | (go_at_call 60; (with_reducible refine (t60 _ _).mono ?_); rintro e w' ⟨r, n, rfl, rfl, hr⟩)
      | (go_at_call 59; (with_reducible refine (t59 _ _).mono ?_); rintro e w1 ⟨r, rfl, hr, hu⟩; have HK := keptA hu; obtain ⟨k1, k2, k3, k4⟩ := facts2 HK; clear HK))
    go_ret
    exact FU.mk rfl (Up.alloc _ _)
end Go.Proofs.Ytlgejebgkkmacaa
