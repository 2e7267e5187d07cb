/- The document's Conj. -/
import Derived.Test.YtlgejebgkkmacaaIa
namespace Go.Proofs.Ytlgejebgkkmacaa
open Go.ChangeShapes Go.WideShapes Go.ChangeAt Go.RowKit Go.Fl Ieee
attribute [local go_sem] run_store_float run_store_complex call39 call50 run_neg fold_eq fold_ne fold_lt fold_gt abs_eq

attribute [local go_sem] fieldC_0 fieldC_1
/-- The other sign, by the bits. -/
def flip (x : Nat) : Nat := if x / 2 ^ 63 % 2 == 1 then Go.Fl.abs x else Go.Fl.abs x + 2 ^ 63
theorem flip_ab {x : Nat} (h : isN x = false → x < 2 ^ 64) : ab (flip x) = (ab x).map neg := by
  have hm : flip x % 2 ^ 63 = x % 2 ^ 63 := by
    unfold flip Go.Fl.abs
    split <;> omega
  cases hn : isN x with
  | true =>
    have h2 : isN (flip x) = true := by rw [isN_mod, hm, ← isN_mod]; exact hn
    rw [ab_none hn, ab_none h2]; rfl
  | false =>
    have h2 : isN (flip x) = false := by rw [isN_mod, hm, ← isN_mod]; exact hn
    have hlt := h hn
    rw [ab_some hn, ab_some h2]
    show some _ = some _
    congr 1
    obtain ⟨p1, p2⟩ := neg_parts x
    refine of_parts (by rw [hm, p1]) ?_
    rw [p2]
    have hc : x / 2 ^ 63 = 0 ∨ x / 2 ^ 63 = 1 := by omega
    unfold flip Go.Fl.abs
    rcases hc with hc | hc
    · rw [hc]; simp; try omega
    · rw [hc]; simp; try omega
set_option maxHeartbeats 2000000 in
theorem t76 (x : Nat) (w : World) : Calls Try.prog 76 #[.float .f64 x] w fun e w' => e = .returned (.float .f64 (if x / 2 ^ 63 % 2 == 1 then 4607182418800017408 else 13830554455654793216)) ∧ w' = w := by
  obtain ⟨b, hs⟩ : ∃ b, (x / 2 ^ 63 % 2 == 1) = b := ⟨_, rfl⟩
  have HS : Hid (∀ w, Calls Try.prog 79 #[.float .f64 x] w (BR b w)) := fun w => by rw [← hs]; exact t79 x w
  rw [hs]
  clear hs
  cases b
  all_goals
    go_enter Try.func76, Try.ntmps76
    go_wp2_with (go_at_call 79; (with_reducible refine (HS.out _).mono ?_); rintro e w1 ⟨rfl, hw⟩; subst w1)
    go_ret
    exact ⟨rfl, rfl⟩
set_option maxHeartbeats 2000000 in
theorem t66 (x : Nat) (w : World) : Calls Try.prog 66 #[.float .f64 x] w fun e w' => e = .returned (.float .f64 (flip x)) ∧ w' = w := by
  have H81 : Hid (∀ w, Calls Try.prog 76 #[.float .f64 x] w fun e w' => e = .returned (.float .f64 (if x / 2 ^ 63 % 2 == 1 then 4607182418800017408 else 13830554455654793216)) ∧ w' = w) := fun w => t76 x w
  unfold flip
  cases hs : (x / 2 ^ 63 % 2 == 1)
  all_goals
    rw [hs] at H81
    simp only [if_true, Bool.false_eq_true, if_false] at H81 ⊢
    clear hs
    go_enter Try.func66, Try.ntmps66
    go_wp2_with (first
      | (go_at_call 76; (with_reducible refine (H81.out _).mono ?_); rintro e w1 ⟨rfl, hw⟩; subst w1)
      | (go_at_call 75; (with_reducible refine (t75a _ _).mono ?_); rintro e w1 ⟨rfl, hw⟩; subst w1)
      | (go_at_call 75; (with_reducible refine (t75b _ _).mono ?_); rintro e w1 ⟨rfl, hw⟩; subst w1))
    go_ret
    exact ⟨rfl, rfl⟩
theorem two_new (w : World) (a b : Nat) (o : Obj) (k : Nat) : (((w.alloc (.cells #[.float .f64 a, .float .f64 b] 53)).alloc o).drewN k).cell? ⟨w.heap.size, 0, none⟩ = some (.float .f64 a) ∧ (((w.alloc (.cells #[.float .f64 a, .float .f64 b] 53)).alloc o).drewN k).cell? ⟨w.heap.size, 1, none⟩ = some (.float .f64 b) := by
  constructor
  · exact cell_up (World.cell?_alloc_at _ _ _ _ rfl) ((Up.alloc _ _).trans (Up.drewN _ k))
  · exact cell_up (World.cell?_alloc_at _ _ _ _ rfl) ((Up.alloc _ _).trans (Up.drewN _ k))
set_option maxHeartbeats 2000000 in
set_option maxRecDepth 20000 in
theorem t48 (a b : Nat) (w : World) : Calls Try.prog 48 #[.agg #[.float .f64 a, .float .f64 b]] w (SR w (ab a) (ab (flip b))) := by
  obtain ⟨c1, c2⟩ := two_new w a b (.cells #[.float .f64 0, .float .f64 0] 53) 1
  have d1 : (((w.alloc (.cells #[.float .f64 a, .float .f64 b] 53)).alloc (.cells #[.float .f64 0, .float .f64 0] 53)).cell? ⟨w.heap.size, 0, none⟩) = some (.float .f64 a) := c1
  have d2 : (((w.alloc (.cells #[.float .f64 a, .float .f64 b] 53)).alloc (.cells #[.float .f64 0, .float .f64 0] 53)).cell? ⟨w.heap.size, 1, none⟩) = some (.float .f64 b) := c2
  clear c1 c2
  go_enter Try.func48, Try.ntmps48
  go_wp2_with fail
  go_region_with (go_at_call 66; (with_reducible refine (t66 _ _).mono ?_); rintro e w' ⟨rfl, hw⟩; subst w')
  all_goals (try go_wp2)
  all_goals
    refine bodyPost_ret (results_cell_row rfl _ _ (w.heap.size + 1) 53 #[.float .f64 a, .float .f64 (flip b)] (0, 0) _ rfl ?_ Try.underlying53 rfl (by kernel_rfl)) rfl (SR.mk rfl rfl (((Up.alloc _ _).trans (Up.alloc _ _)).trans (Up.drewN _ 1)))
    exact second _ _ _
end Go.Proofs.Ytlgejebgkkmacaa
