/- The examples' closed calls. -/
import Derived.Test.YtfifdngcdknbbaaKa
namespace Go.Proofs.Ytfifdngcdknbbaa
open Go.ChangeShapes Go.WideShapes Go.ChangeAt Go.RowKit Go.Fl Go.Sort
attribute [local go_sem] run_store_float run_store_complex call12 call32 run_neg fold_eq fold_ne fold_lt fold_gt abs_eq

theorem t15 (w : World) : Calls Try.prog 15 #[.float .f64 0, .float .f64 13830554455654793216] w fun e w' => e = .returned (.float .f64 9223372036854775808) ∧ w' = w := by
  go_enter Try.func15, Try.ntmps15
  go_wp2
  go_ret
  exact ⟨by first | rfl | decide +kernel, rfl⟩
theorem t16 (w : World) : Calls Try.prog 16 #[.int .i64 1] w fun e w' => e = .returned (.float .f64 9218868437227405312) ∧ w' = w := by
  go_enter Try.func16, Try.ntmps16
  go_wp2
  go_ret
  exact ⟨rfl, rfl⟩
theorem neg_inf : neg 9218868437227405312 = 18442240474082181120 := by decide +kernel
theorem k1 {W : World} {g : Nat} (hg : g = W.heap.size) : Calls Try.prog 17 #[.slice (some ⟨g, 0, none⟩) 2 2] (W.alloc (.cells #[.complex .f64 9218868437227405312 4607182418800017408, .complex .f64 18442240474082181120 4607182418800017408] 38)) fun e w' => ∃ r, e = .returned (.complex .f64 r 4611686018427387904) ∧ Hid (ab r = none) ∧ Hid (Up W w') := by
  subst hg
  refine (t17 W.heap.size 0 2 #[(9218868437227405312, 4607182418800017408), (18442240474082181120, 4607182418800017408)] _ (new2 W _ 38 (by simp [ce])) (by decide)).mono fun _ _ ⟨r, i, he, hr, hi, hu⟩ => ⟨r, ?_, hr.out.trans (by decide +kernel), (Up.alloc _ _).trans hu.out⟩
  obtain rfl := of_ab (c := 4611686018427387904) (hi.out.trans (by decide +kernel))
  exact he
theorem k2 {W : World} {g : Nat} (hg : g = W.heap.size) : Calls Try.prog 17 #[.slice (some ⟨g, 0, none⟩) 2 2] (W.alloc (.cells #[.complex .f64 9214364837600034816 0, .complex .f64 9214364837600034816 0] 38)) (KV W (.complex .f64 9218868437227405312 0)) := by
  subst hg
  exact (t17 W.heap.size 0 2 #[(9214364837600034816, 0), (9214364837600034816, 0)] _ (new2 W _ 38 (by simp [ce])) (by decide)).mono fun _ _ h => (h.known (by decide +kernel) (by decide +kernel)).below (Up.alloc _ _)
theorem k3 {W : World} {g : Nat} (hg : g = W.heap.size) : Calls Try.prog 19 #[.slice (some ⟨g, 0, none⟩) 1 1] (W.alloc (.cells #[.complex .f64 9223372036854775808 9223372036854775808] 38)) (KV W (.complex .f64 9223372036854775808 9223372036854775808)) := by
  subst hg
  exact (t19 W.heap.size 0 1 #[(9223372036854775808, 9223372036854775808)] _ (new2 W _ 38 (by simp [ce])) (by decide)).mono fun _ _ h => (h.known (by decide +kernel) (by decide +kernel)).below (Up.alloc _ _)
theorem k4 {W : World} {g : Nat} (hg : g = W.heap.size) : Calls Try.prog 19 #[.slice (some ⟨g, 0, none⟩) 2 2] (W.alloc (.cells #[.complex .f64 4607182418800017408 0, .complex .f64 13830554455654793216 0] 38)) (KV W (.complex .f64 0 0)) := by
  subst hg
  exact (t19 W.heap.size 0 2 #[(4607182418800017408, 0), (13830554455654793216, 0)] _ (new2 W _ 38 (by simp [ce])) (by decide)).mono fun _ _ h => (h.known (by decide +kernel) (by decide +kernel)).below (Up.alloc _ _)
theorem k5 {W : World} {g : Nat} (hg : g = W.heap.size) : Calls Try.prog 20 #[.slice (some ⟨g, 0, none⟩) 2 2] (W.alloc (.cells #[.complex .f64 9223372036854775808 9223372036854775808, .complex .f64 9223372036854775808 9223372036854775808] 38)) (KV W (.complex .f64 9223372036854775808 9223372036854775808)) := by
  subst hg
  exact (t20 W.heap.size 0 2 #[(9223372036854775808, 9223372036854775808), (9223372036854775808, 9223372036854775808)] _ (new2 W _ 38 (by simp [ce])) (by decide) (by decide) (by decide)).mono fun _ _ h => (h.known (by decide +kernel) (by decide +kernel)).below (Up.alloc _ _)
theorem k6 {W : World} {g : Nat} (hg : g = W.heap.size) : Calls Try.prog 17 #[.slice (some ⟨g, 0, none⟩) 1 1] (W.alloc (.cells #[.complex .f64 9223372036854775808 9223372036854775808] 38)) (KV W (.complex .f64 0 0)) := by
  subst hg
  exact (t17 W.heap.size 0 1 #[(9223372036854775808, 9223372036854775808)] _ (new2 W _ 38 (by simp [ce])) (by decide)).mono fun _ _ h => (h.known (by decide +kernel) (by decide +kernel)).below (Up.alloc _ _)
theorem k7 {W : World} {g : Nat} (hg : g = W.heap.size) : Calls Try.prog 17 #[.slice (some ⟨g, 0, none⟩) 4 4] (W.alloc (.cells #[.complex .f64 4607182418800017408 0, .complex .f64 6103021453049119613 0, .complex .f64 4607182418800017408 0, .complex .f64 15326393489903895421 0] 38)) (KV W (.complex .f64 4611686018427387904 0)) := by
  subst hg
  exact (t17 W.heap.size 0 4 #[(4607182418800017408, 0), (6103021453049119613, 0), (4607182418800017408, 0), (15326393489903895421, 0)] _ (new2 W _ 38 (by simp [ce])) (by decide)).mono fun _ _ h => (h.known (by decide +kernel) (by decide +kernel)).below (Up.alloc _ _)
theorem k8 {W : World} {g : Nat} (hg : g = W.heap.size) : Calls Try.prog 17 #[.slice (some ⟨g, 0, none⟩) 3 3] (W.alloc (.cells #[.complex .f64 4158027847206421152 6103021453049119613, .complex .f64 4607182418800017408 4607182418800017408, .complex .f64 13830554455654793216 15326393489903895421] 38)) (KV W (.complex .f64 4158027847206421152 4607182418800017408)) := by
  subst hg
  exact (t17 W.heap.size 0 3 #[(4158027847206421152, 6103021453049119613), (4607182418800017408, 4607182418800017408), (13830554455654793216, 15326393489903895421)] _ (new2 W _ 38 (by simp [ce])) (by decide)).mono fun _ _ h => (h.known (by decide +kernel) (by decide +kernel)).below (Up.alloc _ _)
theorem k0 (w : World) : Calls Try.prog 19 #[.slice none 0 0] w (KV w (.complex .f64 0 0)) := (t19e none 0 w).mono fun _ _ h => h.known (by decide +kernel) (by decide +kernel)
theorem k9 {W : World} {g : Nat} : Calls Try.prog 21 #[.slice (some ⟨g, 0, none⟩) 1 1, .slice none 0 0] W (KV W (.complex .f64 0 0)) := (t21e _ _ _ W).mono fun _ _ h => h.known (by decide +kernel) (by decide +kernel)
theorem k10 {W : World} {g : Nat} (hg : g = W.heap.size) : Calls Try.prog 23 #[.slice (some ⟨g, 0, none⟩) 2 2] (W.alloc (.cells #[.complex .f64 9221120237041090561 0, .complex .f64 0 0] 38)) (KV W (.int .i64 1)) := by
  subst hg
  refine (t23 W.heap.size 0 2 #[(9221120237041090561, 0), (0, 0)] _ (new2 W _ 38 (by simp [ce])) (by decide)).mono fun _ _ ⟨he, k, hk⟩ => ⟨?_, ?_⟩
  · have hp : (pk (pwF #[(9221120237041090561, 0), (0, 0)]) 2).1 = 1 := by decide +kernel
    rw [he]
    exact congrArg (fun z => Ending.returned (Value.int .i64 z)) hp
  · rw [hk]; exact (Up.alloc _ _).trans (Up.drewN _ _)
theorem k11 {W : World} {g : Nat} (hg : g = W.heap.size) : Calls Try.prog 23 #[.slice (some ⟨g, 0, none⟩) 2 2] (W.alloc (.cells #[.complex .f64 9221120237041090561 0, .complex .f64 9221120237041090561 0] 38)) (KV W (.int .i64 0)) := by
  subst hg
  refine (t23 W.heap.size 0 2 #[(9221120237041090561, 0), (9221120237041090561, 0)] _ (new2 W _ 38 (by simp [ce])) (by decide)).mono fun _ _ ⟨he, k, hk⟩ => ⟨?_, ?_⟩
  · have hp : (pk (pwF #[(9221120237041090561, 0), (9221120237041090561, 0)]) 2).1 = 0 := by decide +kernel
    rw [he]
    exact congrArg (fun z => Ending.returned (Value.int .i64 z)) hp
  · rw [hk]; exact (Up.alloc _ _).trans (Up.drewN _ _)
def L5 : Array Nat := #[4613937818241073152, 9221120237041090561, 9223372036854775808, 0, 4607182418800017408]
theorem fit5 : Fit L5 := by
  intro i hi
  match i, hi with
  | 0, _ => decide
  | 1, _ => decide
  | 2, _ => decide
  | 3, _ => decide
  | 4, _ => decide
theorem kth5 (n : Nat) (hn : n < 5) : kth L5 n = key ((#[9223372036854775808, 0, 4607182418800017408, 4613937818241073152, 9221120237041090561] : Array Nat)[n]!) := (kth_list (d := L5) (d' := #[9223372036854775808, 0, 4607182418800017408, 4613937818241073152, 9221120237041090561]) (by decide) (by decide +kernel) hn).symm
theorem k12 {W : World} {g : Nat} (HL : Hid (Reads W g 0 L5)) : Calls Try.prog 9 #[.slice (some ⟨g, 0, none⟩) 5 5, .int .i64 0] W (KV W (.tuple #[.float .f64 9223372036854775808, .int .i64 0])) :=
  (t9 g 0 5 0 L5 W HL.out fit5 (by decide) (by decide)).mono fun _ _ h => NR.known h (by decide) (kth5 0 (by omega)) (by decide +kernel)
theorem k13 {W : World} {g : Nat} (HL : Hid (Reads W g 0 L5)) : Calls Try.prog 9 #[.slice (some ⟨g, 0, none⟩) 5 5, .int .i64 1] W (KV W (.tuple #[.float .f64 0, .int .i64 0])) :=
  (t9 g 0 5 1 L5 W HL.out fit5 (by decide) (by decide)).mono fun _ _ h => NR.known h (by decide) (kth5 1 (by omega)) (by decide +kernel)
theorem k14 {W : World} {g : Nat} (HL : Hid (Reads W g 0 L5)) : Calls Try.prog 9 #[.slice (some ⟨g, 0, none⟩) 5 5, .int .i64 4] W fun e w' => ∃ r, e = .returned (.tuple #[.float .f64 r, .int .i64 0]) ∧ Hid (ab r = none) ∧ Hid (Up W w') :=
  (t9 g 0 5 4 L5 W HL.out fit5 (by decide) (by decide)).mono fun _ _ ⟨x, he, hx, hu⟩ => ⟨x, he, (key_inj hx.out.1 (show 9221120237041090561 < 2 ^ 64 by decide) (hx.out.2.trans (kth5 4 (by omega)))).trans (by decide +kernel), hu⟩
theorem k15 {W : World} {g : Nat} : Calls Try.prog 9 #[.slice (some ⟨g, 0, none⟩) 5 5, .int .i64 5] W (KV W (.tuple #[.float .f64 0, .int .i64 2])) := (t9bad _ 5 5 5 W (by omega)).mono fun _ _ ⟨he, hw⟩ => ⟨he, by rw [hw]; exact Up.refl _⟩
theorem k16 {W : World} {g : Nat} : Calls Try.prog 9 #[.slice (some ⟨g, 0, none⟩) 5 5, .int .i64 (-1)] W (KV W (.tuple #[.float .f64 0, .int .i64 2])) := (t9bad _ 5 5 (-1) W (by omega)).mono fun _ _ ⟨he, hw⟩ => ⟨he, by rw [hw]; exact Up.refl _⟩
theorem k17 (w : World) : Calls Try.prog 24 #[.float .f64 9223372036854775808] w fun e w' => e = .returned (.bool true) ∧ w' = w := (t24 _ w (by decide)).mono fun _ _ h => h
theorem k18 (w : World) : Calls Try.prog 24 #[.float .f64 0] w fun e w' => e = .returned (.bool false) ∧ w' = w := (t24 _ w (by decide)).mono fun _ _ h => h
theorem kf0 : eqF (ab 9218868437227405312) (ab 9218868437227405312) = true := by decide +kernel
theorem kf1 : eqF (ab 9223372036854775808) (ab 0) = true := by decide +kernel
theorem kf2 : eqF (ab 4158027847206421152) (ab 4158027847206421152) = true := by decide +kernel
theorem nan_ne {r : Nat} (h : ab r = none) : eqF (ab r) (ab r) = false := by rw [h]; rfl
end Go.Proofs.Ytfifdngcdknbbaa
