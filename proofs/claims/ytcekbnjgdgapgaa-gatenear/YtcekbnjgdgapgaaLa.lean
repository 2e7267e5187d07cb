/- The leaves of the chapter: finite, alike by bits, the reference's Wrap, a stretch's seconds, the plain beat. -/
import Derived.Test.YtcekbnjgdgapgaaA
import Derived.Test.YtcekbnjgdgapgaaO
namespace Go.Proofs.Ytcekbnjgdgapgaa
open Go.ChangeShapes Go.WideShapes Go.ChangeAt Go.RowKit Go.Fl Ieee
attribute [local go_sem] run_store_float call36 call37 run_neg fold_eq fold_ne fold_lt fold_gt abs_eq

/-- Of what was there nothing has turned. -/
def Up (w w' : World) : Prop := Below w.heap.size w w'
theorem Up.refl (w : World) : Up w w := Below.refl _ _
theorem Up.trans {a b c : World} (h : Up a b) (k : Up b c) : Up a c := Below.trans h (Below.mono k h.size)
theorem Up.drewN (w : World) (n : Nat) : Up w (w.drewN n) := below_drewN (Below.refl _ _) n
theorem Up.drew (w : World) : Up w w.drew := Up.drewN w 1
theorem Up.alloc (w : World) (o : Obj) : Up w (w.alloc o) := (Below.refl _ _).alloc (Nat.le_refl _) _
def TU (w : World) (e : Ending) (w' : World) : Prop := e = .returned (.bool true) ∧ Hid (Up w w')
def FU (w : World) (v : Option Nat) (e : Ending) (w' : World) : Prop := ∃ r, e = .returned (.float .f64 r) ∧ Hid (ab r = v) ∧ Hid (Up w w')

theorem t28 (x : Nat) (w : World) : Calls Try.prog 28 #[.float .f64 x] w fun e w' => e = .returned (.bool (fin (ab x))) ∧ w' = w := by
  go_enter Try.func28, Try.ntmps28
  go_wp2_with (first | (go_at_call 38; refine (t38 _ _).mono ?_; rintro e w' ⟨rfl, rfl⟩) | (go_at_call 39; refine (t39 _ _).mono ?_; rintro e w' ⟨rfl, rfl⟩))
  all_goals (go_ret; go_tidy; simp_all [fin])
theorem fin_is (x : Nat) : (eqF (ab x) (ab x) && (ltF (ab x) (ab 9218868437227405311) || eqF (ab x) (ab 9218868437227405311)) && (gtF (ab x) (ab 18442240474082181119) || eqF (ab x) (ab 18442240474082181119))) = fin (ab x) := by
  cases hN : isN x with
  | true => simp [fin, ab_none hN, eqF, ord]
  | false =>
    have hA : isN (abs x) = false := by rw [isN_abs]; exact hN
    have e1 : ord (ab x) (ab 9218868437227405311) = some (compare (lin x) (lin 9218868437227405311)) := by
      rw [← order_ab]; exact order_lin hN (by decide +kernel)
    have e2 : ord (ab x) (ab 18442240474082181119) = some (compare (lin x) (lin 18442240474082181119)) := by
      rw [← order_ab]; exact order_lin hN (by decide +kernel)
    have e3 : ord ((ab x).map abs) (ab 9218868437227405311) = some (compare (lin (abs x)) (lin 9218868437227405311)) := by
      rw [← ab_abs, ← order_ab]; exact order_lin hA (by decide +kernel)
    have l1 : lin 9218868437227405311 = 9218868437227405311 := by decide +kernel
    have l2 : lin 18442240474082181119 = -9218868437227405311 := by decide +kernel
    have l3 : lin (abs x) = ((x % 2 ^ 63 : Nat) : Int) := by
      have : abs x < 2 ^ 63 := Nat.mod_lt _ (by decide)
      rw [lin_low this]; rfl
    have l4 : lin x = ((x % 2 ^ 63 : Nat) : Int) ∨ lin x = -((x % 2 ^ 63 : Nat) : Int) := by
      unfold lin sgn; split <;> simp
    unfold fin
    rw [eqF_self, hN]
    unfold ltF eqF gtF
    rw [e1, e2, e3, l1, l2, l3]
    generalize x % 2 ^ 63 = m at *
    rw [Bool.eq_iff_iff]
    rcases l4 with l4 | l4 <;> rw [l4] <;> simp only [Int.compare_eq_ite_lt, Bool.not_false, Bool.true_and, Bool.and_eq_true, Bool.or_eq_true, Bool.not_eq_true', beq_iff_eq, Option.some.injEq] <;> (repeat' split) <;> simp <;> omega
theorem t29 (x : Nat) (w : World) : Calls Try.prog 29 #[.float .f64 x] w fun e w' => e = .returned (.bool (fin (ab x))) ∧ w' = w := by
  go_enter Try.func29, Try.ntmps29
  go_wp2
  all_goals (go_ret; go_tidy; refine ⟨?_, rfl⟩; rw [← fin_is])
  all_goals simp_all
theorem int_beq (x y : Nat) : ((x : Int) == (y : Int)) = decide (x = y) := by
  rw [Bool.eq_iff_iff]; simp; omega
theorem t31 (x y : Nat) (w : World) : Calls Try.prog 31 #[.float .f64 x, .float .f64 y] w fun e w' => e = .returned (.bool (ab x == ab y)) ∧ w' = w := by
  go_enter Try.func31, Try.ntmps31
  go_wp2
  all_goals (go_ret; go_tidy; refine ⟨?_, rfl⟩; rw [same_ab])
  all_goals simp_all [eqF_self, int_beq]
theorem t15 (x y : Nat) (w : World) : Calls Try.prog 15 #[.float .f64 x, .float .f64 y] w fun e w' => e = .returned (.bool (ab x == ab y)) ∧ w' = w := by
  go_enter Try.func15, Try.ntmps15
  go_wp2_with (go_at_call 31; refine (t31 _ _ _).mono ?_; rintro e w' ⟨rfl, rfl⟩)
  go_ret
  exact ⟨rfl, rfl⟩
theorem t35 (x : Nat) (w : World) : Calls Try.prog 35 #[.float .f64 x] w (FR w (wrapF (ab x))) := by
  go_enter Try.func35, Try.ntmps35
  go_wp2_with (first
    | (refine upon_fl (by simp) ?_; intro r n hr)
    | (go_at_call 38; refine (t38 _ _).mono ?_; rintro e w' ⟨rfl, rfl⟩)
    | (go_at_call 39; refine (t39 _ _).mono ?_; rintro e w' ⟨rfl, rfl⟩)
    | (go_at_call 27; refine (t27 _).mono ?_; rintro e w' ⟨rfl, rfl⟩)
    | (go_at_call 30; refine (t30 _ _).mono ?_; rintro e w' ⟨r, n, rfl, rfl, hr⟩))
  all_goals (go_ret; go_tidy; first | refine FR.mkN ?_ | refine FR.mk0 ?_)
  all_goals simp_all [wrapF, wholeF, fin, Hid, ab_neg]
  all_goals rfl
/-- A stretch's seconds. -/
def secF (E : Int) (r : Option Nat) : Option Nat := bin .quo (ab (floatOfInt .f64 E)) r
theorem t32 (c v r : Nat) (E R : Int) (w : World) : Calls Try.prog 32 #[.agg #[.float .f64 c, .float .f64 v, .float .f64 r, .int .i64 E, .int .i64 R]] w (FU w (secF E (ab r))) := by
  go_enter Try.func32, Try.ntmps32
  go_wp2_with ((with_reducible refine upon_fl (by simp) ?_); intro r n hr)
  go_ret
  exact ⟨_, rfl, hr, (Up.alloc _ _).trans (Up.drewN _ _)⟩
theorem t34 (c v r : Nat) (E R : Int) (w : World) : Calls Try.prog 34 #[.agg #[.float .f64 c, .float .f64 v, .float .f64 r, .int .i64 E, .int .i64 R]] w (FU w (secF E (ab r))) := by
  go_enter Try.func34, Try.ntmps34
  go_wp2_with ((with_reducible refine upon_fl (by simp) ?_); intro r n hr)
  go_ret
  exact ⟨_, rfl, hr, (Up.alloc _ _).trans (Up.drewN _ _)⟩
theorem t23 (x a b : Nat) (w : World) : Calls Try.prog 23 #[.float .f64 x, .float .f64 a, .float .f64 b] w fun e w' => e = .returned (.bool ((gtF (ab x) (ab a) || eqF (ab x) (ab a)) && (ltF (ab x) (ab b) || eqF (ab x) (ab b)))) ∧ w' = w := by
  go_enter Try.func23, Try.ntmps23
  go_wp2
  all_goals (go_ret; go_tidy; refine ⟨?_, rfl⟩)
  all_goals simp_all
theorem t26 (w : World) : Calls Try.prog 26 #[] w fun e w' => e = .returned (.agg #[.float .f64 4621819117588971520, .float .f64 4598175219545276416, .float .f64 4652007308841189376, .int .i64 100, .int .i64 8]) ∧ Hid (Up w w') := by
  go_enter Try.func26, Try.ntmps26
  go_wp2
  exact bodyPost_ret (results_cell_row Try.results26 _ _ _ 24 #[.float .f64 4621819117588971520, .float .f64 4598175219545276416, .float .f64 4652007308841189376, .int .i64 100, .int .i64 8] (0, 0) _ rfl (heap_alloc_last _ _) Try.underlying24 rfl (by kernel_rfl)) rfl ⟨rfl, Up.alloc _ _⟩
end Go.Proofs.Ytcekbnjgdgapgaa
