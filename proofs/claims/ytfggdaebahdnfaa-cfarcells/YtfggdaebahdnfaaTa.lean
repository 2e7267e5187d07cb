/- Ldexp of 1; alike by bits; numbers of middle size. -/
import Derived.Test.YtfggdaebahdnfaaPb
import Derived.Test.YtfggdaebahdnfaaSe
namespace Go.Proofs.Ytfggdaebahdnfaa
open Go.ChangeShapes Go.WideShapes Go.ChangeAt Go.RowKit Go.Fl Ieee
attribute [local go_sem] run_store_float run_store_complex call35 call46 run_neg fold_eq fold_ne fold_lt fold_gt abs_eq

theorem fone : Fnt 4607182418800017408 ∧ val 4607182418800017408 = 1 := ⟨by unfold Fnt; decide, by decide +kernel⟩
theorem one_eq : eqF (ab 4607182418800017408) (ab 4607182418800017408) = true := by decide +kernel
theorem one_abs : abs 4607182418800017408 = 4607182418800017408 := by decide +kernel
theorem one_gt : gtF (ab 4607182418800017408) (ab 9218868437227405311) = false := by decide +kernel
theorem one_lt : ltF (ab 4607182418800017408) (ab 4503599627370496) = false := by decide +kernel
theorem one_z : eqF (ab 4607182418800017408) (ab 0) = false := by decide +kernel
theorem one_and : bits BinOp.and IntKind.i64 1023 2047 = 1023 := by decide +kernel
theorem one_not : bits BinOp.andNot IntKind.u64 4607182418800017408 9218868437227405312 = 0 := by decide +kernel
theorem or_zero (x : Nat) (hx : x < 2 ^ 64) : bits BinOp.or IntKind.u64 0 (x : Int) = (x : Int) := by
  show IntKind.u64.wrap ((BitVec.ofInt 64 ((0 : Nat) : Int) ||| BitVec.ofInt 64 (x : Int)).toNat : Int) = _
  rw [BitVec.toNat_or, BitVec.ofInt_natCast, BitVec.ofInt_natCast, BitVec.toNat_ofNat, BitVec.toNat_ofNat, IntKind.wrap_u64, Nat.mod_eq_of_lt hx, Nat.zero_mod, Nat.zero_or]
  omega
attribute [local go_sem] one_and one_not one_eq one_abs one_gt one_lt one_z
theorem t56o (w : World) : Calls Try.prog 56 #[.float .f64 4607182418800017408] w fun e w' => e = .returned (.tuple #[.float .f64 4607182418800017408, .int .i64 0]) ∧ w' = w := by
  go_enter Try.func56, Try.ntmps56
  go_wp2_with (go_at_call 41; (with_reducible refine (t41 _ _).mono ?_); rintro e w' ⟨rfl, hw⟩; subst w'; rw [one_abs])
  go_ret2
  exact ⟨rfl, rfl⟩
theorem t29o (w : World) : Calls Try.prog 29 #[.float .f64 4607182418800017408, .int .i64 0] w fun e w' => e = .returned (.bool false) ∧ w' = w :=
  (t29 4607182418800017408 w).mono fun _ _ ⟨h1, h2⟩ => ⟨by rw [h1, show gtF ((ab 4607182418800017408).map abs) (ab 9218868437227405311) = false by decide +kernel], h2⟩
theorem t54o (w : World) : Calls Try.prog 54 #[.float .f64 4607182418800017408] w fun e w' => e = .returned (.bool false) ∧ w' = w :=
  (t54 4607182418800017408 w).mono fun _ _ ⟨h1, h2⟩ => ⟨by rw [h1, show isN 4607182418800017408 = false by decide +kernel], h2⟩
theorem t43o (k : Int) (h1 : -100 ≤ k) (h2 : k ≤ 100) (w : World) : Calls Try.prog 43 #[.float .f64 4607182418800017408, .int .i64 k] w (FR w (bin .mul (ab 4607182418800017408) (ab ((k + 1023) * 4503599627370496).toNat))) := by
  have ho : bits BinOp.or IntKind.u64 0 ((k + 1023) * 4503599627370496) = (k + 1023) * 4503599627370496 := by
    obtain ⟨x, hx⟩ := Int.eq_ofNat_of_zero_le (show 0 ≤ (k + 1023) * 4503599627370496 by omega)
    rw [hx]; exact or_zero x (by omega)
  go_enter Try.func43, Try.ntmps43
  go_wp2_with (first
    | (go_at_call 29; (with_reducible refine (t29o _).mono ?_); rintro e w' ⟨rfl, hw⟩; subst w')
    | (go_at_call 54; (with_reducible refine (t54o _).mono ?_); rintro e w' ⟨rfl, hw⟩; subst w')
    | (go_at_call 56; (with_reducible refine (t56o _).mono ?_); rintro e w' ⟨rfl, hw⟩; subst w')
    | ((with_reducible refine upon_fl (by simp) ?_); intro r n hr))
  go_ret
  exact ⟨_, _, rfl, rfl, hr⟩
theorem two_val {j : Nat} (h : j < 201) : Fnt ((j + 923) * 4503599627370496) ∧ val ((j + 923) * 4503599627370496) = pw ((j : Int) - 100) := by
  have key : ∀ j, j < 201 → (j + 923) * 4503599627370496 % 2 ^ 63 < 0x7ff0000000000000 ∧ val ((j + 923) * 4503599627370496) = pw ((j : Int) - 100) := by decide +kernel
  exact key j h
/-- What Ldexp of 1 tells: a power of two. -/
theorem ldexp_val {k : Int} (h1 : -100 ≤ k) (h2 : k ≤ 100) {r : Nat} (h : ab r = bin .mul (ab 4607182418800017408) (ab ((k + 1023) * 4503599627370496).toNat)) : Fnt r ∧ val r = pw k := by
  obtain ⟨j, hj⟩ := Int.eq_ofNat_of_zero_le (show 0 ≤ k + 100 by omega)
  obtain ⟨f1, v1⟩ := two_val (j := j) (by omega)
  have e : ((k + 1023) * 4503599627370496).toNat = (j + 923) * 4503599627370496 := by omega
  have ek : (j : Int) - 100 = k := by omega
  rw [ek] at v1
  rw [e, Fnt.ab f1, Fnt.ab fone.1] at h
  obtain ⟨x, hx⟩ := bin_some_mul fone.1 f1
  rw [hx] at h
  have := of_ab h
  subst this
  have b1 := pw_mono (show k ≤ 1000 by omega)
  have b2 := pw_pos k
  have b3 := pw_pos 1000
  have a1 : val 4607182418800017408 * val ((j + 923) * 4503599627370496) ≤ pw 1000 := by rw [fone.2, Rat.one_mul, v1]; exact b1
  have a2 : -pw 1000 ≤ val 4607182418800017408 * val ((j + 923) * 4503599627370496) := by rw [fone.2, Rat.one_mul, v1]; grind
  refine ⟨(mul_near fone.1 f1 hx (B := pw 1000) a1 a2 Rat.le_refl).1, ?_⟩
  have mono := mul_mono fone.1 f1 hx a1 a2 (z := (j + 923) * 4503599627370496)
  rw [fone.2, Rat.one_mul] at mono
  rw [← v1]
  exact Rat.le_antisymm (mono.1 Rat.le_refl) (mono.2 Rat.le_refl)
/-- What Ldexp of 1 leaves. -/
def LX (w : World) (k : Int) (e : Ending) (w' : World) : Prop := ∃ r, e = .returned (.float .f64 r) ∧ Hid (Up w w') ∧ Hid (Fnt r) ∧ Hid (val r = pw k)
theorem t24 {k : Int} (h1 : -100 ≤ k) (h2 : k ≤ 100) (w : World) : Calls Try.prog 24 #[.float .f64 4607182418800017408, .int .i64 k] w (LX w k) := by
  go_enter Try.func24, Try.ntmps24
  go_wp2_with (go_at_call 43; (with_reducible refine (t43o k h1 h2 _).mono ?_); rintro e w' ⟨r, n, rfl, rfl, hr⟩)
  go_ret
  obtain ⟨f, v⟩ := ldexp_val h1 h2 hr.out
  exact ⟨_, rfl, Up.drewN _ _, f, v⟩
theorem t21 (x y : Nat) (w : World) : Calls Try.prog 21 #[.float .f64 x, .float .f64 y] w fun e w' => e = .returned (.bool (ab x == ab y)) ∧ w' = w := by
  go_enter Try.func21, Try.ntmps21
  go_wp2
  all_goals (go_ret; go_tidy; refine ⟨?_, rfl⟩; rw [same_ab])
  all_goals simp_all [eqF_self, int_beq]
  all_goals (rcases Nat.decEq x y with e | e <;> simp_all)
/-- A number that is 0 or of middle size. -/
def tameB (x : Nat) : Bool := eqF (ab x) (ab 0) || ((gtF (ab (abs x)) (ab 3256102530588868608) || eqF (ab (abs x)) (ab 3256102530588868608)) && (ltF (ab (abs x)) (ab 5958262307011166208) || eqF (ab (abs x)) (ab 5958262307011166208)))
theorem t23 (x : Nat) (w : World) : Calls Try.prog 23 #[.float .f64 x] w (BD w (tameB x)) := by
  have e1 : tameB x = (eqF (ab x) (ab 0) || ((gtF (ab (abs x)) (ab 3256102530588868608) || eqF (ab (abs x)) (ab 3256102530588868608)) && (ltF (ab (abs x)) (ab 5958262307011166208) || eqF (ab (abs x)) (ab 5958262307011166208)))) := rfl
  rw [e1]
  cases c1 : eqF (ab x) (ab 0) <;> cases c2 : (gtF (ab (abs x)) (ab 3256102530588868608) || eqF (ab (abs x)) (ab 3256102530588868608)) <;> cases c3 : (ltF (ab (abs x)) (ab 5958262307011166208) || eqF (ab (abs x)) (ab 5958262307011166208))
  all_goals
    go_enter Try.func23, Try.ntmps23
    go_wp2_with (go_at_call 41; (with_reducible refine (t41 _ _).mono ?_); rintro e w' ⟨rfl, hw⟩; subst w')
    go_ret
    exact ⟨rfl, 0, rfl⟩
theorem tame_md {x : Nat} (h : tameB x = true) : Fnt x ∧ Md (-300) 300 (val x) := by
  have f0 : Fnt 0 := by unfold Fnt; decide
  have f1 : Fnt 3256102530588868608 := by unfold Fnt; decide
  have f2 : Fnt 5958262307011166208 := by unfold Fnt; decide
  have v1 : val 3256102530588868608 = pw (-300) := by decide +kernel
  have v2 : val 5958262307011166208 = pw 300 := by decide +kernel
  unfold tameB at h
  simp only [Bool.or_eq_true, Bool.and_eq_true] at h
  rcases h with h | ⟨h1, h2⟩
  · have e := (eq_lin h).2.2
    rw [show lin 0 = 0 by decide +kernel] at e
    have fx : Fnt x := by
      unfold Fnt
      rcases (lin_abs x).2 with c | c <;> omega
    refine ⟨fx, Or.inl ?_⟩
    rw [eqF_val fx f0, val0] at h
    simpa using h
  · have b : lin (Go.Fl.abs x) ≤ 5958262307011166208 := by
      have l2 : lin 5958262307011166208 = 5958262307011166208 := by decide +kernel
      rcases h2 with h2 | h2
      · have := (lt_lin h2).2.2; omega
      · have := (eq_lin h2).2.2; omega
    have a : 3256102530588868608 ≤ lin (Go.Fl.abs x) := by
      have l1 : lin 3256102530588868608 = 3256102530588868608 := by decide +kernel
      rcases h1 with h1 | h1
      · have := (gt_lin.1 h1).2.2; omega
      · have := (eq_lin h1).2.2; omega
    have fa : Fnt (Go.Fl.abs x) := by
      unfold Fnt
      rcases (lin_abs (Go.Fl.abs x)).2 with c | c <;> omega
    have fx : Fnt x := by
      unfold Fnt Go.Fl.abs at fa
      rw [Nat.mod_mod] at fa
      exact fa
    refine ⟨fx, ?_⟩
    rw [gtF_val fa f1, eqF_val fa f1, v1, vabs] at h1
    rw [ltF_val fa f2, eqF_val fa f2, v2, vabs] at h2
    simp only [decide_eq_true_eq] at h1 h2
    unfold absR at h1 h2
    rcases Classical.em (val x < 0) with q | q
    · rw [if_pos q] at h1 h2
      exact Or.inr (Or.inr ⟨by grind, by grind⟩)
    · rw [if_neg q] at h1 h2
      exact Or.inr (Or.inl ⟨by grind, by grind⟩)
end Go.Proofs.Ytfggdaebahdnfaa
