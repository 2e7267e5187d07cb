/- Ldexp of 1; within. -/
import Derived.Test.YtdolfkgnehiecaaBa
import Derived.Test.YtdolfkgnehiecaaFv
import Derived.Test.YtdolfkgnehiecaaFw
namespace Go.Proofs.Ytdolfkgnehiecaa
open Go.ChangeShapes Go.WideShapes Go.ChangeAt Go.RowKit Go.Fl Ieee
attribute [local go_sem] run_store_float call28 call35 run_neg fold_eq fold_ne fold_lt fold_gt abs_eq

theorem fone : Fnt 4607182418800017408 ∧ val 4607182418800017408 = 1 := ⟨by unfold Fnt; decide, by decide +kernel⟩
theorem one_eq : eqF (ab 4607182418800017408) (ab 4607182418800017408) = true := by decide +kernel
theorem one_abs : abs 4607182418800017408 = 4607182418800017408 := by decide +kernel
theorem one_gt : gtF (ab 4607182418800017408) (ab 9218868437227405311) = false := by decide +kernel
theorem one_lt : ltF (ab 4607182418800017408) (ab 4503599627370496) = false := by decide +kernel
theorem one_z : eqF (ab 4607182418800017408) (ab 0) = false := by decide +kernel
theorem one_and : bits BinOp.and IntKind.i64 1023 2047 = 1023 := by decide +kernel
theorem one_not : bits BinOp.andNot IntKind.u64 4607182418800017408 9218868437227405312 = 0 := by decide +kernel
theorem or_zero (x : Nat) (hx : x < 2 ^ 64) : bits BinOp.or IntKind.u64 0 (x : Int) = (x : Int) := by
  show IntKind.u64.wrap ((BitVec.ofInt 64 ((0 : Nat) : Int) ||| BitVec.ofInt 64 (x : Int)).toNat : Int) = _
  rw [BitVec.toNat_or, BitVec.ofInt_natCast, BitVec.ofInt_natCast, BitVec.toNat_ofNat, BitVec.toNat_ofNat, IntKind.wrap_u64, Nat.mod_eq_of_lt hx, Nat.zero_mod, Nat.zero_or]
  omega
attribute [local go_sem] one_and one_not one_eq one_abs one_gt one_lt one_z
theorem t41o (w : World) : Calls Try.prog 41 #[.float .f64 4607182418800017408] w fun e w' => e = .returned (.tuple #[.float .f64 4607182418800017408, .int .i64 0]) ∧ w' = w := by
  go_enter Try.func41, Try.ntmps41
  go_wp2_with (go_at_call 24; (with_reducible refine (t24 _ _).mono ?_); rintro e w' ⟨rfl, hw⟩; subst w'; rw [one_abs])
  go_ret2
  exact ⟨rfl, rfl⟩
theorem t38o (w : World) : Calls Try.prog 38 #[.float .f64 4607182418800017408, .int .i64 0] w fun e w' => e = .returned (.bool false) ∧ w' = w :=
  (t38 4607182418800017408 w).mono fun _ _ ⟨h1, h2⟩ => ⟨by rw [h1, show gtF ((ab 4607182418800017408).map abs) (ab 9218868437227405311) = false by decide +kernel], h2⟩
theorem t37o (w : World) : Calls Try.prog 37 #[.float .f64 4607182418800017408] w fun e w' => e = .returned (.bool false) ∧ w' = w :=
  (t37 4607182418800017408 w).mono fun _ _ ⟨h1, h2⟩ => ⟨by rw [h1, show eqF (ab 4607182418800017408) (ab 4607182418800017408) = true by decide +kernel]; rfl, h2⟩
theorem t40o (k : Int) (h1 : -100 ≤ k) (h2 : k ≤ 100) (w : World) : Calls Try.prog 40 #[.float .f64 4607182418800017408, .int .i64 k] w (FR w (bin .mul (ab 4607182418800017408) (ab ((k + 1023) * 4503599627370496).toNat))) := by
  have ho : bits BinOp.or IntKind.u64 0 ((k + 1023) * 4503599627370496) = (k + 1023) * 4503599627370496 := by
    obtain ⟨x, hx⟩ := Int.eq_ofNat_of_zero_le (show 0 ≤ (k + 1023) * 4503599627370496 by omega)
    rw [hx]; exact or_zero x (by omega)
  go_enter Try.func40, Try.ntmps40
  go_wp2_with (first
    | (go_at_call 38; (with_reducible refine (t38o _).mono ?_); rintro e w' ⟨rfl, hw⟩; subst w')
    | (go_at_call 37; (with_reducible refine (t37o _).mono ?_); rintro e w' ⟨rfl, hw⟩; subst w')
    | (go_at_call 41; (with_reducible refine (t41o _).mono ?_); rintro e w' ⟨rfl, hw⟩; subst w')
    | ((with_reducible refine upon_fl (by simp) ?_); intro r n hr))
  go_ret
  exact ⟨_, _, rfl, rfl, hr⟩
theorem two_val {j : Nat} (h : j < 201) : Fnt ((j + 923) * 4503599627370496) ∧ val ((j + 923) * 4503599627370496) = pw ((j : Int) - 100) := by
  have key : ∀ j, j < 201 → (j + 923) * 4503599627370496 % 2 ^ 63 < 0x7ff0000000000000 ∧ val ((j + 923) * 4503599627370496) = pw ((j : Int) - 100) := by decide +kernel
  exact key j h
/-- What Ldexp of 1 tells: a power of two. -/
theorem ldexp_val {k : Int} (h1 : -100 ≤ k) (h2 : k ≤ 100) {r : Nat} (h : ab r = bin .mul (ab 4607182418800017408) (ab ((k + 1023) * 4503599627370496).toNat)) : Fnt r ∧ val r = pw k := by
  obtain ⟨j, hj⟩ := Int.eq_ofNat_of_zero_le (show 0 ≤ k + 100 by omega)
  obtain ⟨f1, v1⟩ := two_val (j := j) (by omega)
  have e : ((k + 1023) * 4503599627370496).toNat = (j + 923) * 4503599627370496 := by omega
  have ek : (j : Int) - 100 = k := by omega
  rw [ek] at v1
  rw [e, Fnt.ab f1, Fnt.ab fone.1] at h
  obtain ⟨x, hx⟩ := bin_some_mul fone.1 f1
  rw [hx] at h
  have := of_ab h
  subst this
  have b1 := pw_mono (show k ≤ 1000 by omega)
  have b2 := pw_pos k
  have b3 := pw_pos 1000
  have a1 : val 4607182418800017408 * val ((j + 923) * 4503599627370496) ≤ pw 1000 := by rw [fone.2, Rat.one_mul, v1]; exact b1
  have a2 : -pw 1000 ≤ val 4607182418800017408 * val ((j + 923) * 4503599627370496) := by rw [fone.2, Rat.one_mul, v1]; grind
  refine ⟨(mul_near fone.1 f1 hx (B := pw 1000) a1 a2 Rat.le_refl).1, ?_⟩
  have mono := mul_mono fone.1 f1 hx a1 a2 (z := (j + 923) * 4503599627370496)
  rw [fone.2, Rat.one_mul] at mono
  rw [← v1]
  exact Rat.le_antisymm (mono.1 Rat.le_refl) (mono.2 Rat.le_refl)
/-- What Ldexp of 1 leaves. -/
def LX (w : World) (k : Int) (e : Ending) (w' : World) : Prop := ∃ r, e = .returned (.float .f64 r) ∧ Hid (Up w w') ∧ Hid (Fnt r) ∧ Hid (val r = pw k)
theorem t36 {k : Int} (h1 : -100 ≤ k) (h2 : k ≤ 100) (w : World) : Calls Try.prog 36 #[.float .f64 4607182418800017408, .int .i64 k] w (LX w k) := by
  go_enter Try.func36, Try.ntmps36
  go_wp2_with (go_at_call 40; (with_reducible refine (t40o k h1 h2 _).mono ?_); rintro e w' ⟨r, n, rfl, rfl, hr⟩)
  go_ret
  obtain ⟨f, v⟩ := ldexp_val h1 h2 hr.out
  exact ⟨_, rfl, Up.drewN _ _, f, v⟩
end Go.Proofs.Ytdolfkgnehiecaa
