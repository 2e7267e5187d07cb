/- The closed calls; the statement of examples. -/
import Derived.Test.YtfoleccljbfkeaaG
namespace Go.Proofs.Ytfoleccljbfkeaa
open Go.ChangeShapes Go.WideShapes Go.ChangeAt Go.RowKit Go.Fl Ieee
attribute [local go_sem] run_store_float run_store_complex call20 call34 run_neg fold_eq fold_ne fold_lt fold_gt abs_eq

/-- A float that is known. -/
def KF (w : World) (c : Nat) (e : Ending) (w' : World) : Prop := e = .returned (.float .f64 c) ∧ Up w w'
def KC (w : World) (a b : Nat) (e : Ending) (w' : World) : Prop := e = .returned (.complex .f64 a b) ∧ Up w w'
theorem frKnown {w w' : World} {v : Option Nat} {e : Ending} {c : Nat} (h : FR w v e w') (hv : v = some c) : KF w c e w' := by
  obtain ⟨r, n, rfl, rfl, hr⟩ := h
  obtain rfl := of_ab (hr.out.trans hv)
  exact ⟨rfl, Up.drewN w n⟩
theorem FU.known {w w' : World} {v : Option Nat} {e : Ending} {c : Nat} (h : FU w v e w') (hv : v = some c) : KF w c e w' := by
  obtain ⟨r, rfl, hr, hu⟩ := h
  obtain rfl := of_ab (hr.out.trans hv)
  exact ⟨rfl, hu⟩
theorem CR.known {w w' : World} {u v : Option Nat} {e : Ending} {a b : Nat} (h : CR w u v e w') (hu : u = some a) (hv : v = some b) : KC w a b e w' := by
  obtain ⟨r, i, rfl, hr, hi, hb⟩ := h
  obtain rfl := of_ab (hr.out.trans hu)
  obtain rfl := of_ab (hi.out.trans hv)
  exact ⟨rfl, hb⟩
theorem kw0 (w : World) : Calls Try.prog 7 #[.float .f64 13828302655841107968] w (KF w 4598175219545276416) := (t7 _ w).mono fun _ _ h => frKnown h (by decide +kernel)
theorem kw1 (w : World) : Calls Try.prog 7 #[.float .f64 13530955820972524067] w (KF w 13530955820972524067) := (t7 _ w).mono fun _ _ h => frKnown h (by decide +kernel)
theorem kw2 (w : World) : Calls Try.prog 7 #[.float .f64 4613937818241073152] w (KF w 0) := (t7 _ w).mono fun _ _ h => frKnown h (by decide +kernel)
theorem kw3 (w : World) : Calls Try.prog 7 #[.float .f64 9223372036854775808] w (KF w 0) := (t7 _ w).mono fun _ _ h => frKnown h (by decide +kernel)
theorem kw4 (w : World) : Calls Try.prog 7 #[.float .f64 4604930618986332160] w (KF w 13821547256400052224) := (t7 _ w).mono fun _ _ h => frKnown h (by decide +kernel)
theorem kw5 (w : World) : Calls Try.prog 7 #[.float .f64 4602678819172646912] w (KF w 13826050856027422720) := (t7 _ w).mono fun _ _ h => frKnown h (by decide +kernel)
theorem kt0 (w : World) : Calls Try.prog 11 #[.float .f64 0] w (KC w 4607182418800017408 0) := (t11 _ w).mono fun _ _ h => h.known (by decide +kernel) (by decide +kernel)
theorem kt1 (w : World) : Calls Try.prog 11 #[.float .f64 13821547256400052224] w (KC w 0 13830554455654793216) := (t11 _ w).mono fun _ _ h => h.known (by decide +kernel) (by decide +kernel)
theorem kt2 (w : World) : Calls Try.prog 11 #[.float .f64 4609434218613702656] w (KC w 13830554455654793216 0) := (t11 _ w).mono fun _ _ h => h.known (by decide +kernel) (by decide +kernel)
theorem kt3 (w : World) : Calls Try.prog 11 #[.float .f64 4593671619917905920] w (KC w 4604544271217802189 4604544271217802189) := (t11 _ w).mono fun _ _ h => h.known (by decide +kernel) (by decide +kernel)
theorem kt4 (w : World) : Calls Try.prog 11 #[.float .f64 4600427019358961664] w (KC w 13827916308072577997 4604544271217802189) := (t11 _ w).mono fun _ _ h => h.known (by decide +kernel) (by decide +kernel)
theorem kt5 (w : World) : Calls Try.prog 11 #[.float .f64 13817043656772681728] w (KC w 4604544271217802189 13827916308072577997) := (t11 _ w).mono fun _ _ h => h.known (by decide +kernel) (by decide +kernel)
theorem kt6 (w : World) : Calls Try.prog 11 #[.float .f64 4598175219545276416] w (KC w 0 4607182418800017408) := (t11 _ w).mono fun _ _ h => h.known (by decide +kernel) (by decide +kernel)
theorem kt7 (w : World) : Calls Try.prog 11 #[.float .f64 4602678819172646912] w (KC w 13830554455654793216 0) := (t11 _ w).mono fun _ _ h => h.known (by decide +kernel) (by decide +kernel)
theorem ku0 (w : World) : Calls Try.prog 14 #[.int .i64 1, .int .i64 4] w (KC w 0 4607182418800017408) := (t14 _ _ w (by omega) (by omega)).mono fun _ _ h => h.known (by decide +kernel) (by decide +kernel)
theorem ku1 (w : World) : Calls Try.prog 14 #[.int .i64 2, .int .i64 4] w (KC w 13830554455654793216 0) := (t14 _ _ w (by omega) (by omega)).mono fun _ _ h => h.known (by decide +kernel) (by decide +kernel)
theorem ku2 (w : World) : Calls Try.prog 14 #[.int .i64 5, .int .i64 4] w (KC w 0 4607182418800017408) := (t14 _ _ w (by omega) (by omega)).mono fun _ _ h => h.known (by decide +kernel) (by decide +kernel)
theorem ku3 (w : World) : Calls Try.prog 14 #[.int .i64 3, .int .i64 0] w (KC w 0 0) := (t14 _ _ w (by omega) (by omega)).mono fun _ _ h => h.known (by decide +kernel) (by decide +kernel)
theorem ku4 (w : World) : Calls Try.prog 14 #[.int .i64 (-1), .int .i64 4] w (KC w 0 13830554455654793216) := (t14 _ _ w (by omega) (by omega)).mono fun _ _ h => h.known (by decide +kernel) (by decide +kernel)
theorem ka0 (w : World) : Calls Try.prog 19 #[.complex .f64 4607182418800017408 0] w (KF w 0) := (t19 _ _ w).mono fun _ _ h => h.known (by decide +kernel)
theorem ka1 (w : World) : Calls Try.prog 19 #[.complex .f64 0 4607182418800017408] w (KF w 4598175219545276416) := (t19 _ _ w).mono fun _ _ h => h.known (by decide +kernel)
theorem ka2 (w : World) : Calls Try.prog 19 #[.complex .f64 0 13830554455654793216] w (KF w 13821547256400052224) := (t19 _ _ w).mono fun _ _ h => h.known (by decide +kernel)
theorem ka3 (w : World) : Calls Try.prog 19 #[.complex .f64 13830554455654793216 13830554455654793216] w (KF w 13823799056213737472) := (t19 _ _ w).mono fun _ _ h => h.known (by decide +kernel)
theorem ka4 (w : World) : Calls Try.prog 19 #[.complex .f64 0 0] w (KF w 0) := (t19 _ _ w).mono fun _ _ h => h.known (by decide +kernel)
theorem ka5 (w : World) : Calls Try.prog 19 #[.complex .f64 4607182418800017408 4607182418800017408] w (KF w 4593671619917905920) := (t19 _ _ w).mono fun _ _ h => h.known (by decide +kernel)
theorem ka6 (w : World) : Calls Try.prog 19 #[.complex .f64 13830554455654793216 0] w (KF w 13826050856027422720) := (t19 _ _ w).mono fun _ _ h => h.known (by decide +kernel)
theorem kinf (w : World) : Calls Try.prog 7 #[.float .f64 9218868437227405312] w fun e w' => ∃ r, e = .returned (.float .f64 r) ∧ ab r = none ∧ Up w w' := (t7 _ w).mono fun _ _ ⟨r, n, he, hw, hr⟩ => ⟨r, he, hr.out.trans (by decide +kernel), by rw [hw]; exact Up.drewN w n⟩
theorem ke0 : eqF (ab 0) (ab 0) = true := by decide +kernel
theorem ke1 : eqF (ab 4593671619917905920) (ab 4593671619917905920) = true := by decide +kernel
theorem ke2 : eqF (ab 4598175219545276416) (ab 4598175219545276416) = true := by decide +kernel
theorem ke3 : eqF (ab 4604544271217802189) (ab 4604544271217802189) = true := by decide +kernel
theorem ke4 : eqF (ab 4607182418800017408) (ab 4607182418800017408) = true := by decide +kernel
theorem ke5 : eqF (ab 13530955820972524067) (ab 13530955820972524067) = true := by decide +kernel
theorem ke6 : eqF (ab 13821547256400052224) (ab 13821547256400052224) = true := by decide +kernel
theorem ke7 : eqF (ab 13823799056213737472) (ab 13823799056213737472) = true := by decide +kernel
theorem ke8 : eqF (ab 13826050856027422720) (ab 13826050856027422720) = true := by decide +kernel
theorem ke9 : eqF (ab 13827916308072577997) (ab 13827916308072577997) = true := by decide +kernel
theorem ke10 : eqF (ab 13830554455654793216) (ab 13830554455654793216) = true := by decide +kernel
theorem ken : eqF none none = false := rfl
theorem kneg : neg 4604544271217802189 = 13827916308072577997 := by decide +kernel
attribute [local go_sem] ke0 ke1 ke2 ke3 ke4 ke5 ke6 ke7 ke8 ke9 ke10 ken kneg
set_option maxHeartbeats 1000000 in
theorem t13 (w : World) : Calls Try.prog 13 #[] w fun e w' => e = .returned (.bool true) ∧ Up w w' := by
  have hup := Up.refl w
  go_enter Try.func13, Try.ntmps13
  go_wp2_with (first
    | (go_at_call 7; (with_reducible refine (kw4 _).mono ?_); rintro e w' ⟨rfl, hu⟩; replace hup := hup.trans hu; clear hu)
    | (go_at_call 7; (with_reducible refine (kw5 _).mono ?_); rintro e w' ⟨rfl, hu⟩; replace hup := hup.trans hu; clear hu)
    | (go_at_call 11; (with_reducible refine (kt6 _).mono ?_); rintro e w' ⟨rfl, hu⟩; replace hup := hup.trans hu; clear hu)
    | (go_at_call 11; (with_reducible refine (kt7 _).mono ?_); rintro e w' ⟨rfl, hu⟩; replace hup := hup.trans hu; clear hu)
    | (go_at_call 14; (with_reducible refine (ku4 _).mono ?_); rintro e w' ⟨rfl, hu⟩; replace hup := hup.trans hu; clear hu)
    | (go_at_call 19; (with_reducible refine (ka5 _).mono ?_); rintro e w' ⟨rfl, hu⟩; replace hup := hup.trans hu; clear hu)
    | (go_at_call 19; (with_reducible refine (ka6 _).mono ?_); rintro e w' ⟨rfl, hu⟩; replace hup := hup.trans hu; clear hu))
  go_ret
  exact ⟨rfl, hup⟩
theorem t16 (w : World) : Calls Try.prog 16 #[.int .i64 1] w fun e w' => e = .returned (.float .f64 9218868437227405312) ∧ w' = w := by
  go_enter Try.func16, Try.ntmps16
  go_wp2
  go_ret
  exact ⟨rfl, rfl⟩
theorem t17 (w : World) : Calls Try.prog 17 #[.float .f64 0] w fun e w' => e = .returned (.bool false) ∧ w' = w := by
  go_enter Try.func17, Try.ntmps17
  go_wp2
  all_goals go_ret
  all_goals exact ⟨rfl, rfl⟩
theorem t18 (w : World) : Calls Try.prog 18 #[.float .f64 0, .float .f64 13830554455654793216] w fun e w' => e = .returned (.float .f64 9223372036854775808) ∧ w' = w := by
  go_enter Try.func18, Try.ntmps18
  go_wp2
  all_goals go_ret
  all_goals exact ⟨rfl, rfl⟩
set_option maxHeartbeats 4000000 in
theorem t5 (w : World) : Calls Try.prog 5 #[] w fun e w' => e = .returned (.bool true) ∧ Up w w' := by
  have hup := Up.refl w
  go_enter Try.func5, Try.ntmps5
  go_wp2_with (first
    | (go_at_call 7; (with_reducible refine (kw0 _).mono ?_); rintro e w' ⟨rfl, hu⟩; replace hup := hup.trans hu; clear hu)
    | (go_at_call 7; (with_reducible refine (kw1 _).mono ?_); rintro e w' ⟨rfl, hu⟩; replace hup := hup.trans hu; clear hu)
    | (go_at_call 7; (with_reducible refine (kw2 _).mono ?_); rintro e w' ⟨rfl, hu⟩; replace hup := hup.trans hu; clear hu)
    | (go_at_call 7; (with_reducible refine (kw3 _).mono ?_); rintro e w' ⟨rfl, hu⟩; replace hup := hup.trans hu; clear hu)
    | (go_at_call 11; (with_reducible refine (kt0 _).mono ?_); rintro e w' ⟨rfl, hu⟩; replace hup := hup.trans hu; clear hu)
    | (go_at_call 11; (with_reducible refine (kt1 _).mono ?_); rintro e w' ⟨rfl, hu⟩; replace hup := hup.trans hu; clear hu)
    | (go_at_call 11; (with_reducible refine (kt2 _).mono ?_); rintro e w' ⟨rfl, hu⟩; replace hup := hup.trans hu; clear hu)
    | (go_at_call 11; (with_reducible refine (kt3 _).mono ?_); rintro e w' ⟨rfl, hu⟩; replace hup := hup.trans hu; clear hu)
    | (go_at_call 11; (with_reducible refine (kt4 _).mono ?_); rintro e w' ⟨rfl, hu⟩; replace hup := hup.trans hu; clear hu)
    | (go_at_call 11; (with_reducible refine (kt5 _).mono ?_); rintro e w' ⟨rfl, hu⟩; replace hup := hup.trans hu; clear hu)
    | (go_at_call 14; (with_reducible refine (ku0 _).mono ?_); rintro e w' ⟨rfl, hu⟩; replace hup := hup.trans hu; clear hu)
    | (go_at_call 14; (with_reducible refine (ku1 _).mono ?_); rintro e w' ⟨rfl, hu⟩; replace hup := hup.trans hu; clear hu)
    | (go_at_call 14; (with_reducible refine (ku2 _).mono ?_); rintro e w' ⟨rfl, hu⟩; replace hup := hup.trans hu; clear hu)
    | (go_at_call 14; (with_reducible refine (ku3 _).mono ?_); rintro e w' ⟨rfl, hu⟩; replace hup := hup.trans hu; clear hu)
    | (go_at_call 19; (with_reducible refine (ka0 _).mono ?_); rintro e w' ⟨rfl, hu⟩; replace hup := hup.trans hu; clear hu)
    | (go_at_call 19; (with_reducible refine (ka1 _).mono ?_); rintro e w' ⟨rfl, hu⟩; replace hup := hup.trans hu; clear hu)
    | (go_at_call 19; (with_reducible refine (ka2 _).mono ?_); rintro e w' ⟨rfl, hu⟩; replace hup := hup.trans hu; clear hu)
    | (go_at_call 19; (with_reducible refine (ka3 _).mono ?_); rintro e w' ⟨rfl, hu⟩; replace hup := hup.trans hu; clear hu)
    | (go_at_call 19; (with_reducible refine (ka4 _).mono ?_); rintro e w' ⟨rfl, hu⟩; replace hup := hup.trans hu; clear hu)
    | (go_at_call 7; (with_reducible refine (kinf _).mono ?_); rintro e w' ⟨r, rfl, hr, hu⟩; replace hup := hup.trans hu; clear hu)
    | (go_at_call 16; refine (t16 _).mono ?_; rintro e w' ⟨rfl, rfl⟩)
    | (go_at_call 17; refine (t17 _).mono ?_; rintro e w' ⟨rfl, rfl⟩)
    | (go_at_call 18; refine (t18 _).mono ?_; rintro e w' ⟨rfl, rfl⟩)
    | (go_at_call 13; refine (t13 _).mono ?_; rintro e w' ⟨rfl, hu⟩; replace hup := hup.trans hu; clear hu))
  go_ret
  exact ⟨rfl, hup⟩
end Go.Proofs.Ytfoleccljbfkeaa
