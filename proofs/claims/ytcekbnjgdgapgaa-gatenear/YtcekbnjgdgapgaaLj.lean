/- Blind, the program's and the reference's. -/
import Derived.Test.YtcekbnjgdgapgaaLi
namespace Go.Proofs.Ytcekbnjgdgapgaa
open Go.ChangeShapes Go.WideShapes Go.ChangeAt Go.RowKit Go.Fl Ieee
attribute [local go_sem] run_store_float call36 call37 run_neg fold_eq fold_ne fold_lt fold_gt abs_eq

/-- What Blind answers. -/
def blindF (c v r : Option Nat) (E R : Int) : Option Nat × Option Nat × Int :=
  if checkF c v r E R ≠ 0 then (ab 0, ab 0, checkF c v r E R)
  else if fin (bin .mul (ab (floatOfInt .f64 E)) c) = false ∨ fin (bin .quo v (twoF E r)) = false then (ab 0, ab 0, 6)
  else (bin .mul (ab (floatOfInt .f64 E)) c, bin .quo v (twoF E r), 0)
def P3 (w : World) (p : Option Nat × Option Nat × Int) (e : Ending) (w' : World) : Prop := ∃ x y, e = .returned (.tuple #[.float .f64 x, .float .f64 y, .int .i64 p.2.2]) ∧ Hid (ab x = p.1) ∧ Hid (ab y = p.2.1) ∧ Hid (Up w w')
theorem P3.mk {w w' : World} {p : Option Nat × Option Nat × Int} {x y : Nat} {k : Int} (h : p = (ab x, ab y, k)) (hu : Up w w') : P3 w p (.returned (.tuple #[.float .f64 x, .float .f64 y, .int .i64 k])) w' := by
  subst h; exact ⟨x, y, rfl, rfl, rfl, hu⟩
theorem two_of {E : Int} {r sc tw : Nat} (h : secF E (ab r) = some sc) (h2 : bin .mul (ab 4611686018427387904) (ab sc) = some tw) : twoF E (ab r) = ab tw := by
  unfold twoF
  rw [h, ← ab_some (bin_num (by exact h)), h2, ab_some (bin_num h2)]
theorem bp1 {α : Type} {A B : α} {p q : Bool} (h : (!q) = true) : (if p = false ∨ q = false then A else B) = A := by cases q <;> simp_all
theorem bp2 {α : Type} {A B : α} {p q : Bool} (h1 : p = true) (h : (!q) = false) : (if p = false ∨ q = false then A else B) = B := by cases q <;> simp_all
theorem bp3 {α : Type} {A B : α} {p q : Bool} (h : ¬ p = true) : (if p = false ∨ q = false then A else B) = A := by cases p <;> simp_all
set_option maxHeartbeats 1000000 in
theorem t21 (c v r : Nat) (E R : Int) (w : World) : Calls Try.prog 21 #[.agg #[.float .f64 c, .float .f64 v, .float .f64 r, .int .i64 E, .int .i64 R]] w (P3 w (blindF (ab c) (ab v) (ab r) E R)) := by
  have HB := BC.new w c v r E R
  have HU : Hid (Up w (w.alloc (.cells #[.float .f64 c, .float .f64 v, .float .f64 r, .int .i64 E, .int .i64 R] 24))) := Up.alloc _ _
  obtain ⟨b0, b1, b2, b3, b4⟩ := HB
  by_cases hk : checkF (ab c) (ab v) (ab r) E R = 0
  · have HK := check0 hk
    have HT : Hid (∀ w, Calls Try.prog 9 #[.agg #[.float .f64 c, .float .f64 v, .float .f64 r, .int .i64 E, .int .i64 R]] w (IU w 0)) := fun w => by rw [← hk]; exact t9 c v r E R w
    obtain ⟨sc, s1, s2, s3⟩ := sec_val HK.e1 HK.e2 HK.r
    obtain ⟨tw, h4⟩ := two_some s3
    have H5 : Hid (twoF E (ab r) = ab tw) := two_of s1 h4
    have hEv := whole_val (z := E) (by have := HK.e1; unfold P53; omega) (by have := HK.e2; unfold P53; omega)
    obtain ⟨m, hm⟩ := bin_some_mul hEv.1 (good_val HK.c).1
    rw [← Fnt.ab hEv.1, ← Fnt.ab (good_val HK.c).1] at hm
    have HM : Hid (bin .mul (ab (floatOfInt .f64 E)) (ab c) = ab m) := by show _ = _; rw [ab_some (bin_num hm)]; exact hm
    have F1 : ∀ w : World, (binOp .mul 22 (.float .f64 (floatOfInt .f64 E)) (.float .f64 c)).run Try.prog w = .ok (.float .f64 m) w := fun w => run_fl_some .mul 22 w hm
    have F3 : ∀ w : World, (binOp .mul 22 (.float .f64 4611686018427387904) (.float .f64 sc)).run Try.prog w = .ok (.float .f64 tw) w := fun w => run_fl_some .mul 22 w h4
    have H3 : Hid (secF E (ab r) = some sc) := s1
    have HC : Hid (∀ y, ab y = bin .quo (ab v) (ab tw) → blindF (ab c) (ab v) (ab r) E R = if fin (ab m) = false ∨ fin (ab y) = false then (ab 0, ab 0, 6) else (ab m, ab y, 0)) := by
      intro y hy
      unfold blindF
      rw [if_neg (by simp [hk]), HM.out, H5.out, ← hy]
    clear hk hm hEv h4 s1 s2 s3 HK
    go_enter Try.func21, Try.ntmps21
    go_wp2_with (first
            | (go_at_call 9; (with_reducible refine (HT.out _).mono ?_); rintro e w1 ⟨rfl, u1⟩; have c0 := up_cell u1.out b0; have c1 := up_cell u1.out b1; have c2 := up_cell u1.out b2; have c3 := up_cell u1.out b3; have c4 := up_cell u1.out b4))
    go_region_with (first
            | (go_at_call 32; (with_reducible refine (t32k H3.out _).mono ?_); rintro e w2 ⟨rfl, u2⟩; have d0 := up_cell u2.out c0; have d1 := up_cell u2.out c1; have d2 := up_cell u2.out c2; have d3 := up_cell u2.out c3; have d4 := up_cell u2.out c4)
            | ((with_reducible refine upon_fl (op := .quo) (by simp) ?_); intro y4 n4 hy4))
    all_goals go_wp2_with (first
            | (go_at_call 28; (with_reducible refine (t28 _ _).mono ?_); rintro e w' ⟨rfl, rfl⟩))
    all_goals go_ret3
    all_goals (have e := HC.out y4 hy4.out)
    all_goals (refine P3.mk ?_ ((((HU.out.trans u1.out).trans (Up.drew _)).trans u2.out).trans (Up.drewN _ _)); rw [e])
    all_goals first
        | (rename_i g1 g2; exact bp2 g1 g2)
        | (rename_i g2; exact bp1 g2)
        | (rename_i g1; exact bp3 g1)
  · have HT : Hid (∀ w, Calls Try.prog 9 #[.agg #[.float .f64 c, .float .f64 v, .float .f64 r, .int .i64 E, .int .i64 R]] w (IU w (checkF (ab c) (ab v) (ab r) E R))) := fun w => t9 c v r E R w
    have HC : Hid (blindF (ab c) (ab v) (ab r) E R = (ab 0, ab 0, checkF (ab c) (ab v) (ab r) E R)) := by show _ = _; unfold blindF; rw [if_pos hk]
    generalize checkF (ab c) (ab v) (ab r) E R = k at *
    go_enter Try.func21, Try.ntmps21
    go_wp2_with (first
            | (go_at_call 9; (with_reducible refine (HT.out _).mono ?_); rintro e w1 ⟨rfl, u1⟩))
    go_ret3
    exact P3.mk HC.out (HU.out.trans u1.out)
set_option maxHeartbeats 1000000 in
theorem t22 (c v r : Nat) (E R : Int) (w : World) : Calls Try.prog 22 #[.agg #[.float .f64 c, .float .f64 v, .float .f64 r, .int .i64 E, .int .i64 R]] w (P3 w (blindF (ab c) (ab v) (ab r) E R)) := by
  have HB := BC.new w c v r E R
  have HU : Hid (Up w (w.alloc (.cells #[.float .f64 c, .float .f64 v, .float .f64 r, .int .i64 E, .int .i64 R] 24))) := Up.alloc _ _
  obtain ⟨b0, b1, b2, b3, b4⟩ := HB
  by_cases hk : checkF (ab c) (ab v) (ab r) E R = 0
  · have HK := check0 hk
    have HT : Hid (∀ w, Calls Try.prog 10 #[.agg #[.float .f64 c, .float .f64 v, .float .f64 r, .int .i64 E, .int .i64 R]] w (IU w 0)) := fun w => by rw [← hk]; exact t10 c v r E R w
    obtain ⟨sc, s1, s2, s3⟩ := sec_val HK.e1 HK.e2 HK.r
    obtain ⟨tw, h4⟩ := two_some s3
    have H5 : Hid (twoF E (ab r) = ab tw) := two_of s1 h4
    have hEv := whole_val (z := E) (by have := HK.e1; unfold P53; omega) (by have := HK.e2; unfold P53; omega)
    obtain ⟨m, hm⟩ := bin_some_mul hEv.1 (good_val HK.c).1
    rw [← Fnt.ab hEv.1, ← Fnt.ab (good_val HK.c).1] at hm
    have HM : Hid (bin .mul (ab (floatOfInt .f64 E)) (ab c) = ab m) := by show _ = _; rw [ab_some (bin_num hm)]; exact hm
    have F1 : ∀ w : World, (binOp .mul 22 (.float .f64 (floatOfInt .f64 E)) (.float .f64 c)).run Try.prog w = .ok (.float .f64 m) w := fun w => run_fl_some .mul 22 w hm
    have F3 : ∀ w : World, (binOp .mul 22 (.float .f64 4611686018427387904) (.float .f64 sc)).run Try.prog w = .ok (.float .f64 tw) w := fun w => run_fl_some .mul 22 w h4
    have H3 : Hid (secF E (ab r) = some sc) := s1
    have HC : Hid (∀ y, ab y = bin .quo (ab v) (ab tw) → blindF (ab c) (ab v) (ab r) E R = if fin (ab m) = false ∨ fin (ab y) = false then (ab 0, ab 0, 6) else (ab m, ab y, 0)) := by
      intro y hy
      unfold blindF
      rw [if_neg (by simp [hk]), HM.out, H5.out, ← hy]
    clear hk hm hEv h4 s1 s2 s3 HK
    go_enter Try.func22, Try.ntmps22
    go_wp2_with (first
            | (go_at_call 10; (with_reducible refine (HT.out _).mono ?_); rintro e w1 ⟨rfl, u1⟩; have c0 := up_cell u1.out b0; have c1 := up_cell u1.out b1; have c2 := up_cell u1.out b2; have c3 := up_cell u1.out b3; have c4 := up_cell u1.out b4)
            | (go_at_call 34; (with_reducible refine (t34k H3.out _).mono ?_); rintro e w2 ⟨rfl, u2⟩; have d0 := up_cell u2.out c0; have d1 := up_cell u2.out c1; have d2 := up_cell u2.out c2; have d3 := up_cell u2.out c3; have d4 := up_cell u2.out c4)
            | ((with_reducible refine upon_fl (op := .quo) (by simp) ?_); intro y4 n4 hy4)
            | (go_at_call 29; (with_reducible refine (t29 _ _).mono ?_); rintro e w' ⟨rfl, rfl⟩))
    all_goals go_ret3
    all_goals (have e := HC.out y4 hy4.out)
    all_goals (refine P3.mk ?_ (((HU.out.trans u1.out).trans u2.out).trans (Up.drewN _ _)); rw [e])
    all_goals first
        | (rename_i g1 g2; exact bp2 g1 g2)
        | (rename_i g2; exact bp1 g2)
        | (rename_i g1; exact bp3 g1)
  · have HT : Hid (∀ w, Calls Try.prog 10 #[.agg #[.float .f64 c, .float .f64 v, .float .f64 r, .int .i64 E, .int .i64 R]] w (IU w (checkF (ab c) (ab v) (ab r) E R))) := fun w => t10 c v r E R w
    have HC : Hid (blindF (ab c) (ab v) (ab r) E R = (ab 0, ab 0, checkF (ab c) (ab v) (ab r) E R)) := by show _ = _; unfold blindF; rw [if_pos hk]
    generalize checkF (ab c) (ab v) (ab r) E R = k at *
    go_enter Try.func22, Try.ntmps22
    go_wp2_with (first
            | (go_at_call 10; (with_reducible refine (HT.out _).mono ?_); rintro e w1 ⟨rfl, u1⟩))
    go_ret3
    exact P3.mk HC.out (HU.out.trans u1.out)
end Go.Proofs.Ytcekbnjgdgapgaa
