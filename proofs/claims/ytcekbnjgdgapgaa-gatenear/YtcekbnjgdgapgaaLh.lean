/- Bin, the program's and the reference's. -/
import Derived.Test.YtcekbnjgdgapgaaLg
import Derived.Deep.QuietTactic
namespace Go.Proofs.Ytcekbnjgdgapgaa
open Go.ChangeShapes Go.WideShapes Go.ChangeAt Go.RowKit Go.Fl Ieee
attribute [local go_sem] run_store_float call36 call37 run_neg fold_eq fold_ne fold_lt fold_gt abs_eq

theorem whole_ok {x : Nat} (h : isN x = false) : ∃ y, wholeF (some x) = some y ∧ isN y = false := by
  unfold wholeF
  split
  · exact ⟨neg (floor (neg x)), rfl, by rw [isN_neg]; exact floor_ok (by rw [isN_neg]; exact h)⟩
  · exact ⟨floor x, rfl, floor_ok h⟩
theorem wrap_some {x : Nat} (h : fin (ab x) = true) : ∃ r, wrapF (ab x) = some r ∧ isN r = false := by
  have hN := fin_isN h
  obtain ⟨y, hy, hyN⟩ := whole_ok hN
  obtain ⟨r, hr⟩ := sub_some (fin_num h) hyN
  have hrN := bits_ok hr
  have e1 : bin .sub (ab x) (wholeF (ab x)) = some r := by rw [ab_some hN, hy]; exact hr
  have one : ∃ s m e, double.read 4607182418800017408 = .number s m e := ⟨_, _, _, rfl⟩
  have hone : ab 4607182418800017408 = some 4607182418800017408 := rfl
  unfold wrapF
  rw [if_pos h, e1]
  simp only
  split
  · obtain ⟨q, hq⟩ := sub_some' hrN one
    exact ⟨q, by rw [hone]; exact hq, bits_ok hq⟩
  · split
    · obtain ⟨q, hq⟩ := add_some' hrN one
      exact ⟨q, by rw [hone]; exact hq, bits_ok hq⟩
    · exact ⟨r, rfl, hrN⟩
theorem fin_neg_ab {x : Nat} (h : fin (ab x) = true) : fin (ab (neg x)) = true := fin_of (fin_neg (fin_iff h))
/-- A product of a number and a positive one. -/
theorem mul_some_pos {u y : Nat} (hu : isN u = false) (hy : Fnt y) (h0 : 0 < val y) : ∃ p, bin .mul (some u) (some y) = some p := by
  obtain ⟨t, n, j, ey⟩ := fin_read hy
  obtain ⟨rfl, hn⟩ := pos_of ey h0
  show ∃ p, double.mul u y = some p
  unfold Format.mul
  rcases not_nan hu with ⟨s, m, i, hu⟩ | ⟨s, hu⟩
  · rw [hu, ey]; simp [Datum.product]
  · rw [hu, ey]; simp [Datum.product, show ¬ n = 0 by omega]
theorem rows_val {R : Int} (h1 : 1 ≤ R) (h2 : R ≤ 256) : Fnt (floatOfInt .f64 R) ∧ val (floatOfInt .f64 R) = (R : Rat) ∧ 0 < val (floatOfInt .f64 R) := by
  have h := whole_val (z := R) (by unfold P53; omega) (by unfold P53; omega)
  refine ⟨h.1, h.2, ?_⟩
  rw [h.2]
  have : ((0 : Int) : Rat) < (R : Rat) := Rat.intCast_lt_intCast.2 (by omega)
  simpa using this
theorem bin_vals {y : Nat} {R : Int} (h : fin (ab y) = true) (h1 : 1 ≤ R) (h2 : R ≤ 256) : ∃ u p, wrapF (ab (neg y)) = some u ∧ bin .mul (ab u) (ab (floatOfInt .f64 R)) = some p ∧ isN p = false := by
  obtain ⟨u, u1, u2⟩ := wrap_some (fin_neg_ab h)
  obtain ⟨f, _, p0⟩ := rows_val h1 h2
  obtain ⟨p, hp⟩ := mul_some_pos u2 f p0
  refine ⟨u, p, u1, ?_, bits_ok (op := .mul) hp⟩
  rw [ab_some u2, Fnt.ab f]; exact hp
theorem t33q {x u : Nat} {w : World} (h : wrapF (ab x) = some u) (n : Nat) : Calls Try.prog 33 #[.float .f64 x] (w.drewN n) fun e w' => e = .returned (.float .f64 u) ∧ ∃ m, w' = (w.drewN n).drewN m :=
  (t33 x _).mono fun e w' ⟨r, m, he, hw, hr⟩ => ⟨by rw [he, of_ab (hr.out.trans h)], m, hw⟩
theorem t35q {x u : Nat} {w : World} (h : wrapF (ab x) = some u) (n : Nat) : Calls Try.prog 35 #[.float .f64 x] (w.drewN n) fun e w' => e = .returned (.float .f64 u) ∧ ∃ m, w' = (w.drewN n).drewN m :=
  (t35 x _).mono fun e w' ⟨r, m, he, hw, hr⟩ => ⟨by rw [he, of_ab (hr.out.trans h)], m, hw⟩
/-- How many turns a speed makes in a stretch. -/
def turnsF (v r : Option Nat) (E : Int) (s : Option Nat) : Option Nat := bin .mul (bin .quo (bin .mul (ab 4611686018427387904) s) v) (secF E r)
/-- What Bin answers. -/
def binF (c v r : Option Nat) (E R : Int) (s : Option Nat) : Option Nat × Int :=
  if checkF c v r E R ≠ 0 then (ab 0, checkF c v r E R) else if fin s = false then (ab 0, 6)
  else if fin (turnsF v r E s) = false then (ab 0, 6) else (bin .mul (wrapF ((turnsF v r E s).map neg)) (ab (floatOfInt .f64 R)), 0)
set_option maxHeartbeats 1000000 in
theorem t17 (c v r : Nat) (E R : Int) (s : Nat) (w : World) : Calls Try.prog 17 #[.agg #[.float .f64 c, .float .f64 v, .float .f64 r, .int .i64 E, .int .i64 R], .float .f64 s] w (PR w (binF (ab c) (ab v) (ab r) E R (ab s))) := by
  have HB := BC.new w c v r E R
  have HU : Hid (Up w (w.alloc (.cells #[.float .f64 c, .float .f64 v, .float .f64 r, .int .i64 E, .int .i64 R] 24))) := Up.alloc _ _
  obtain ⟨b0, b1, b2, b3, b4⟩ := HB
  by_cases hk : checkF (ab c) (ab v) (ab r) E R = 0
  · have HK : Hid (CheckOk c v r E R) := check0 hk
    have HT : Hid (∀ w, Calls Try.prog 9 #[.agg #[.float .f64 c, .float .f64 v, .float .f64 r, .int .i64 E, .int .i64 R]] w (IU w 0)) := fun w => by rw [← hk]; exact t9 c v r E R w
    cases hf : fin (ab s)
    · have HC : Hid (binF (ab c) (ab v) (ab r) E R (ab s) = (ab 0, 6)) := by show _ = _; unfold binF; simp [hk, hf]
      clear hk
      go_enter Try.func17, Try.ntmps17
      go_wp2_with (first
            | (go_at_call 9; (with_reducible refine (HT.out _).mono ?_); rintro e w1 ⟨rfl, u1⟩; have c0 := up_cell u1.out b0; have c1 := up_cell u1.out b1; have c2 := up_cell u1.out b2; have c3 := up_cell u1.out b3; have c4 := up_cell u1.out b4)
            | (go_at_call 28; (with_reducible refine (t28 _ _).mono ?_); rintro e w' ⟨rfl, rfl⟩))
      go_ret2
      exact PR.mk (by rw [HC.out]) (by rw [HC.out]) (HU.out.trans u1.out)
    · have HC : Hid (binF (ab c) (ab v) (ab r) E R (ab s) = if fin (turnsF (ab v) (ab r) E (ab s)) = false then (ab 0, 6) else (bin .mul (wrapF ((turnsF (ab v) (ab r) E (ab s)).map neg)) (ab (floatOfInt .f64 R)), 0)) := by show _ = _; unfold binF; simp [hk, hf]
      clear hk
      go_enter Try.func17, Try.ntmps17
      go_wp2_with (first
            | (go_at_call 9; (with_reducible refine (HT.out _).mono ?_); rintro e w1 ⟨rfl, u1⟩; have c0 := up_cell u1.out b0; have c1 := up_cell u1.out b1; have c2 := up_cell u1.out b2; have c3 := up_cell u1.out b3; have c4 := up_cell u1.out b4)
            | (go_at_call 28; (with_reducible refine (t28 _ _).mono ?_); rintro e w' ⟨rfl, rfl⟩)
            | ((with_reducible refine upon_fl (op := .mul) (x := 4611686018427387904) (by simp) ?_); intro y1 n1 hy1)
            | ((with_reducible refine upon_fl (op := .quo) (by simp) ?_); intro y2 n2 hy2)
            | (go_at_call 32; (with_reducible refine (t32 _ _ _ _ _ _).mono ?_); rintro e w2 ⟨y3, rfl, hy3, u2⟩; have d4 := up_cell ((Up.drewN _ _).trans u2.out) c4)
            | ((with_reducible refine upon_fl (op := .mul) (by simp) ?_); intro y4 n4 hy4))
      · go_ret2
        rename_i hfn
        have hx : turnsF (ab v) (ab r) E (ab s) = ab y4 := by rw [hy4.out, hy3.out, hy2.out, hy1.out]; rfl
        have e := HC.out
        rw [hx, if_pos (by simpa using hfn)] at e
        exact PR.mk (by rw [e]) (by rw [e]) ((((HU.out.trans u1.out).trans (Up.drewN _ _)).trans u2.out).trans (Up.drewN _ _))
      · rename_i hfn kk ak
        have hfn' : fin (ab y4) = true := by simpa using hfn
        have hx : turnsF (ab v) (ab r) E (ab s) = ab y4 := by rw [hy4.out, hy3.out, hy2.out, hy1.out]; rfl
        have e := HC.out
        rw [hx, if_neg (by simp [hfn']), ← ab_neg] at e
        obtain ⟨u, p, v1, v2, v3⟩ := bin_vals hfn' HK.out.r1 HK.out.r2
        rw [v1] at e
        have hU : Hid (Up w (w2.drewN n4)) := (((HU.out.trans u1.out).trans (Up.drewN _ _)).trans u2.out).trans (Up.drewN _ _)
        have d5 : (w2.drewN n4).cell? ⟨w.heap.size, 4, none⟩ = some (.int .i64 R) := d4
        have HE : Hid (binF (ab c) (ab v) (ab r) E R (ab s) = (some p, 0)) := by
          show _ = _
          rw [e]
          have : some u = ab u := by
            cases hN : isN u with
            | false => exact (ab_some hN).symm
            | true => rw [ab_none hN] at v2; cases v2
          rw [this, v2]
        have F1 : ∀ w : World, (binOp .mul 22 (.float .f64 u) (.float .f64 (floatOfInt .f64 R))).run Try.prog w = .ok (.float .f64 p) w := fun w => run_fl_some .mul 22 w v2
        have HV : Hid (wrapF (ab (neg y4)) = some u) := v1
        have HP : Hid (isN p = false) := v3
        clear HC v1 v2 v3 e hx hfn hfn' hy1 hy2 hy3 hy4 u1 u2 d4
        generalize w2.drewN n4 = W at *
        go_quiet (first | (go_at_call 33; (with_reducible refine Calls.quiet_of (t33q HV.out _))))
        go_wp2
        go_ret2
        exact PR.mk (by rw [HE.out]; exact ab_some HP.out) (by rw [HE.out]) (hU.out.trans (Up.drewN _ _))
  · have HT : Hid (∀ w, Calls Try.prog 9 #[.agg #[.float .f64 c, .float .f64 v, .float .f64 r, .int .i64 E, .int .i64 R]] w (IU w (checkF (ab c) (ab v) (ab r) E R))) := fun w => t9 c v r E R w
    have HC : Hid (binF (ab c) (ab v) (ab r) E R (ab s) = (ab 0, checkF (ab c) (ab v) (ab r) E R)) := by show _ = _; unfold binF; rw [if_pos hk]
    generalize checkF (ab c) (ab v) (ab r) E R = k at *
    go_enter Try.func17, Try.ntmps17
    go_wp2_with (first
            | (go_at_call 9; (with_reducible refine (HT.out _).mono ?_); rintro e w1 ⟨rfl, u1⟩))
    go_ret2
    exact PR.mk (by rw [HC.out]) (by rw [HC.out]) (HU.out.trans u1.out)
set_option maxHeartbeats 1000000 in
theorem t18 (c v r : Nat) (E R : Int) (s : Nat) (w : World) : Calls Try.prog 18 #[.agg #[.float .f64 c, .float .f64 v, .float .f64 r, .int .i64 E, .int .i64 R], .float .f64 s] w (PR w (binF (ab c) (ab v) (ab r) E R (ab s))) := by
  have HB := BC.new w c v r E R
  have HU : Hid (Up w (w.alloc (.cells #[.float .f64 c, .float .f64 v, .float .f64 r, .int .i64 E, .int .i64 R] 24))) := Up.alloc _ _
  obtain ⟨b0, b1, b2, b3, b4⟩ := HB
  by_cases hk : checkF (ab c) (ab v) (ab r) E R = 0
  · have HK : Hid (CheckOk c v r E R) := check0 hk
    have HT : Hid (∀ w, Calls Try.prog 10 #[.agg #[.float .f64 c, .float .f64 v, .float .f64 r, .int .i64 E, .int .i64 R]] w (IU w 0)) := fun w => by rw [← hk]; exact t10 c v r E R w
    cases hf : fin (ab s)
    · have HC : Hid (binF (ab c) (ab v) (ab r) E R (ab s) = (ab 0, 6)) := by show _ = _; unfold binF; simp [hk, hf]
      clear hk
      go_enter Try.func18, Try.ntmps18
      go_wp2_with (first
            | (go_at_call 10; (with_reducible refine (HT.out _).mono ?_); rintro e w1 ⟨rfl, u1⟩; have c0 := up_cell u1.out b0; have c1 := up_cell u1.out b1; have c2 := up_cell u1.out b2; have c3 := up_cell u1.out b3; have c4 := up_cell u1.out b4)
            | (go_at_call 29; (with_reducible refine (t29 _ _).mono ?_); rintro e w' ⟨rfl, rfl⟩))
      go_ret2
      exact PR.mk (by rw [HC.out]) (by rw [HC.out]) (HU.out.trans u1.out)
    · have HC : Hid (binF (ab c) (ab v) (ab r) E R (ab s) = if fin (turnsF (ab v) (ab r) E (ab s)) = false then (ab 0, 6) else (bin .mul (wrapF ((turnsF (ab v) (ab r) E (ab s)).map neg)) (ab (floatOfInt .f64 R)), 0)) := by show _ = _; unfold binF; simp [hk, hf]
      clear hk
      go_enter Try.func18, Try.ntmps18
      go_wp2_with (first
            | (go_at_call 10; (with_reducible refine (HT.out _).mono ?_); rintro e w1 ⟨rfl, u1⟩; have c0 := up_cell u1.out b0; have c1 := up_cell u1.out b1; have c2 := up_cell u1.out b2; have c3 := up_cell u1.out b3; have c4 := up_cell u1.out b4)
            | (go_at_call 29; (with_reducible refine (t29 _ _).mono ?_); rintro e w' ⟨rfl, rfl⟩)
            | ((with_reducible refine upon_fl (op := .mul) (x := 4611686018427387904) (by simp) ?_); intro y1 n1 hy1)
            | ((with_reducible refine upon_fl (op := .quo) (by simp) ?_); intro y2 n2 hy2)
            | (go_at_call 34; (with_reducible refine (t34 _ _ _ _ _ _).mono ?_); rintro e w2 ⟨y3, rfl, hy3, u2⟩; have d4 := up_cell ((Up.drewN _ _).trans u2.out) c4)
            | ((with_reducible refine upon_fl (op := .mul) (by simp) ?_); intro y4 n4 hy4))
      · go_ret2
        rename_i hfn
        have hx : turnsF (ab v) (ab r) E (ab s) = ab y4 := by rw [hy4.out, hy3.out, hy2.out, hy1.out]; rfl
        have e := HC.out
        rw [hx, if_pos (by simpa using hfn)] at e
        exact PR.mk (by rw [e]) (by rw [e]) ((((HU.out.trans u1.out).trans (Up.drewN _ _)).trans u2.out).trans (Up.drewN _ _))
      · rename_i hfn kk ak
        have hfn' : fin (ab y4) = true := by simpa using hfn
        have hx : turnsF (ab v) (ab r) E (ab s) = ab y4 := by rw [hy4.out, hy3.out, hy2.out, hy1.out]; rfl
        have e := HC.out
        rw [hx, if_neg (by simp [hfn']), ← ab_neg] at e
        obtain ⟨u, p, v1, v2, v3⟩ := bin_vals hfn' HK.out.r1 HK.out.r2
        rw [v1] at e
        have hU : Hid (Up w (w2.drewN n4)) := (((HU.out.trans u1.out).trans (Up.drewN _ _)).trans u2.out).trans (Up.drewN _ _)
        have d5 : (w2.drewN n4).cell? ⟨w.heap.size, 4, none⟩ = some (.int .i64 R) := d4
        have HE : Hid (binF (ab c) (ab v) (ab r) E R (ab s) = (some p, 0)) := by
          show _ = _
          rw [e]
          have : some u = ab u := by
            cases hN : isN u with
            | false => exact (ab_some hN).symm
            | true => rw [ab_none hN] at v2; cases v2
          rw [this, v2]
        have F1 : ∀ w : World, (binOp .mul 22 (.float .f64 u) (.float .f64 (floatOfInt .f64 R))).run Try.prog w = .ok (.float .f64 p) w := fun w => run_fl_some .mul 22 w v2
        have HV : Hid (wrapF (ab (neg y4)) = some u) := v1
        have HP : Hid (isN p = false) := v3
        clear HC v1 v2 v3 e hx hfn hfn' hy1 hy2 hy3 hy4 u1 u2 d4
        generalize w2.drewN n4 = W at *
        go_quiet (first | (go_at_call 35; (with_reducible refine Calls.quiet_of (t35q HV.out _))))
        go_wp2
        go_ret2
        exact PR.mk (by rw [HE.out]; exact ab_some HP.out) (by rw [HE.out]) (hU.out.trans (Up.drewN _ _))
  · have HT : Hid (∀ w, Calls Try.prog 10 #[.agg #[.float .f64 c, .float .f64 v, .float .f64 r, .int .i64 E, .int .i64 R]] w (IU w (checkF (ab c) (ab v) (ab r) E R))) := fun w => t10 c v r E R w
    have HC : Hid (binF (ab c) (ab v) (ab r) E R (ab s) = (ab 0, checkF (ab c) (ab v) (ab r) E R)) := by show _ = _; unfold binF; rw [if_pos hk]
    generalize checkF (ab c) (ab v) (ab r) E R = k at *
    go_enter Try.func18, Try.ntmps18
    go_wp2_with (first
            | (go_at_call 10; (with_reducible refine (HT.out _).mono ?_); rintro e w1 ⟨rfl, u1⟩))
    go_ret2
    exact PR.mk (by rw [HC.out]) (by rw [HC.out]) (HU.out.trans u1.out)
end Go.Proofs.Ytcekbnjgdgapgaa
