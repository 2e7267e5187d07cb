/- Speed, the program's and the reference's. -/
import Derived.Test.YtijfmaepoamkgaaLg
import Derived.Deep.RegionHeld3
import Derived.Deep.RegionWith
namespace Go.Proofs.Ytijfmaepoamkgaa.Gt
open Go.ChangeShapes Go.WideShapes Go.ChangeAt Go.RowKit Go.Fl Ieee
attribute [local go_sem] run_store_float call53 call63 run_neg fold_eq fold_ne fold_lt fold_gt abs_eq

theorem fin_neg_ab {x : Nat} (h : fin (ab x) = true) : fin (ab (neg x)) = true := fin_of (fin_neg (fin_iff h))
/-- A product of a number and a positive one. -/
theorem mul_some_pos {u y : Nat} (hu : isN u = false) (hy : Fnt y) (h0 : 0 < val y) : ∃ p, bin .mul (some u) (some y) = some p := by
  obtain ⟨t, n, j, ey⟩ := fin_read hy
  obtain ⟨rfl, hn⟩ := pos_of ey h0
  show ∃ p, double.mul u y = some p
  unfold Format.mul
  rcases not_nan hu with ⟨s, m, i, hu⟩ | ⟨s, hu⟩
  · rw [hu, ey]; simp [Datum.product]
  · rw [hu, ey]; simp [Datum.product, show ¬ n = 0 by omega]
theorem rows_val {R : Int} (h1 : 1 ≤ R) (h2 : R ≤ 256) : Fnt (floatOfInt .f64 R) ∧ val (floatOfInt .f64 R) = (R : Rat) ∧ 0 < val (floatOfInt .f64 R) := by
  have h := whole_val (z := R) (by unfold P53; omega) (by unfold P53; omega)
  refine ⟨h.1, h.2, ?_⟩
  rw [h.2]
  have : ((0 : Int) : Rat) < (R : Rat) := Rat.intCast_lt_intCast.2 (by omega)
  simpa using this
theorem neg_parts (x : Nat) : neg x % 2 ^ 63 = x % 2 ^ 63 ∧ neg x / 2 ^ 63 = x / 2 ^ 63 ^^^ 1 := by
  have h1 : (x ^^^ 2 ^ 63) % 2 ^ 63 = x % 2 ^ 63 := by rw [Nat.xor_mod_two_pow]; simp
  have h2 : (x ^^^ 2 ^ 63) / 2 ^ 63 = x / 2 ^ 63 ^^^ 1 := by
    have e1 : (x ^^^ 2 ^ 63) >>> 63 = x >>> 63 ^^^ 2 ^ 63 >>> 63 := Nat.shiftRight_xor_distrib
    rw [Nat.shiftRight_eq_div_pow, Nat.shiftRight_eq_div_pow] at e1
    rw [e1]; rfl
  exact ⟨h1, h2⟩
theorem of_parts {x y : Nat} (h1 : x % 2 ^ 63 = y % 2 ^ 63) (h2 : x / 2 ^ 63 = y / 2 ^ 63) : x = y := by omega
theorem neg_neg' (x : Nat) : neg (neg x) = x := by
  obtain ⟨a1, a2⟩ := neg_parts x
  obtain ⟨b1, b2⟩ := neg_parts (neg x)
  refine of_parts (b1.trans a1) ?_
  rw [b2, a2, Nat.xor_assoc]; simp
theorem fin_neg_eq (x : Nat) : fin (ab (neg x)) = fin (ab x) := by
  rw [Bool.eq_iff_iff]
  constructor
  · intro h; have := fin_neg_ab h; rwa [neg_neg'] at this
  · exact fin_neg_ab
theorem quo_some_pos {u y : Nat} (hu : isN u = false) (hy : Fnt y) (h0 : 0 < val y) : ∃ p, bin .quo (some u) (some y) = some p := by
  obtain ⟨t, n, j, ey⟩ := fin_read hy
  obtain ⟨rfl, hn⟩ := pos_of ey h0
  show ∃ p, double.div u y = some p
  unfold Format.div
  rcases not_nan hu with ⟨s, m, i, hu⟩ | ⟨s, hu⟩
  · rw [hu, ey]; simp [Datum.quotient, show ¬ n = 0 by omega]
  · rw [hu, ey]; simp [Datum.quotient]
theorem two_some {u : Nat} (hu : isN u = false) : ∃ p, bin .mul (ab 4611686018427387904) (ab u) = some p := by
  have e : double.read 4611686018427387904 = .number false 4503599627370496 (-51) := by decide +kernel
  rw [ab_some hu]
  show ∃ p, double.mul 4611686018427387904 u = some p
  unfold Format.mul
  rw [e]
  rcases not_nan hu with ⟨s, m, i, hu⟩ | ⟨s, hu⟩ <;> rw [hu] <;> simp [Datum.product]
theorem bin_num {op : BinOp} {o p : Option Nat} {x : Nat} (h : bin op o p = some x) : isN x = false := by
  cases o with
  | none => cases h
  | some a =>
    cases p with
    | none => simp [bin] at h
    | some b => exact bits_ok (op := op) (x := a) (y := b) h
theorem sec_val {E : Int} {r : Nat} (h1 : 1 ≤ E) (h2 : E ≤ 16384) (hr : goodF (ab r) = true) : ∃ sc, secF E (ab r) = some sc ∧ NN sc ∧ isN sc = false := by
  obtain ⟨fr, pr⟩ := good_val hr
  have h := whole_val (z := E) (by unfold P53; omega) (by unfold P53; omega)
  have h0 : 0 ≤ val (floatOfInt .f64 E) := by
    rw [h.2]
    have : ((0 : Int) : Rat) ≤ (E : Rat) := Rat.intCast_le_intCast.2 (by omega)
    simpa using this
  obtain ⟨x, x1, x2, x3⟩ := quo_nn h.1 fr h0 pr
  refine ⟨x, ?_, x2, x3⟩
  unfold secF
  rw [Fnt.ab h.1, Fnt.ab fr]; exact x1
/-- Twice a stretch's seconds. -/
def twoF (E : Int) (r : Option Nat) : Option Nat := bin .mul (ab 4611686018427387904) (secF E r)
def spF (v r : Option Nat) (E R : Int) (b : Option Nat) : Option Nat := bin .quo (bin .mul (bin .quo b (ab (floatOfInt .f64 R))) v) (twoF E r)
def negOr (x : Option Nat) : Option Nat × Int := if fin x = true then (x.map neg, 0) else (ab 0, 6)
/-- What Speed answers. -/
def speedF (c v r : Option Nat) (E R : Int) (b : Option Nat) : Option Nat × Int :=
  if checkF c v r E R ≠ 0 then (ab 0, checkF c v r E R) else if fin b = false then (ab 0, 6) else negOr (spF v r E R b)
theorem negOr_ok {x : Nat} {o : Option Nat} (h : ab x = o) (hf : fin (ab x) = true) : negOr o = (ab (neg x), 0) := by subst h; unfold negOr; rw [if_pos hf, ab_neg]
theorem negOr_not {x : Nat} {o : Option Nat} (h : ab x = o) (hf : fin (ab x) = false) : negOr o = (ab 0, 6) := by subst h; unfold negOr; rw [if_neg (by simp [hf])]
/-- What is fixed ahead of the last quotient. -/
structure SV (v r : Nat) (E R : Int) (b f wv sc tw : Nat) : Prop where
  p1 : bin .quo (ab b) (ab (floatOfInt .f64 R)) = some f
  p2 : bin .mul (ab f) (ab v) = some wv
  p3 : secF E (ab r) = some sc
  p4 : bin .mul (ab 4611686018427387904) (ab sc) = some tw
  p5 : spF (ab v) (ab r) E R (ab b) = bin .quo (ab wv) (ab tw)
theorem sv_of {c v r : Nat} {E R : Int} {b : Nat} (hk : CheckOk c v r E R) (hb : fin (ab b) = true) : ∃ f wv sc tw, SV v r E R b f wv sc tw := by
  obtain ⟨fR, _, pR⟩ := rows_val hk.r1 hk.r2
  obtain ⟨fv, pv⟩ := good_val hk.v
  obtain ⟨sc, s1, s2, s3⟩ := sec_val hk.e1 hk.e2 hk.r
  obtain ⟨f, hf⟩ := quo_some_pos (fin_isN hb) fR pR
  rw [← ab_some (fin_isN hb), ← Fnt.ab fR] at hf
  have nf := bin_num hf
  obtain ⟨wv, hw⟩ := mul_some_pos nf fv pv
  rw [← ab_some nf, ← Fnt.ab fv] at hw
  obtain ⟨tw, ht⟩ := two_some s3
  refine ⟨f, wv, sc, tw, hf, hw, s1, ht, ?_⟩
  unfold spF twoF
  rw [hf, s1, ← ab_some nf, hw, ← ab_some s3, ht, ab_some (bin_num hw), ab_some (bin_num ht)]
theorem t51k {c v r sc : Nat} {E R : Int} (h : secF E (ab r) = some sc) (w : World) : Calls Try.prog 51 #[.agg #[.float .f64 c, .float .f64 v, .float .f64 r, .int .i64 E, .int .i64 R]] w fun e w' => e = .returned (.float .f64 sc) ∧ Hid (Up w w') := by
  refine (t51 c v r E R w).mono ?_
  rintro e w' ⟨x, rfl, hx, hu⟩
  exact ⟨by rw [of_ab (hx.out.trans h)], hu⟩
theorem t52k {c v r sc : Nat} {E R : Int} (h : secF E (ab r) = some sc) (w : World) : Calls Try.prog 52 #[.agg #[.float .f64 c, .float .f64 v, .float .f64 r, .int .i64 E, .int .i64 R]] w fun e w' => e = .returned (.float .f64 sc) ∧ Hid (Up w w') := by
  refine (t52 c v r E R w).mono ?_
  rintro e w' ⟨x, rfl, hx, hu⟩
  exact ⟨by rw [of_ab (hx.out.trans h)], hu⟩
set_option maxHeartbeats 1000000 in
theorem t28 (c v r : Nat) (E R : Int) (s : Nat) (w : World) : Calls Try.prog 28 #[.agg #[.float .f64 c, .float .f64 v, .float .f64 r, .int .i64 E, .int .i64 R], .float .f64 s] w (PR w (speedF (ab c) (ab v) (ab r) E R (ab s))) := by
  have HB := BC.new w c v r E R
  have HU : Hid (Up w (w.alloc (.cells #[.float .f64 c, .float .f64 v, .float .f64 r, .int .i64 E, .int .i64 R] 24))) := Up.alloc _ _
  obtain ⟨b0, b1, b2, b3, b4⟩ := HB
  by_cases hk : checkF (ab c) (ab v) (ab r) E R = 0
  · have HK : Hid (CheckOk c v r E R) := check0 hk
    have HT : Hid (∀ w, Calls Try.prog 26 #[.agg #[.float .f64 c, .float .f64 v, .float .f64 r, .int .i64 E, .int .i64 R]] w (IU w 0)) := fun w => by rw [← hk]; exact t26 c v r E R w
    cases hf : fin (ab s)
    · have HC : Hid (speedF (ab c) (ab v) (ab r) E R (ab s) = (ab 0, 6)) := by show _ = _; unfold speedF; simp [hk, hf]
      clear hk
      go_enter Try.func28, Try.ntmps28
      go_wp2_with (first
            | (go_at_call 26; (with_reducible refine (HT.out _).mono ?_); rintro e w1 ⟨rfl, u1⟩; have c0 := up_cell u1.out b0; have c1 := up_cell u1.out b1; have c2 := up_cell u1.out b2; have c3 := up_cell u1.out b3; have c4 := up_cell u1.out b4)
            | (go_at_call 48; (with_reducible refine (t48 _ _).mono ?_); rintro e w' ⟨rfl, rfl⟩))
      go_ret2
      exact PR.mk (by rw [HC.out]) (by rw [HC.out]) (HU.out.trans u1.out)
    · have HC : Hid (speedF (ab c) (ab v) (ab r) E R (ab s) = negOr (spF (ab v) (ab r) E R (ab s))) := by show _ = _; unfold speedF; simp [hk, hf]
      obtain ⟨f, wv, sc, tw, h1, h2, h3, h4, h5⟩ := sv_of HK.out hf
      have F1 : ∀ w : World, (binOp .quo 22 (.float .f64 s) (.float .f64 (floatOfInt .f64 R))).run Try.prog w = .ok (.float .f64 f) w := fun w => run_fl_some .quo 22 w h1
      have F2 : ∀ w : World, (binOp .mul 22 (.float .f64 f) (.float .f64 v)).run Try.prog w = .ok (.float .f64 wv) w := fun w => run_fl_some .mul 22 w h2
      have F3 : ∀ w : World, (binOp .mul 22 (.float .f64 4611686018427387904) (.float .f64 sc)).run Try.prog w = .ok (.float .f64 tw) w := fun w => run_fl_some .mul 22 w h4
      have H3 : Hid (secF E (ab r) = some sc) := h3
      have H5 : Hid (spF (ab v) (ab r) E R (ab s) = bin .quo (ab wv) (ab tw)) := h5
      clear hk h1 h2 h3 h4 h5
      go_enter Try.func28, Try.ntmps28
      go_wp2_with (first
            | (go_at_call 26; (with_reducible refine (HT.out _).mono ?_); rintro e w1 ⟨rfl, u1⟩; have c0 := up_cell u1.out b0; have c1 := up_cell u1.out b1; have c2 := up_cell u1.out b2; have c3 := up_cell u1.out b3; have c4 := up_cell u1.out b4)
            | (go_at_call 48; (with_reducible refine (t48 _ _).mono ?_); rintro e w' ⟨rfl, rfl⟩))
      go_region_with (first
            | (go_at_call 51; (with_reducible refine (t51k H3.out _).mono ?_); rintro e w2 ⟨rfl, u2⟩; have d0 := up_cell u2.out c0; have d1 := up_cell u2.out c1; have d2 := up_cell u2.out c2; have d3 := up_cell u2.out c3; have d4 := up_cell u2.out c4)
            | ((with_reducible refine upon_fl (op := .quo) (by simp) ?_); intro y4 n4 hy4))
      all_goals go_wp2_with (first
            | (go_at_call 26; (with_reducible refine (HT.out _).mono ?_); rintro e w1 ⟨rfl, u1⟩; have c0 := up_cell u1.out b0; have c1 := up_cell u1.out b1; have c2 := up_cell u1.out b2; have c3 := up_cell u1.out b3; have c4 := up_cell u1.out b4)
            | (go_at_call 48; (with_reducible refine (t48 _ _).mono ?_); rintro e w' ⟨rfl, rfl⟩))
      all_goals go_ret2
      all_goals (rename_i hfn; have hx : ab y4 = spF (ab v) (ab r) E R (ab s) := (by rw [H5.out]; exact hy4.out))
      all_goals first
        | (have e := negOr_not hx (by simpa using hfn); exact PR.mk (by rw [HC.out, e]) (by rw [HC.out, e]) ((((HU.out.trans u1.out).trans (Up.drew _)).trans u2.out).trans (Up.drewN _ _)))
        | (have e := negOr_ok hx (by simpa using hfn); exact PR.mk (by rw [HC.out, e]) (by rw [HC.out, e]) ((((HU.out.trans u1.out).trans (Up.drew _)).trans u2.out).trans (Up.drewN _ _)))
  · have HT : Hid (∀ w, Calls Try.prog 26 #[.agg #[.float .f64 c, .float .f64 v, .float .f64 r, .int .i64 E, .int .i64 R]] w (IU w (checkF (ab c) (ab v) (ab r) E R))) := fun w => t26 c v r E R w
    have HC : Hid (speedF (ab c) (ab v) (ab r) E R (ab s) = (ab 0, checkF (ab c) (ab v) (ab r) E R)) := by show _ = _; unfold speedF; rw [if_pos hk]
    generalize checkF (ab c) (ab v) (ab r) E R = k at *
    go_enter Try.func28, Try.ntmps28
    go_wp2_with (first
            | (go_at_call 26; (with_reducible refine (HT.out _).mono ?_); rintro e w1 ⟨rfl, u1⟩))
    go_ret2
    exact PR.mk (by rw [HC.out]) (by rw [HC.out]) (HU.out.trans u1.out)
set_option maxHeartbeats 1000000 in
theorem t31 (c v r : Nat) (E R : Int) (s : Nat) (w : World) : Calls Try.prog 31 #[.agg #[.float .f64 c, .float .f64 v, .float .f64 r, .int .i64 E, .int .i64 R], .float .f64 s] w (PR w (speedF (ab c) (ab v) (ab r) E R (ab s))) := by
  have HB := BC.new w c v r E R
  have HU : Hid (Up w (w.alloc (.cells #[.float .f64 c, .float .f64 v, .float .f64 r, .int .i64 E, .int .i64 R] 24))) := Up.alloc _ _
  obtain ⟨b0, b1, b2, b3, b4⟩ := HB
  by_cases hk : checkF (ab c) (ab v) (ab r) E R = 0
  · have HK : Hid (CheckOk c v r E R) := check0 hk
    have HT : Hid (∀ w, Calls Try.prog 29 #[.agg #[.float .f64 c, .float .f64 v, .float .f64 r, .int .i64 E, .int .i64 R]] w (IU w 0)) := fun w => by rw [← hk]; exact t29 c v r E R w
    cases hf : fin (ab s)
    · have HC : Hid (speedF (ab c) (ab v) (ab r) E R (ab s) = (ab 0, 6)) := by show _ = _; unfold speedF; simp [hk, hf]
      clear hk
      go_enter Try.func31, Try.ntmps31
      go_wp2_with (first
            | (go_at_call 29; (with_reducible refine (HT.out _).mono ?_); rintro e w1 ⟨rfl, u1⟩; have c0 := up_cell u1.out b0; have c1 := up_cell u1.out b1; have c2 := up_cell u1.out b2; have c3 := up_cell u1.out b3; have c4 := up_cell u1.out b4)
            | (go_at_call 30; (with_reducible refine (t30 _ _).mono ?_); rintro e w' ⟨rfl, rfl⟩))
      go_ret2
      exact PR.mk (by rw [HC.out]) (by rw [HC.out]) (HU.out.trans u1.out)
    · have HC : Hid (speedF (ab c) (ab v) (ab r) E R (ab s) = negOr (spF (ab v) (ab r) E R (ab s))) := by show _ = _; unfold speedF; simp [hk, hf]
      obtain ⟨f, wv, sc, tw, h1, h2, h3, h4, h5⟩ := sv_of HK.out hf
      have F1 : ∀ w : World, (binOp .quo 22 (.float .f64 s) (.float .f64 (floatOfInt .f64 R))).run Try.prog w = .ok (.float .f64 f) w := fun w => run_fl_some .quo 22 w h1
      have F2 : ∀ w : World, (binOp .mul 22 (.float .f64 f) (.float .f64 v)).run Try.prog w = .ok (.float .f64 wv) w := fun w => run_fl_some .mul 22 w h2
      have F3 : ∀ w : World, (binOp .mul 22 (.float .f64 4611686018427387904) (.float .f64 sc)).run Try.prog w = .ok (.float .f64 tw) w := fun w => run_fl_some .mul 22 w h4
      have H3 : Hid (secF E (ab r) = some sc) := h3
      have H5 : Hid (spF (ab v) (ab r) E R (ab s) = bin .quo (ab wv) (ab tw)) := h5
      clear hk h1 h2 h3 h4 h5
      go_enter Try.func31, Try.ntmps31
      go_wp2_with (first
            | (go_at_call 29; (with_reducible refine (HT.out _).mono ?_); rintro e w1 ⟨rfl, u1⟩; have c0 := up_cell u1.out b0; have c1 := up_cell u1.out b1; have c2 := up_cell u1.out b2; have c3 := up_cell u1.out b3; have c4 := up_cell u1.out b4)
            | (go_at_call 30; (with_reducible refine (t30 _ _).mono ?_); rintro e w' ⟨rfl, rfl⟩)
            | (go_at_call 52; (with_reducible refine (t52k H3.out _).mono ?_); rintro e w2 ⟨rfl, u2⟩)
            | ((with_reducible refine upon_fl (op := .quo) (by simp) ?_); intro y4 n4 hy4))
      all_goals go_ret2
      all_goals (rename_i hfn; have hx : ab y4 = spF (ab v) (ab r) E R (ab s) := (by rw [H5.out]; exact hy4.out))
      all_goals rw [fin_neg_eq] at hfn
      all_goals first
        | (have e := negOr_not hx (by simpa using hfn); exact PR.mk (by rw [HC.out, e]) (by rw [HC.out, e]) (((HU.out.trans u1.out).trans u2.out).trans (Up.drewN _ _)))
        | (have e := negOr_ok hx (by simpa using hfn); exact PR.mk (by rw [HC.out, e]) (by rw [HC.out, e]) (((HU.out.trans u1.out).trans u2.out).trans (Up.drewN _ _)))
  · have HT : Hid (∀ w, Calls Try.prog 29 #[.agg #[.float .f64 c, .float .f64 v, .float .f64 r, .int .i64 E, .int .i64 R]] w (IU w (checkF (ab c) (ab v) (ab r) E R))) := fun w => t29 c v r E R w
    have HC : Hid (speedF (ab c) (ab v) (ab r) E R (ab s) = (ab 0, checkF (ab c) (ab v) (ab r) E R)) := by show _ = _; unfold speedF; rw [if_pos hk]
    generalize checkF (ab c) (ab v) (ab r) E R = k at *
    go_enter Try.func31, Try.ntmps31
    go_wp2_with (first
            | (go_at_call 29; (with_reducible refine (HT.out _).mono ?_); rintro e w1 ⟨rfl, u1⟩))
    go_ret2
    exact PR.mk (by rw [HC.out]) (by rw [HC.out]) (HU.out.trans u1.out)
end Go.Proofs.Ytijfmaepoamkgaa.Gt
