/- Cell, the program's and the reference's. -/
import Derived.Test.YtcekbnjgdgapgaaLd
import Derived.Test.YtcekbnjgdgapgaaLe
import Derived.BigQuiet
namespace Go.Proofs.Ytcekbnjgdgapgaa
open Go.ChangeShapes Go.WideShapes Go.ChangeAt Go.RowKit Go.Fl Ieee
attribute [local go_sem] run_store_float call36 call37 run_neg fold_eq fold_ne fold_lt fold_gt abs_eq

theorem run_fl_some {P : Program} (op : BinOp) (t : TypeId) {x y r : Nat} (w : World) (h : bin op (ab x) (ab y) = some r) : (binOp op t (.float .f64 x) (.float .f64 y)).run P w = .ok (.float .f64 r) w :=
  run_float_arith w op t .f64 x y r (by rw [bits_ab]; exact h)
structure CheckOk (c v r : Nat) (E R : Int) : Prop where
  c : goodF (ab c) = true
  v : goodF (ab v) = true
  r : goodF (ab r) = true
  e1 : 1 ≤ E
  e2 : E ≤ 16384
  r1 : 1 ≤ R
  r2 : R ≤ 256
theorem check0 {c v r : Nat} {E R : Int} (h : checkF (ab c) (ab v) (ab r) E R = 0) : CheckOk c v r E R := by
  unfold checkF at h
  split at h
  · rename_i k; exact ⟨k.1, k.2.1, k.2.2.1, k.2.2.2.1, k.2.2.2.2.1, k.2.2.2.2.2.1, k.2.2.2.2.2.2⟩
  · cases h
theorem good_val {x : Nat} (h : goodF (ab x) = true) : Fnt x ∧ 0 < val x := by
  unfold goodF at h
  rw [Bool.and_eq_true] at h
  have hx := fin_iff h.1
  have := h.2
  rw [gtF_val hx zero_fnt, val0] at this
  exact ⟨hx, by simpa using this⟩
/-- The place among all cells, as a float. -/
def placeF (c m : Option Nat) : Option Nat := (bin .quo m c).map floor
def bigF (q : Option Nat) : Bool := gtF q (ab 4832362400168542208) || eqF q (ab 4832362400168542208)
def intF (q : Option Nat) : Int := (floatToIntVal .f64 (q.getD 0) .i64).getD 0
/-- What Cell answers: the cell, the turns, the error. -/
def cellF (c v r : Option Nat) (E R : Int) (m : Option Nat) : Int × Int × Int :=
  if checkF c v r E R ≠ 0 then (0, 0, checkF c v r E R) else if fin m = false then (0, 0, 6) else if ltF m (ab 0) = true then (0, 0, 2)
  else if bigF (placeF c m) = true then (0, 0, 3) else (intF (placeF c m) % E, intF (placeF c m) / E, 0)
def I3 (w : World) (p : Int × Int × Int) (e : Ending) (w' : World) : Prop := e = .returned (.tuple #[.int .i64 p.1, .int .i64 p.2.1, .int .i64 p.2.2]) ∧ Hid (Up w w')
theorem t30k {x q : Nat} (hx : isN x = false) (hq : floor x = q) (w : World) : Calls Try.prog 30 #[.float .f64 x] w fun e w' => e = .returned (.float .f64 q) ∧ ∃ n, w' = w.drewN n := by
  refine (t30 x w).mono ?_
  rintro e w' ⟨r, n, rfl, rfl, hr⟩
  have h := hr.out
  rw [ab_some hx] at h
  rw [← hq, of_ab h]
  exact ⟨rfl, n, rfl⟩
theorem place_some {c m : Nat} (hc : goodF (ab c) = true) (hm : fin (ab m) = true) (h0 : ltF (ab m) (ab 0) = false) : ∃ r q, bin .quo (ab m) (ab c) = some r ∧ isN r = false ∧ floor r = q ∧ placeF (ab c) (ab m) = some q ∧ NN q ∧ isN q = false ∧ ab q = some q := by
  obtain ⟨fc, pc⟩ := good_val hc
  have fm := fin_iff hm
  have pm : 0 ≤ val m := by
    rw [ltF_val fm zero_fnt, val0] at h0
    simp at h0
    grind
  obtain ⟨r, r1, r2, r3⟩ := quo_nn fm fc pm pc
  obtain ⟨q1, q2⟩ := floor_nn r2 r3
  rw [← Fnt.ab fm, ← Fnt.ab fc] at r1
  exact ⟨r, _, r1, r3, rfl, by unfold placeF; rw [r1]; rfl, q1, q2, ab_some q2⟩
theorem intF_val {q : Nat} (h1 : NN q) (h2 : isN q = false) (h3 : bigF (some q) = false) : ∃ K : Nat, intF (some q) = (K : Int) ∧ floatToIntVal .f64 q .i64 = some (K : Int) ∧ K < 1125899906842624 := by
  unfold bigF at h3
  rw [← ab_some h2] at h3
  obtain ⟨f, v⟩ := nn_fnt h1 h2 h3
  obtain ⟨K, k1, _, _, k4⟩ := toInt_val f (nn_val h1) v
  refine ⟨K, ?_, k1, k4⟩
  unfold intF
  simp [k1]
theorem run_conv (q : Nat) (z : Int) (h : floatToIntVal .f64 q .i64 = some z) (w : World) : (convert 22 3 (.float .f64 q)).run Try.prog w = .ok (.int .i64 z) w :=
  run_convert_float_int w 22 3 .f64 .i64 q z (by kernel_rfl) Try.underlying3 h
theorem div_in {K : Nat} {E : Int} (hK : K < 1125899906842624) (h : 1 ≤ E) : 0 ≤ (K : Int) / E ∧ (K : Int) / E ≤ 1125899906842624 ∧ 0 ≤ (K : Int) % E ∧ (K : Int) % E < E := by
  have h1 := Int.ediv_nonneg (show (0 : Int) ≤ K by omega) (show 0 ≤ E by omega)
  have h2 := Int.ediv_le_self E (show (0 : Int) ≤ K by omega)
  exact ⟨h1, by omega, Int.emod_nonneg _ (by omega), Int.emod_lt_of_pos _ (by omega)⟩
set_option maxHeartbeats 1000000 in
theorem t11 (c v r : Nat) (E R : Int) (m : Nat) (w : World) : Calls Try.prog 11 #[.agg #[.float .f64 c, .float .f64 v, .float .f64 r, .int .i64 E, .int .i64 R], .float .f64 m] w (I3 w (cellF (ab c) (ab v) (ab r) E R (ab m))) := by
  have HB := BC.new w c v r E R
  have HU : Hid (Up w (w.alloc (.cells #[.float .f64 c, .float .f64 v, .float .f64 r, .int .i64 E, .int .i64 R] 24))) := Up.alloc _ _
  obtain ⟨b0, b1, b2, b3, b4⟩ := HB
  by_cases hk : checkF (ab c) (ab v) (ab r) E R = 0
  · have HK : Hid (CheckOk c v r E R) := check0 hk
    have HT : Hid (∀ w, Calls Try.prog 9 #[.agg #[.float .f64 c, .float .f64 v, .float .f64 r, .int .i64 E, .int .i64 R]] w (IU w 0)) := fun w => by rw [← hk]; exact t9 c v r E R w
    have hE1 := HK.out.e1
    have hE2 := HK.out.e2
    cases hf : fin (ab m)
    · have HC : Hid (cellF (ab c) (ab v) (ab r) E R (ab m) = (0, 0, 6)) := by show _ = _; unfold cellF; simp [hk, hf]
      clear hk
      go_enter Try.func11, Try.ntmps11
      go_wp2_with (first
            | (go_at_call 9; (with_reducible refine (HT.out _).mono ?_); rintro e w1 ⟨rfl, u1⟩; have c0 := up_cell u1.out b0; have c3 := up_cell u1.out b3)
            | (go_at_call 28; (with_reducible refine (t28 m _).mono ?_); rintro e w' ⟨rfl, rfl⟩))
      go_ret3
      exact ⟨by rw [HC.out]; rfl, HU.out.trans u1.out⟩
    · cases hl : ltF (ab m) (ab 0)
      · obtain ⟨rr, q, q1, q2, q3, q4, q5, q6, q7⟩ := place_some HK.out.c hf hl
        have F1 : ∀ w : World, (binOp .quo 22 (.float .f64 m) (.float .f64 c)).run Try.prog w = .ok (.float .f64 rr) w := fun w => run_fl_some .quo 22 w q1
        have HQ : Hid (floor rr = q) := q3
        have HN : Hid (isN rr = false) := q2
        cases hb : bigF (some q)
        · obtain ⟨K, k1, k2, k3⟩ := intF_val q5 q6 hb
          have HC : Hid (cellF (ab c) (ab v) (ab r) E R (ab m) = ((K : Int) % E, (K : Int) / E, 0)) := by show _ = _; unfold cellF; simp [hk, hf, hl, q4, hb, k1]
          have F2 : ∀ w : World, (convert 22 3 (.float .f64 q)).run Try.prog w = .ok (.int .i64 K) w := fun w => run_conv q K k2 w
          have hb' : (gtF (ab q) (ab 4832362400168542208) || eqF (ab q) (ab 4832362400168542208)) = false := by rw [q7]; exact hb
          obtain ⟨d1, d2, d3, d4⟩ := div_in k3 hE1
          clear hk q1 q2 q3 q4 q5 q6 q7 hb k1 k2
          go_enter Try.func11, Try.ntmps11
          go_wp2_with (first
            | (go_at_call 9; (with_reducible refine (HT.out _).mono ?_); rintro e w1 ⟨rfl, u1⟩; have c0 := up_cell u1.out b0; have c3 := up_cell u1.out b3)
            | (go_at_call 28; (with_reducible refine (t28 m _).mono ?_); rintro e w' ⟨rfl, rfl⟩)
            | (go_at_call 30; (with_reducible refine (t30k HN.out HQ.out _).mono ?_); rintro e w' ⟨rfl, n, rfl⟩))
          go_quiet (fail)
          go_wp2
          go_ret3
          exact ⟨by rw [HC.out]; rfl, ((HU.out.trans u1.out).trans (Up.drewN _ _)).trans (Up.drewN _ _)⟩
        · have HC : Hid (cellF (ab c) (ab v) (ab r) E R (ab m) = (0, 0, 3)) := by show _ = _; unfold cellF; simp [hk, hf, hl, q4, hb]
          have hb' : (gtF (ab q) (ab 4832362400168542208) || eqF (ab q) (ab 4832362400168542208)) = true := by rw [q7]; exact hb
          clear hk q1 q2 q3 q4 q5 q6 q7 hb
          go_enter Try.func11, Try.ntmps11
          go_wp2_with (first
            | (go_at_call 9; (with_reducible refine (HT.out _).mono ?_); rintro e w1 ⟨rfl, u1⟩; have c0 := up_cell u1.out b0; have c3 := up_cell u1.out b3)
            | (go_at_call 28; (with_reducible refine (t28 m _).mono ?_); rintro e w' ⟨rfl, rfl⟩)
            | (go_at_call 30; (with_reducible refine (t30k HN.out HQ.out _).mono ?_); rintro e w' ⟨rfl, n, rfl⟩))
          go_ret3
          exact ⟨by rw [HC.out]; rfl, (HU.out.trans u1.out).trans (Up.drewN _ _)⟩
      · have HC : Hid (cellF (ab c) (ab v) (ab r) E R (ab m) = (0, 0, 2)) := by show _ = _; unfold cellF; simp [hk, hf, hl]
        clear hk
        go_enter Try.func11, Try.ntmps11
        go_wp2_with (first
            | (go_at_call 9; (with_reducible refine (HT.out _).mono ?_); rintro e w1 ⟨rfl, u1⟩; have c0 := up_cell u1.out b0; have c3 := up_cell u1.out b3)
            | (go_at_call 28; (with_reducible refine (t28 m _).mono ?_); rintro e w' ⟨rfl, rfl⟩))
        go_ret3
        exact ⟨by rw [HC.out]; rfl, HU.out.trans u1.out⟩
  · have HT : Hid (∀ w, Calls Try.prog 9 #[.agg #[.float .f64 c, .float .f64 v, .float .f64 r, .int .i64 E, .int .i64 R]] w (IU w (checkF (ab c) (ab v) (ab r) E R))) := fun w => t9 c v r E R w
    have HC : Hid (cellF (ab c) (ab v) (ab r) E R (ab m) = (0, 0, checkF (ab c) (ab v) (ab r) E R)) := by show _ = _; unfold cellF; simp [hk]
    generalize checkF (ab c) (ab v) (ab r) E R = k at *
    go_enter Try.func11, Try.ntmps11
    go_wp2_with (first
            | (go_at_call 9; (with_reducible refine (HT.out _).mono ?_); rintro e w1 ⟨rfl, u1⟩))
    go_ret3
    exact ⟨by rw [HC.out]; rfl, HU.out.trans u1.out⟩
set_option maxHeartbeats 1000000 in
theorem t12 (c v r : Nat) (E R : Int) (m : Nat) (w : World) : Calls Try.prog 12 #[.agg #[.float .f64 c, .float .f64 v, .float .f64 r, .int .i64 E, .int .i64 R], .float .f64 m] w (I3 w (cellF (ab c) (ab v) (ab r) E R (ab m))) := by
  have HB := BC.new w c v r E R
  have HU : Hid (Up w (w.alloc (.cells #[.float .f64 c, .float .f64 v, .float .f64 r, .int .i64 E, .int .i64 R] 24))) := Up.alloc _ _
  obtain ⟨b0, b1, b2, b3, b4⟩ := HB
  by_cases hk : checkF (ab c) (ab v) (ab r) E R = 0
  · have HK : Hid (CheckOk c v r E R) := check0 hk
    have HT : Hid (∀ w, Calls Try.prog 10 #[.agg #[.float .f64 c, .float .f64 v, .float .f64 r, .int .i64 E, .int .i64 R]] w (IU w 0)) := fun w => by rw [← hk]; exact t10 c v r E R w
    have hE1 := HK.out.e1
    have hE2 := HK.out.e2
    cases hf : fin (ab m)
    · have HC : Hid (cellF (ab c) (ab v) (ab r) E R (ab m) = (0, 0, 6)) := by show _ = _; unfold cellF; simp [hk, hf]
      clear hk
      go_enter Try.func12, Try.ntmps12
      go_wp2_with (first
            | (go_at_call 10; (with_reducible refine (HT.out _).mono ?_); rintro e w1 ⟨rfl, u1⟩; have c0 := up_cell u1.out b0; have c3 := up_cell u1.out b3)
            | (go_at_call 29; (with_reducible refine (t29 m _).mono ?_); rintro e w' ⟨rfl, rfl⟩))
      go_ret3
      exact ⟨by rw [HC.out]; rfl, HU.out.trans u1.out⟩
    · cases hl : ltF (ab m) (ab 0)
      · obtain ⟨rr, q, q1, q2, q3, q4, q5, q6, q7⟩ := place_some HK.out.c hf hl
        have F1 : ∀ w : World, (binOp .quo 22 (.float .f64 m) (.float .f64 c)).run Try.prog w = .ok (.float .f64 rr) w := fun w => run_fl_some .quo 22 w q1
        have HQ : Hid (floor rr = q) := q3
        have HN : Hid (isN rr = false) := q2
        cases hb : bigF (some q)
        · obtain ⟨K, k1, k2, k3⟩ := intF_val q5 q6 hb
          have HC : Hid (cellF (ab c) (ab v) (ab r) E R (ab m) = ((K : Int) % E, (K : Int) / E, 0)) := by show _ = _; unfold cellF; simp [hk, hf, hl, q4, hb, k1]
          have F2 : ∀ w : World, (convert 22 3 (.float .f64 q)).run Try.prog w = .ok (.int .i64 K) w := fun w => run_conv q K k2 w
          have hb' : (gtF (ab q) (ab 4832362400168542208) || eqF (ab q) (ab 4832362400168542208)) = false := by rw [q7]; exact hb
          obtain ⟨d1, d2, d3, d4⟩ := div_in k3 hE1
          clear hk q1 q2 q3 q4 q5 q6 q7 hb k1 k2
          go_enter Try.func12, Try.ntmps12
          go_wp2_with (first
            | (go_at_call 10; (with_reducible refine (HT.out _).mono ?_); rintro e w1 ⟨rfl, u1⟩; have c0 := up_cell u1.out b0; have c3 := up_cell u1.out b3)
            | (go_at_call 29; (with_reducible refine (t29 m _).mono ?_); rintro e w' ⟨rfl, rfl⟩)
            | (go_at_call 30; (with_reducible refine (t30k HN.out HQ.out _).mono ?_); rintro e w' ⟨rfl, n, rfl⟩))
          go_quiet (fail)
          go_wp2
          go_ret3
          exact ⟨by rw [HC.out]; rfl, ((HU.out.trans u1.out).trans (Up.drewN _ _)).trans (Up.drewN _ _)⟩
        · have HC : Hid (cellF (ab c) (ab v) (ab r) E R (ab m) = (0, 0, 3)) := by show _ = _; unfold cellF; simp [hk, hf, hl, q4, hb]
          have hb' : (gtF (ab q) (ab 4832362400168542208) || eqF (ab q) (ab 4832362400168542208)) = true := by rw [q7]; exact hb
          clear hk q1 q2 q3 q4 q5 q6 q7 hb
          go_enter Try.func12, Try.ntmps12
          go_wp2_with (first
            | (go_at_call 10; (with_reducible refine (HT.out _).mono ?_); rintro e w1 ⟨rfl, u1⟩; have c0 := up_cell u1.out b0; have c3 := up_cell u1.out b3)
            | (go_at_call 29; (with_reducible refine (t29 m _).mono ?_); rintro e w' ⟨rfl, rfl⟩)
            | (go_at_call 30; (with_reducible refine (t30k HN.out HQ.out _).mono ?_); rintro e w' ⟨rfl, n, rfl⟩))
          go_ret3
          exact ⟨by rw [HC.out]; rfl, (HU.out.trans u1.out).trans (Up.drewN _ _)⟩
      · have HC : Hid (cellF (ab c) (ab v) (ab r) E R (ab m) = (0, 0, 2)) := by show _ = _; unfold cellF; simp [hk, hf, hl]
        clear hk
        go_enter Try.func12, Try.ntmps12
        go_wp2_with (first
            | (go_at_call 10; (with_reducible refine (HT.out _).mono ?_); rintro e w1 ⟨rfl, u1⟩; have c0 := up_cell u1.out b0; have c3 := up_cell u1.out b3)
            | (go_at_call 29; (with_reducible refine (t29 m _).mono ?_); rintro e w' ⟨rfl, rfl⟩))
        go_ret3
        exact ⟨by rw [HC.out]; rfl, HU.out.trans u1.out⟩
  · have HT : Hid (∀ w, Calls Try.prog 10 #[.agg #[.float .f64 c, .float .f64 v, .float .f64 r, .int .i64 E, .int .i64 R]] w (IU w (checkF (ab c) (ab v) (ab r) E R))) := fun w => t10 c v r E R w
    have HC : Hid (cellF (ab c) (ab v) (ab r) E R (ab m) = (0, 0, checkF (ab c) (ab v) (ab r) E R)) := by show _ = _; unfold cellF; simp [hk]
    generalize checkF (ab c) (ab v) (ab r) E R = k at *
    go_enter Try.func12, Try.ntmps12
    go_wp2_with (first
            | (go_at_call 10; (with_reducible refine (HT.out _).mono ?_); rintro e w1 ⟨rfl, u1⟩))
    go_ret3
    exact ⟨by rw [HC.out]; rfl, HU.out.trans u1.out⟩
end Go.Proofs.Ytcekbnjgdgapgaa
