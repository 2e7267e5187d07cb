/- Metres, the program's and the reference's. -/
import Derived.Test.YtcekbnjgdgapgaaLf
namespace Go.Proofs.Ytcekbnjgdgapgaa
open Go.ChangeShapes Go.WideShapes Go.ChangeAt Go.RowKit Go.Fl Ieee
attribute [local go_sem] run_store_float call36 call37 run_neg fold_eq fold_ne fold_lt fold_gt abs_eq

/-- The middle of a cell. -/
def midF (c : Option Nat) (n : Int) : Option Nat := bin .mul (bin .add (ab (floatOfInt .f64 n)) (ab 4602678819172646912)) c
def finOr (x : Option Nat) : Option Nat × Int := if fin x = true then (x, 0) else (ab 0, 6)
/-- What Metres answers. -/
def metF (c v r : Option Nat) (E R cell turns : Int) : Option Nat × Int :=
  if checkF c v r E R ≠ 0 then (ab 0, checkF c v r E R) else if cell < 0 ∨ E ≤ cell ∨ turns < 0 then (ab 0, 2)
  else if 1125899906842624 ≤ turns * E + cell then (ab 0, 3) else finOr (midF c (turns * E + cell))
def PR (w : World) (p : Option Nat × Int) (e : Ending) (w' : World) : Prop := ∃ x, e = .returned (.tuple #[.float .f64 x, .int .i64 p.2]) ∧ Hid (ab x = p.1) ∧ Hid (Up w w')
theorem PR.mk {w w' : World} {p : Option Nat × Int} {x : Nat} {k : Int} (h : ab x = p.1) (hk : p.2 = k) (hu : Up w w') : PR w p (.returned (.tuple #[.float .f64 x, .int .i64 k])) w' := ⟨x, by rw [hk], h, hu⟩
theorem finOr_ok {x : Nat} {o : Option Nat} (h : ab x = o) (hf : fin (ab x) = true) : finOr o = (ab x, 0) := by subst h; unfold finOr; rw [if_pos hf]
theorem finOr_not {x : Nat} {o : Option Nat} (h : ab x = o) (hf : fin (ab x) = false) : finOr o = (ab 0, 6) := by subst h; unfold finOr; rw [if_neg (by simp [hf])]
theorem long_iff {E cell turns : Int} (hE : 1 ≤ E) : (1125899906842623 - cell) / E < turns ↔ 1125899906842624 ≤ turns * E + cell := by
  rw [Int.ediv_lt_iff_lt_mul (by omega)]
  omega
theorem long_ref {E cell turns : Int} (hE : 1 ≤ E) (hc : 0 ≤ cell) (h : 1125899906842624 / E < turns) : 1125899906842624 ≤ turns * E + cell := by
  rw [Int.ediv_lt_iff_lt_mul (by omega)] at h
  omega
theorem short_ref {E turns : Int} (hE : 1 ≤ E) (h : ¬ 1125899906842624 / E < turns) : turns * E ≤ 1125899906842624 := by
  rw [Int.ediv_lt_iff_lt_mul (by omega)] at h
  omega
theorem quo_in {a E : Int} (ha : 0 ≤ a) (h : 1 ≤ E) : 0 ≤ a / E ∧ a / E ≤ a := ⟨Int.ediv_nonneg ha (by omega), Int.ediv_le_self E ha⟩
set_option maxHeartbeats 1000000 in
theorem t13 (c v r : Nat) (E R cell turns : Int) (w : World) : Calls Try.prog 13 #[.agg #[.float .f64 c, .float .f64 v, .float .f64 r, .int .i64 E, .int .i64 R], .int .i64 cell, .int .i64 turns] w (PR w (metF (ab c) (ab v) (ab r) E R cell turns)) := by
  have HB := BC.new w c v r E R
  have HU : Hid (Up w (w.alloc (.cells #[.float .f64 c, .float .f64 v, .float .f64 r, .int .i64 E, .int .i64 R] 24))) := Up.alloc _ _
  obtain ⟨b0, b1, b2, b3, b4⟩ := HB
  by_cases hk : checkF (ab c) (ab v) (ab r) E R = 0
  · have HK : Hid (CheckOk c v r E R) := check0 hk
    have HT : Hid (∀ w, Calls Try.prog 9 #[.agg #[.float .f64 c, .float .f64 v, .float .f64 r, .int .i64 E, .int .i64 R]] w (IU w 0)) := fun w => by rw [← hk]; exact t9 c v r E R w
    have hE1 := HK.out.e1
    have hE2 := HK.out.e2
    by_cases ha : cell < 0 ∨ E ≤ cell ∨ turns < 0
    · have HC : Hid (metF (ab c) (ab v) (ab r) E R cell turns = (ab 0, 2)) := by show _ = _; unfold metF; rw [if_neg (by simp [hk]), if_pos ha]
      clear hk
      go_enter Try.func13, Try.ntmps13
      by_cases h1 : cell < 0
      · go_wp2_with (first
            | (go_at_call 9; (with_reducible refine (HT.out _).mono ?_); rintro e w1 ⟨rfl, u1⟩; have c0 := up_cell u1.out b0; have c3 := up_cell u1.out b3))
        go_ret2
        exact PR.mk (by rw [HC.out]) (by rw [HC.out]) (HU.out.trans u1.out)
      · by_cases h2 : E ≤ cell
        · go_wp2_with (first
            | (go_at_call 9; (with_reducible refine (HT.out _).mono ?_); rintro e w1 ⟨rfl, u1⟩; have c0 := up_cell u1.out b0; have c3 := up_cell u1.out b3))
          go_ret2
          exact PR.mk (by rw [HC.out]) (by rw [HC.out]) (HU.out.trans u1.out)
        · have h3 : turns < 0 := by omega
          go_wp2_with (first
            | (go_at_call 9; (with_reducible refine (HT.out _).mono ?_); rintro e w1 ⟨rfl, u1⟩; have c0 := up_cell u1.out b0; have c3 := up_cell u1.out b3))
          go_ret2
          exact PR.mk (by rw [HC.out]) (by rw [HC.out]) (HU.out.trans u1.out)
    · have h1 : 0 ≤ cell := by omega
      have h2 : cell < E := by omega
      have h3 : 0 ≤ turns := by omega
      have m0 := Int.mul_nonneg h3 (show 0 ≤ E by omega)
      by_cases hl : 1125899906842624 ≤ turns * E + cell
      · have HC : Hid (metF (ab c) (ab v) (ab r) E R cell turns = (ab 0, 3)) := by show _ = _; unfold metF; rw [if_neg (by simp [hk]), if_neg ha, if_pos hl]
        have j1 := quo_in (show 0 ≤ 1125899906842623 - cell by omega) hE1
        obtain ⟨j2, j3⟩ := j1
        have j4 : (1125899906842623 - cell) / E < turns := (long_iff hE1).2 hl
        clear hk ha
        go_enter Try.func13, Try.ntmps13
        go_wp2_with (first
            | (go_at_call 9; (with_reducible refine (HT.out _).mono ?_); rintro e w1 ⟨rfl, u1⟩; have c0 := up_cell u1.out b0; have c3 := up_cell u1.out b3))
        go_ret2
        exact PR.mk (by rw [HC.out]) (by rw [HC.out]) (HU.out.trans u1.out)
      · have HC : Hid (metF (ab c) (ab v) (ab r) E R cell turns = finOr (midF (ab c) (turns * E + cell))) := by show _ = _; unfold metF; rw [if_neg (by simp [hk]), if_neg ha, if_neg hl]
        have j1 := quo_in (show 0 ≤ 1125899906842623 - cell by omega) hE1
        obtain ⟨j2, j3⟩ := j1
        have j4 : ¬ (1125899906842623 - cell) / E < turns := fun h => hl ((long_iff hE1).1 h)
        clear hk ha
        go_enter Try.func13, Try.ntmps13
        go_wp2_with (first
            | (go_at_call 9; (with_reducible refine (HT.out _).mono ?_); rintro e w1 ⟨rfl, u1⟩; have c0 := up_cell u1.out b0; have c3 := up_cell u1.out b3)
            | ((with_reducible refine upon_fl (op := .add) (by simp) ?_); intro y1 n1 hy1)
            | ((with_reducible refine upon_fl (op := .mul) (by simp) ?_); intro y2 n2 hy2)
            | (go_at_call 28; (with_reducible refine (t28 _ _).mono ?_); rintro e w' ⟨rfl, rfl⟩))
        · go_ret2
          rename_i hfn
          have hx : ab y2 = midF (ab c) (turns * E + cell) := by rw [hy2.out, hy1.out]; rfl
          have e := finOr_not hx (by simpa using hfn)
          exact PR.mk (by rw [HC.out, e]) (by rw [HC.out, e]) ((HU.out.trans u1.out).trans (Up.drewN _ _))
        · go_ret2
          rename_i hfn
          have hx : ab y2 = midF (ab c) (turns * E + cell) := by rw [hy2.out, hy1.out]; rfl
          have e := finOr_ok hx (by simpa using hfn)
          exact PR.mk (by rw [HC.out, e]) (by rw [HC.out, e]) ((HU.out.trans u1.out).trans (Up.drewN _ _))
  · have HT : Hid (∀ w, Calls Try.prog 9 #[.agg #[.float .f64 c, .float .f64 v, .float .f64 r, .int .i64 E, .int .i64 R]] w (IU w (checkF (ab c) (ab v) (ab r) E R))) := fun w => t9 c v r E R w
    have HC : Hid (metF (ab c) (ab v) (ab r) E R cell turns = (ab 0, checkF (ab c) (ab v) (ab r) E R)) := by show _ = _; unfold metF; rw [if_pos hk]
    generalize checkF (ab c) (ab v) (ab r) E R = k at *
    go_enter Try.func13, Try.ntmps13
    go_wp2_with (first
            | (go_at_call 9; (with_reducible refine (HT.out _).mono ?_); rintro e w1 ⟨rfl, u1⟩))
    go_ret2
    exact PR.mk (by rw [HC.out]) (by rw [HC.out]) (HU.out.trans u1.out)
set_option maxHeartbeats 1000000 in
theorem t14 (c v r : Nat) (E R cell turns : Int) (w : World) : Calls Try.prog 14 #[.agg #[.float .f64 c, .float .f64 v, .float .f64 r, .int .i64 E, .int .i64 R], .int .i64 cell, .int .i64 turns] w (PR w (metF (ab c) (ab v) (ab r) E R cell turns)) := by
  have HB := BC.new w c v r E R
  have HU : Hid (Up w (w.alloc (.cells #[.float .f64 c, .float .f64 v, .float .f64 r, .int .i64 E, .int .i64 R] 24))) := Up.alloc _ _
  obtain ⟨b0, b1, b2, b3, b4⟩ := HB
  by_cases hk : checkF (ab c) (ab v) (ab r) E R = 0
  · have HK : Hid (CheckOk c v r E R) := check0 hk
    have HT : Hid (∀ w, Calls Try.prog 10 #[.agg #[.float .f64 c, .float .f64 v, .float .f64 r, .int .i64 E, .int .i64 R]] w (IU w 0)) := fun w => by rw [← hk]; exact t10 c v r E R w
    have hE1 := HK.out.e1
    have hE2 := HK.out.e2
    by_cases ha : cell < 0 ∨ E ≤ cell ∨ turns < 0
    · have HC : Hid (metF (ab c) (ab v) (ab r) E R cell turns = (ab 0, 2)) := by show _ = _; unfold metF; rw [if_neg (by simp [hk]), if_pos ha]
      clear hk
      go_enter Try.func14, Try.ntmps14
      by_cases h1 : cell < 0
      · go_wp2_with (first
            | (go_at_call 10; (with_reducible refine (HT.out _).mono ?_); rintro e w1 ⟨rfl, u1⟩; have c0 := up_cell u1.out b0; have c3 := up_cell u1.out b3))
        go_ret2
        exact PR.mk (by rw [HC.out]) (by rw [HC.out]) (HU.out.trans u1.out)
      · by_cases h2 : E ≤ cell
        · go_wp2_with (first
            | (go_at_call 10; (with_reducible refine (HT.out _).mono ?_); rintro e w1 ⟨rfl, u1⟩; have c0 := up_cell u1.out b0; have c3 := up_cell u1.out b3))
          go_ret2
          exact PR.mk (by rw [HC.out]) (by rw [HC.out]) (HU.out.trans u1.out)
        · have h3 : turns < 0 := by omega
          go_wp2_with (first
            | (go_at_call 10; (with_reducible refine (HT.out _).mono ?_); rintro e w1 ⟨rfl, u1⟩; have c0 := up_cell u1.out b0; have c3 := up_cell u1.out b3))
          go_ret2
          exact PR.mk (by rw [HC.out]) (by rw [HC.out]) (HU.out.trans u1.out)
    · have h1 : 0 ≤ cell := by omega
      have h2 : cell < E := by omega
      have h3 : 0 ≤ turns := by omega
      have m0 := Int.mul_nonneg h3 (show 0 ≤ E by omega)
      by_cases hl : 1125899906842624 ≤ turns * E + cell
      · have HC : Hid (metF (ab c) (ab v) (ab r) E R cell turns = (ab 0, 3)) := by show _ = _; unfold metF; rw [if_neg (by simp [hk]), if_neg ha, if_pos hl]
        have j1 := quo_in (show (0 : Int) ≤ 1125899906842624 by omega) hE1
        obtain ⟨j2, j3⟩ := j1
        by_cases j4 : 1125899906842624 / E < turns
        case' neg => have j5 := short_ref hE1 j4
        all_goals clear hk ha
        all_goals go_enter Try.func14, Try.ntmps14
        all_goals go_wp2_with (first
            | (go_at_call 10; (with_reducible refine (HT.out _).mono ?_); rintro e w1 ⟨rfl, u1⟩; have c0 := up_cell u1.out b0; have c3 := up_cell u1.out b3))
        all_goals go_ret2
        all_goals exact PR.mk (by rw [HC.out]) (by rw [HC.out]) (HU.out.trans u1.out)
      · have HC : Hid (metF (ab c) (ab v) (ab r) E R cell turns = finOr (midF (ab c) (turns * E + cell))) := by show _ = _; unfold metF; rw [if_neg (by simp [hk]), if_neg ha, if_neg hl]
        have j1 := quo_in (show (0 : Int) ≤ 1125899906842624 by omega) hE1
        obtain ⟨j2, j3⟩ := j1
        have j4 : ¬ 1125899906842624 / E < turns := fun h => hl (long_ref hE1 h1 h)
        clear hk ha
        go_enter Try.func14, Try.ntmps14
        go_wp2_with (first
            | (go_at_call 10; (with_reducible refine (HT.out _).mono ?_); rintro e w1 ⟨rfl, u1⟩; have c0 := up_cell u1.out b0; have c3 := up_cell u1.out b3)
            | ((with_reducible refine upon_fl (op := .add) (by simp) ?_); intro y1 n1 hy1)
            | ((with_reducible refine upon_fl (op := .mul) (by simp) ?_); intro y2 n2 hy2)
            | (go_at_call 29; (with_reducible refine (t29 _ _).mono ?_); rintro e w' ⟨rfl, rfl⟩))
        · go_ret2
          rename_i hfn
          have hx : ab y2 = midF (ab c) (turns * E + cell) := by rw [hy2.out, hy1.out]; rfl
          have e := finOr_not hx (by simpa using hfn)
          exact PR.mk (by rw [HC.out, e]) (by rw [HC.out, e]) ((HU.out.trans u1.out).trans (Up.drewN _ _))
        · go_ret2
          rename_i hfn
          have hx : ab y2 = midF (ab c) (turns * E + cell) := by rw [hy2.out, hy1.out]; rfl
          have e := finOr_ok hx (by simpa using hfn)
          exact PR.mk (by rw [HC.out, e]) (by rw [HC.out, e]) ((HU.out.trans u1.out).trans (Up.drewN _ _))
  · have HT : Hid (∀ w, Calls Try.prog 10 #[.agg #[.float .f64 c, .float .f64 v, .float .f64 r, .int .i64 E, .int .i64 R]] w (IU w (checkF (ab c) (ab v) (ab r) E R))) := fun w => t10 c v r E R w
    have HC : Hid (metF (ab c) (ab v) (ab r) E R cell turns = (ab 0, checkF (ab c) (ab v) (ab r) E R)) := by show _ = _; unfold metF; rw [if_pos hk]
    generalize checkF (ab c) (ab v) (ab r) E R = k at *
    go_enter Try.func14, Try.ntmps14
    go_wp2_with (first
            | (go_at_call 10; (with_reducible refine (HT.out _).mono ?_); rintro e w1 ⟨rfl, u1⟩))
    go_ret2
    exact PR.mk (by rw [HC.out]) (by rw [HC.out]) (HU.out.trans u1.out)
end Go.Proofs.Ytcekbnjgdgapgaa
