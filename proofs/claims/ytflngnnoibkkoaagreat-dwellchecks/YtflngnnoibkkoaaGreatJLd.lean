/- The reference's Check, walked. -/
import Derived.Test.YtflngnnoibkkoaaGreatJPh
import Derived.Test.YtflngnnoibkkoaaGreatJA
import Derived.BigQuiet
import Derived.Deep.RegionHeld3
import Derived.Deep.RegionWith
namespace Go.Proofs.YtflngnnoibkkoaaGreat.Pl.Gt
open Go.ChangeShapes Go.WideShapes Go.ChangeAt Go.RowKit Go.Fl Ieee
set_option maxRecDepth 200000
set_option maxHeartbeats 8000000
attribute [local go_sem] run_store_float call34 call33 run_neg fold_eq fold_ne fold_lt fold_gt abs_eq

set_option maxHeartbeats 1000000 in
theorem t21 (c v r : Nat) (E R : Int) (w : World) : Calls Tryz.prog 21 #[.agg #[.float .f64 c, .float .f64 v, .float .f64 r, .int .i64 E, .int .i64 R]] w (IU w (checkF (ab c) (ab v) (ab r) E R)) := by
  obtain ⟨w2, hw2⟩ : ∃ w2, w2 = (w.alloc (.cells #[.float .f64 c, .float .f64 v, .float .f64 r, .int .i64 E, .int .i64 R] 24)).alloc (.cells #[.float .f64 c, .float .f64 v, .float .f64 r] 80) := ⟨_, rfl⟩
  have HB := (BC.new w c v r E R).up (Up.alloc _ (.cells #[.float .f64 c, .float .f64 v, .float .f64 r] 80))
  have ea := heap_alloc_last (w.alloc (.cells #[.float .f64 c, .float .f64 v, .float .f64 r, .int .i64 E, .int .i64 R] 24)) (.cells #[.float .f64 c, .float .f64 v, .float .f64 r] 80)
  rw [show (w.alloc (.cells #[.float .f64 c, .float .f64 v, .float .f64 r, .int .i64 E, .int .i64 R] 24)).heap.size = w.heap.size + 1 by simp] at ea
  rw [← hw2] at HB ea
  have HU : Hid (Up w w2) := by rw [hw2]; exact (Up.alloc _ _).trans (Up.alloc _ _)
  have a0 : w2.cell? ⟨w.heap.size + 1, 0, none⟩ = some (.float .f64 c) := by unfold World.cell?; simp only [ea]; rfl
  have a1 : w2.cell? ⟨w.heap.size + 1, 1, none⟩ = some (.float .f64 v) := by unfold World.cell?; simp only [ea]; rfl
  have a2 : w2.cell? ⟨w.heap.size + 1, 2, none⟩ = some (.float .f64 r) := by unfold World.cell?; simp only [ea]; rfl
  obtain ⟨_, _, _, b3, b4⟩ := HB
  clear ea
  go_enter Tryz.func21, Tryz.ntmps21
  go_wp2
  rw [← hw2]
  clear hw2
  generalize w.heap.size = s0 at *
  go_loopw [4] (fun vi wr => ∃ z : Int, (z = 0 ∨ z = 1 ∨ z = 2 ∨ z = 3) ∧ vi = .int .i64 z ∧ w2 = wr ∧ Hid (G3 z c v r)) (fun vi _ => 3 - (intOf vi).toNat)
  case atStart => exact ⟨0, by omega, rfl, rfl, G3.zero _ _ _⟩
  case round =>
    obtain ⟨z, hz, rfl, hw, HG⟩ := hrel
    subst hw
    rcases hz with rfl | rfl | rfl | rfl
    · go_wp2_with (first
        | (go_at_call 23; (with_reducible refine (t23 c _).mono ?_); rintro e w' ⟨rfl, rfl⟩))
      · have hb : goodF (ab c) = false := bad_gt (by simp_all)
        go_ret
        exact ⟨by rw [check80 (Or.inl hb)]; rfl, HU⟩
      · have hb : goodF (ab c) = true := good_gt (by simp_all) (by simp_all)
        go_roundw
        case rel => exact ⟨1, by omega, rfl, by simp, G3.one hb⟩
        case measure => simp [intOf]
      · have hb : goodF (ab c) = false := bad_fin (by simp_all)
        go_ret
        exact ⟨by rw [check80 (Or.inl hb)]; rfl, HU⟩
    · go_wp2_with (first
        | (go_at_call 23; (with_reducible refine (t23 v _).mono ?_); rintro e w' ⟨rfl, rfl⟩))
      · have hb : goodF (ab v) = false := bad_gt (by simp_all)
        go_ret
        exact ⟨by rw [check80 (Or.inr (Or.inl hb))]; rfl, HU⟩
      · have hb : goodF (ab v) = true := good_gt (by simp_all) (by simp_all)
        go_roundw
        case rel => exact ⟨2, by omega, rfl, by simp, G3.two HG.out hb⟩
        case measure => simp [intOf]
      · have hb : goodF (ab v) = false := bad_fin (by simp_all)
        go_ret
        exact ⟨by rw [check80 (Or.inr (Or.inl hb))]; rfl, HU⟩
    · go_wp2_with (first
        | (go_at_call 23; (with_reducible refine (t23 r _).mono ?_); rintro e w' ⟨rfl, rfl⟩))
      · have hb : goodF (ab r) = false := bad_gt (by simp_all)
        go_ret
        exact ⟨by rw [check80 (Or.inr (Or.inr (Or.inl hb)))]; rfl, HU⟩
      · have hb : goodF (ab r) = true := good_gt (by simp_all) (by simp_all)
        go_roundw
        case rel => exact ⟨3, by omega, rfl, by simp, G3.three HG.out hb⟩
        case measure => simp [intOf]
      · have hb : goodF (ab r) = false := bad_fin (by simp_all)
        go_ret
        exact ⟨by rw [check80 (Or.inr (Or.inr (Or.inl hb)))]; rfl, HU⟩
    · obtain ⟨g1, g2, g3⟩ := HG.out
      have G1 : Hid (goodF (ab c) = true) := g1 (by omega)
      have G2 : Hid (goodF (ab v) = true) := g2 (by omega)
      have G3 : Hid (goodF (ab r) = true) := g3 (by omega)
      clear g1 g2 g3 HG
      by_cases hin : 1 ≤ E ∧ E ≤ 16384 ∧ 1 ≤ R ∧ R ≤ 256
      · obtain ⟨e1, e2, r1, r2⟩ := hin
        have HC : Hid (checkF (ab c) (ab v) (ab r) E R = if E * R > 262144 then 3 else 0) := check_in G1.out G2.out G3.out e1 e2 r1 r2
        have m1 := Int.mul_le_mul e2 r2 (by omega) (by omega)
        have m2 := Int.mul_nonneg (show 0 ≤ E by omega) (show 0 ≤ R by omega)
        go_wp2
        · go_ret
          exact ⟨by rw [HC.out, if_pos (by simp_all)]; rfl, HU⟩
        · go_ret
          exact ⟨by rw [HC.out, if_neg (by simp_all)]; rfl, HU⟩
      · have HC : Hid (checkF (ab c) (ab v) (ab r) E R = 80) := check80 (by omega)
        have hd : (decide (E < 1) || decide (16384 < E) || decide (R < 1) || decide (256 < R)) = true := by
          simp only [Bool.or_eq_true, decide_eq_true_eq]; omega
        clear hin
        go_wp2
        all_goals first
          | (go_ret; exact ⟨by rw [HC.out]; rfl, HU⟩)
          | (exfalso; simp_all; omega)

end Go.Proofs.YtflngnnoibkkoaaGreat.Pl.Gt
/- Whole numbers as floats: sums and products without rounding. -/
namespace Go.Proofs.YtflngnnoibkkoaaGreat.Pl
open Go.Fl Ieee Go.RowKit
set_option maxRecDepth 200000
set_option maxHeartbeats 8000000

/-! Whole numbers as floats; quotients of numbers below 0. -/
theorem int_write (s : Bool) {K : Nat} (hK : K < 2 ^ 53) : Fnt (double.write (.number s K 0)) ∧ val (double.write (.number s K 0)) = dv s K 0 := by
  have e0 : pw 0 = 1 := by decide +kernel
  have hb : (K : Rat) * pw 0 ≤ pw 53 := by
    have e53 : pw 53 = ((2 ^ 53 : Nat) : Rat) := pw_nat 53
    rw [e0, Rat.mul_one, e53]; exact Rat.natCast_le_natCast.2 (by omega)
  have hb2 : pw 53 ≤ pw 1000 := pw_mono (by omega)
  refine ⟨(write_near s K 0 hb hb2).1, ?_⟩
  rcases Nat.eq_zero_or_pos K with h1 | h1
  · subst h1
    have e2 : dv s 0 0 = 0 := by cases s <;> simp [dv, sgn]
    rw [e2, write_same (y := 0) (Rat.le_trans hb hb2) (by rw [e2, val0]), val0]
  · have hl0 : (0 : Int) + (K.log2 : Int) ≤ 53 := log_le h1 hb
    obtain ⟨last, kept, hr⟩ := rounds s (e := 0) h1 (by omega)
    have hl : last ≤ 0 := by
      rcases hr.rel with h2 | h2
      · omega
      · rcases Int.lt_or_le 0 last with h3 | h3
        · exfalso
          have a1 := pw_mono (show (53 : Int) ≤ last + 52 by omega)
          have e53 : pw 53 = ((2 ^ 53 : Nat) : Rat) := pw_nat 53
          have a2 : (K : Rat) < ((2 ^ 53 : Nat) : Rat) := Rat.natCast_lt_natCast.2 hK
          rw [e0, Rat.mul_one] at h2
          rw [e53] at a1
          grind
        · exact h3
    have e2 := hr.exact hl
    show val (double.nearest s K 0) = _
    rw [hr.value]
    cases s
    · rw [dv_false, dv_false, e2]
    · rw [dv_true, dv_true, e2]
def P53 : Int := 9007199254740992
theorem whole_val {z : Int} (h1 : -P53 < z) (h2 : z < P53) : Fnt (floatOfInt .f64 z) ∧ val (floatOfInt .f64 z) = (z : Rat) := by
  unfold P53 at h1 h2
  have e : floatOfInt .f64 z = double.write (.number (decide (z < 0)) z.natAbs 0) := rfl
  obtain ⟨a, b⟩ := int_write (decide (z < 0)) (K := z.natAbs) (by omega)
  have e0 : pw 0 = 1 := by decide +kernel
  rw [e]
  refine ⟨a, b.trans ?_⟩
  by_cases hz : z < 0
  · have : decide (z < 0) = true := by simpa using hz
    rw [this, dv_true, e0, Rat.mul_one]
    have : (z : Rat) = -((z.natAbs : Nat) : Rat) := by
      rw [← Rat.intCast_natCast, ← Rat.intCast_neg]; congr 1; omega
    rw [this]
  · have : decide (z < 0) = false := by simpa using hz
    rw [this, dv_false, e0, Rat.mul_one]
    rw [← Rat.intCast_natCast]; congr 1; omega
end Go.Proofs.YtflngnnoibkkoaaGreat.Pl
/- What Go's int(x) gives of a float that is not below 0 and not too great; floors as whole numbers; words that are not below 0. No program is spoken of here. -/
namespace Go.Proofs.YtflngnnoibkkoaaGreat.Pl.Gt
open Go.ChangeShapes Go.WideShapes Go.ChangeAt Go.RowKit Go.Fl Ieee
set_option maxRecDepth 200000
set_option maxHeartbeats 8000000

/-- Not below 0: a sign of 0, or the other nought. -/
def NN (x : Nat) : Prop := x < 2 ^ 63 ∨ x = 2 ^ 63
theorem nn_write {s : Bool} {m : Nat} {e : Int} (h : s = true → m = 0) : NN (double.write (.number s m e)) := by
  show NN (double.nearest s m e)
  cases s with
  | false =>
    left
    unfold Format.nearest
    have e3 : double.infRung = 0x7ff0000000000000 := rfl
    split
    · show 0 < _; omega
    · simp only [e3, Format.word]
      rw [if_neg (by simp)]
      omega
  | true =>
    right
    rw [h rfl]
    rfl
theorem sign_of {x : Nat} {s : Bool} {m : Nat} {i : Int} (ex : double.read x = .number s m i) (h0 : 0 ≤ val x) : s = true → m = 0 := by
  have vx := val_read ex
  have hp := pw_pos i
  have hm0 : 0 ≤ (m : Rat) * pw i := Rat.mul_nonneg Rat.natCast_nonneg (Rat.le_of_lt hp)
  intro hs
  subst hs
  rw [dv_true] at vx
  have h0 : (m : Rat) * pw i = 0 := by grind
  rcases Nat.eq_zero_or_pos m with h1 | h1
  · exact h1
  · have := Rat.mul_pos (Rat.natCast_pos.2 h1) hp
    grind
theorem pos_of {y : Nat} {s : Bool} {m : Nat} {i : Int} (ey : double.read y = .number s m i) (h0 : 0 < val y) : s = false ∧ 0 < m := by
  have vy := val_read ey
  have hp := pw_pos i
  have hm0 : 0 ≤ (m : Rat) * pw i := Rat.mul_nonneg Rat.natCast_nonneg (Rat.le_of_lt hp)
  have hs : s = false := by
    cases s
    · rfl
    · rw [dv_true] at vy; grind
  subst hs
  refine ⟨rfl, ?_⟩
  rcases Nat.eq_zero_or_pos m with h1 | h1
  · subst h1; rw [dv_false] at vy; have z : ((0 : Nat) : Rat) = 0 := rfl; rw [z] at vy; grind
  · exact h1
/-- A quotient of what is not below 0 and what is above it. -/
theorem quo_nn {x y : Nat} (hx : Fnt x) (hy : Fnt y) (hx0 : 0 ≤ val x) (hy0 : 0 < val y) : ∃ r, bin .quo (some x) (some y) = some r ∧ NN r ∧ isN r = false := by
  obtain ⟨s, m, i, ex⟩ := fin_read hx
  obtain ⟨t, n, j, ey⟩ := fin_read hy
  have hs := sign_of ex hx0
  obtain ⟨rfl, hn⟩ := pos_of ey hy0
  obtain ⟨r, hr⟩ : ∃ r, bin .quo (some x) (some y) = some r := by
    show ∃ r, double.div x y = some r
    unfold Format.div
    rw [ex, ey]
    simp only [Datum.quotient, if_neg (show ¬ n = 0 by omega), Option.map_some, Option.some.injEq, exists_eq']
  refine ⟨r, hr, ?_, bits_ok (op := .quo) (x := x) (y := y) hr⟩
  have hr' : double.div x y = some r := hr
  unfold Format.div at hr'
  rw [ex, ey] at hr'
  simp only [Datum.quotient, if_neg (show ¬ n = 0 by omega), Option.map_some, Option.some.injEq] at hr'
  rw [← hr']
  refine nn_write fun h => ?_
  have hm : m = 0 := hs (by revert h; cases s <;> simp)
  subst hm
  simp [shl]
end Go.Proofs.YtflngnnoibkkoaaGreat.Pl.Gt
/- Cell, the program's and the reference's. -/
namespace Go.Proofs.YtflngnnoibkkoaaGreat.Pl.Gt
open Go.ChangeShapes Go.WideShapes Go.ChangeAt Go.RowKit Go.Fl Ieee
set_option maxRecDepth 200000
set_option maxHeartbeats 8000000
attribute [local go_sem] run_store_float call34 call33 run_neg fold_eq fold_ne fold_lt fold_gt abs_eq

theorem run_fl_some {P : Program} (op : BinOp) (t : TypeId) {x y r : Nat} (w : World) (h : bin op (ab x) (ab y) = some r) : (binOp op t (.float .f64 x) (.float .f64 y)).run P w = .ok (.float .f64 r) w :=
  run_float_arith w op t .f64 x y r (by rw [bits_ab]; exact h)
structure CheckOk (c v r : Nat) (E R : Int) : Prop where
  c : goodF (ab c) = true
  v : goodF (ab v) = true
  r : goodF (ab r) = true
  e1 : 1 ≤ E
  e2 : E ≤ 16384
  r1 : 1 ≤ R
  r2 : R ≤ 256
theorem check0 {c v r : Nat} {E R : Int} (h : checkF (ab c) (ab v) (ab r) E R = 0) : CheckOk c v r E R := by
  unfold checkF at h
  split at h
  · rename_i k; exact ⟨k.1, k.2.1, k.2.2.1, k.2.2.2.1, k.2.2.2.2.1, k.2.2.2.2.2.1, k.2.2.2.2.2.2⟩
  · cases h
theorem good_val {x : Nat} (h : goodF (ab x) = true) : Fnt x ∧ 0 < val x := by
  unfold goodF at h
  rw [Bool.and_eq_true] at h
  have hx := fin_iff h.1
  have := h.2
  rw [gtF_val hx zero_fnt, val0] at this
  exact ⟨hx, by simpa using this⟩
end Go.Proofs.YtflngnnoibkkoaaGreat.Pl.Gt
/- Metres, the program's and the reference's. -/
namespace Go.Proofs.YtflngnnoibkkoaaGreat.Pl.Gt
open Go.ChangeShapes Go.WideShapes Go.ChangeAt Go.RowKit Go.Fl Ieee
set_option maxRecDepth 200000
set_option maxHeartbeats 8000000
attribute [local go_sem] run_store_float call34 call33 run_neg fold_eq fold_ne fold_lt fold_gt abs_eq

def PR (w : World) (p : Option Nat × Int) (e : Ending) (w' : World) : Prop := ∃ x, e = .returned (.tuple #[.float .f64 x, .int .i64 p.2]) ∧ Hid (ab x = p.1) ∧ Hid (Up w w')
theorem PR.mk {w w' : World} {p : Option Nat × Int} {x : Nat} {k : Int} (h : ab x = p.1) (hk : p.2 = k) (hu : Up w w') : PR w p (.returned (.tuple #[.float .f64 x, .int .i64 k])) w' := ⟨x, by rw [hk], h, hu⟩
end Go.Proofs.YtflngnnoibkkoaaGreat.Pl.Gt
/- Speed, the program's and the reference's. -/
namespace Go.Proofs.YtflngnnoibkkoaaGreat.Pl.Gt
open Go.ChangeShapes Go.WideShapes Go.ChangeAt Go.RowKit Go.Fl Ieee
set_option maxRecDepth 200000
set_option maxHeartbeats 8000000
attribute [local go_sem] run_store_float call34 call33 run_neg fold_eq fold_ne fold_lt fold_gt abs_eq

/-- A product of a number and a positive one. -/
theorem mul_some_pos {u y : Nat} (hu : isN u = false) (hy : Fnt y) (h0 : 0 < val y) : ∃ p, bin .mul (some u) (some y) = some p := by
  obtain ⟨t, n, j, ey⟩ := fin_read hy
  obtain ⟨rfl, hn⟩ := pos_of ey h0
  show ∃ p, double.mul u y = some p
  unfold Format.mul
  rcases not_nan hu with ⟨s, m, i, hu⟩ | ⟨s, hu⟩
  · rw [hu, ey]; simp [Datum.product]
  · rw [hu, ey]; simp [Datum.product, show ¬ n = 0 by omega]
theorem rows_val {R : Int} (h1 : 1 ≤ R) (h2 : R ≤ 256) : Fnt (floatOfInt .f64 R) ∧ val (floatOfInt .f64 R) = (R : Rat) ∧ 0 < val (floatOfInt .f64 R) := by
  have h := whole_val (z := R) (by unfold P53; omega) (by unfold P53; omega)
  refine ⟨h.1, h.2, ?_⟩
  rw [h.2]
  have : ((0 : Int) : Rat) < (R : Rat) := Rat.intCast_lt_intCast.2 (by omega)
  simpa using this
theorem quo_some_pos {u y : Nat} (hu : isN u = false) (hy : Fnt y) (h0 : 0 < val y) : ∃ p, bin .quo (some u) (some y) = some p := by
  obtain ⟨t, n, j, ey⟩ := fin_read hy
  obtain ⟨rfl, hn⟩ := pos_of ey h0
  show ∃ p, double.div u y = some p
  unfold Format.div
  rcases not_nan hu with ⟨s, m, i, hu⟩ | ⟨s, hu⟩
  · rw [hu, ey]; simp [Datum.quotient, show ¬ n = 0 by omega]
  · rw [hu, ey]; simp [Datum.quotient]
theorem two_some {u : Nat} (hu : isN u = false) : ∃ p, bin .mul (ab 4611686018427387904) (ab u) = some p := by
  have e : double.read 4611686018427387904 = .number false 4503599627370496 (-51) := by decide +kernel
  rw [ab_some hu]
  show ∃ p, double.mul 4611686018427387904 u = some p
  unfold Format.mul
  rw [e]
  rcases not_nan hu with ⟨s, m, i, hu⟩ | ⟨s, hu⟩ <;> rw [hu] <;> simp [Datum.product]
theorem bin_num {op : BinOp} {o p : Option Nat} {x : Nat} (h : bin op o p = some x) : isN x = false := by
  cases o with
  | none => cases h
  | some a =>
    cases p with
    | none => simp [bin] at h
    | some b => exact bits_ok (op := op) (x := a) (y := b) h
theorem sec_val {E : Int} {r : Nat} (h1 : 1 ≤ E) (h2 : E ≤ 16384) (hr : goodF (ab r) = true) : ∃ sc, secF E (ab r) = some sc ∧ NN sc ∧ isN sc = false := by
  obtain ⟨fr, pr⟩ := good_val hr
  have h := whole_val (z := E) (by unfold P53; omega) (by unfold P53; omega)
  have h0 : 0 ≤ val (floatOfInt .f64 E) := by
    rw [h.2]
    have : ((0 : Int) : Rat) ≤ (E : Rat) := Rat.intCast_le_intCast.2 (by omega)
    simpa using this
  obtain ⟨x, x1, x2, x3⟩ := quo_nn h.1 fr h0 pr
  refine ⟨x, ?_, x2, x3⟩
  unfold secF
  rw [Fnt.ab h.1, Fnt.ab fr]; exact x1
/-- Twice a stretch's seconds. -/
def twoF (E : Int) (r : Option Nat) : Option Nat := bin .mul (ab 4611686018427387904) (secF E r)
def spF (v r : Option Nat) (E R : Int) (b : Option Nat) : Option Nat := bin .quo (bin .mul (bin .quo b (ab (floatOfInt .f64 R))) v) (twoF E r)
def negOr (x : Option Nat) : Option Nat × Int := if fin x = true then (x.map neg, 0) else (ab 0, 6)
/-- What Speed answers. -/
def speedF (c v r : Option Nat) (E R : Int) (b : Option Nat) : Option Nat × Int :=
  if checkF c v r E R ≠ 0 then (ab 0, checkF c v r E R) else if fin b = false then (ab 0, 6) else negOr (spF v r E R b)
theorem negOr_ok {x : Nat} {o : Option Nat} (h : ab x = o) (hf : fin (ab x) = true) : negOr o = (ab (neg x), 0) := by subst h; unfold negOr; rw [if_pos hf, ab_neg]
theorem negOr_not {x : Nat} {o : Option Nat} (h : ab x = o) (hf : fin (ab x) = false) : negOr o = (ab 0, 6) := by subst h; unfold negOr; rw [if_neg (by simp [hf])]
/-- What is fixed ahead of the last quotient. -/
structure SV (v r : Nat) (E R : Int) (b f wv sc tw : Nat) : Prop where
  p1 : bin .quo (ab b) (ab (floatOfInt .f64 R)) = some f
  p2 : bin .mul (ab f) (ab v) = some wv
  p3 : secF E (ab r) = some sc
  p4 : bin .mul (ab 4611686018427387904) (ab sc) = some tw
  p5 : spF (ab v) (ab r) E R (ab b) = bin .quo (ab wv) (ab tw)
theorem sv_of {c v r : Nat} {E R : Int} {b : Nat} (hk : CheckOk c v r E R) (hb : fin (ab b) = true) : ∃ f wv sc tw, SV v r E R b f wv sc tw := by
  obtain ⟨fR, _, pR⟩ := rows_val hk.r1 hk.r2
  obtain ⟨fv, pv⟩ := good_val hk.v
  obtain ⟨sc, s1, s2, s3⟩ := sec_val hk.e1 hk.e2 hk.r
  obtain ⟨f, hf⟩ := quo_some_pos (fin_isN hb) fR pR
  rw [← ab_some (fin_isN hb), ← Fnt.ab fR] at hf
  have nf := bin_num hf
  obtain ⟨wv, hw⟩ := mul_some_pos nf fv pv
  rw [← ab_some nf, ← Fnt.ab fv] at hw
  obtain ⟨tw, ht⟩ := two_some s3
  refine ⟨f, wv, sc, tw, hf, hw, s1, ht, ?_⟩
  unfold spF twoF
  rw [hf, s1, ← ab_some nf, hw, ← ab_some s3, ht, ab_some (bin_num hw), ab_some (bin_num ht)]
theorem t38k {c v r sc : Nat} {E R : Int} (h : secF E (ab r) = some sc) (w : World) : Calls Tryz.prog 38 #[.agg #[.float .f64 c, .float .f64 v, .float .f64 r, .int .i64 E, .int .i64 R]] w fun e w' => e = .returned (.float .f64 sc) ∧ Hid (Up w w') := by
  refine (t38 c v r E R w).mono ?_
  rintro e w' ⟨x, rfl, hx, hu⟩
  exact ⟨by rw [of_ab (hx.out.trans h)], hu⟩
set_option maxHeartbeats 1000000 in
theorem t18 (c v r : Nat) (E R : Int) (s : Nat) (w : World) : Calls Tryz.prog 18 #[.agg #[.float .f64 c, .float .f64 v, .float .f64 r, .int .i64 E, .int .i64 R], .float .f64 s] w (PR w (speedF (ab c) (ab v) (ab r) E R (ab s))) := by
  have HB := BC.new w c v r E R
  have HU : Hid (Up w (w.alloc (.cells #[.float .f64 c, .float .f64 v, .float .f64 r, .int .i64 E, .int .i64 R] 24))) := Up.alloc _ _
  obtain ⟨b0, b1, b2, b3, b4⟩ := HB
  by_cases hk : checkF (ab c) (ab v) (ab r) E R = 0
  · have HK : Hid (CheckOk c v r E R) := check0 hk
    have HT : Hid (∀ w, Calls Tryz.prog 36 #[.agg #[.float .f64 c, .float .f64 v, .float .f64 r, .int .i64 E, .int .i64 R]] w (IU w 0)) := fun w => by rw [← hk]; exact t36 c v r E R w
    cases hf : fin (ab s)
    · have HC : Hid (speedF (ab c) (ab v) (ab r) E R (ab s) = (ab 0, 6)) := by show _ = _; unfold speedF; simp [hk, hf]
      clear hk
      go_enter Tryz.func18, Tryz.ntmps18
      go_wp2_with (first
            | (go_at_call 36; (with_reducible refine (HT.out _).mono ?_); rintro e w1 ⟨rfl, u1⟩; have c0 := up_cell u1.out b0; have c1 := up_cell u1.out b1; have c2 := up_cell u1.out b2; have c3 := up_cell u1.out b3; have c4 := up_cell u1.out b4)
            | (go_at_call 37; (with_reducible refine (t37 _ _).mono ?_); rintro e w' ⟨rfl, rfl⟩))
      go_ret2
      exact PR.mk (by rw [HC.out]) (by rw [HC.out]) (HU.out.trans u1.out)
    · have HC : Hid (speedF (ab c) (ab v) (ab r) E R (ab s) = negOr (spF (ab v) (ab r) E R (ab s))) := by show _ = _; unfold speedF; simp [hk, hf]
      obtain ⟨f, wv, sc, tw, h1, h2, h3, h4, h5⟩ := sv_of HK.out hf
      have F1 : ∀ w : World, (binOp .quo 22 (.float .f64 s) (.float .f64 (floatOfInt .f64 R))).run Tryz.prog w = .ok (.float .f64 f) w := fun w => run_fl_some .quo 22 w h1
      have F2 : ∀ w : World, (binOp .mul 22 (.float .f64 f) (.float .f64 v)).run Tryz.prog w = .ok (.float .f64 wv) w := fun w => run_fl_some .mul 22 w h2
      have F3 : ∀ w : World, (binOp .mul 22 (.float .f64 4611686018427387904) (.float .f64 sc)).run Tryz.prog w = .ok (.float .f64 tw) w := fun w => run_fl_some .mul 22 w h4
      have H3 : Hid (secF E (ab r) = some sc) := h3
      have H5 : Hid (spF (ab v) (ab r) E R (ab s) = bin .quo (ab wv) (ab tw)) := h5
      clear hk h1 h2 h3 h4 h5
      go_enter Tryz.func18, Tryz.ntmps18
      go_wp2_with (first
            | (go_at_call 36; (with_reducible refine (HT.out _).mono ?_); rintro e w1 ⟨rfl, u1⟩; have c0 := up_cell u1.out b0; have c1 := up_cell u1.out b1; have c2 := up_cell u1.out b2; have c3 := up_cell u1.out b3; have c4 := up_cell u1.out b4)
            | (go_at_call 37; (with_reducible refine (t37 _ _).mono ?_); rintro e w' ⟨rfl, rfl⟩))
      go_region_with (first
            | (go_at_call 38; (with_reducible refine (t38k H3.out _).mono ?_); rintro e w2 ⟨rfl, u2⟩; have d0 := up_cell u2.out c0; have d1 := up_cell u2.out c1; have d2 := up_cell u2.out c2; have d3 := up_cell u2.out c3; have d4 := up_cell u2.out c4)
            | ((with_reducible refine upon_fl (op := .quo) (by simp) ?_); intro y4 n4 hy4))
      all_goals go_wp2_with (first
            | (go_at_call 36; (with_reducible refine (HT.out _).mono ?_); rintro e w1 ⟨rfl, u1⟩; have c0 := up_cell u1.out b0; have c1 := up_cell u1.out b1; have c2 := up_cell u1.out b2; have c3 := up_cell u1.out b3; have c4 := up_cell u1.out b4)
            | (go_at_call 37; (with_reducible refine (t37 _ _).mono ?_); rintro e w' ⟨rfl, rfl⟩))
      all_goals go_ret2
      all_goals (rename_i hfn; have hx : ab y4 = spF (ab v) (ab r) E R (ab s) := (by rw [H5.out]; exact hy4.out))
      all_goals first
        | (have e := negOr_not hx (by simpa using hfn); exact PR.mk (by rw [HC.out, e]) (by rw [HC.out, e]) ((((HU.out.trans u1.out).trans (Up.drew _)).trans u2.out).trans (Up.drewN _ _)))
        | (have e := negOr_ok hx (by simpa using hfn); exact PR.mk (by rw [HC.out, e]) (by rw [HC.out, e]) ((((HU.out.trans u1.out).trans (Up.drew _)).trans u2.out).trans (Up.drewN _ _)))
  · have HT : Hid (∀ w, Calls Tryz.prog 36 #[.agg #[.float .f64 c, .float .f64 v, .float .f64 r, .int .i64 E, .int .i64 R]] w (IU w (checkF (ab c) (ab v) (ab r) E R))) := fun w => t36 c v r E R w
    have HC : Hid (speedF (ab c) (ab v) (ab r) E R (ab s) = (ab 0, checkF (ab c) (ab v) (ab r) E R)) := by show _ = _; unfold speedF; rw [if_pos hk]
    generalize checkF (ab c) (ab v) (ab r) E R = k at *
    go_enter Tryz.func18, Tryz.ntmps18
    go_wp2_with (first
            | (go_at_call 36; (with_reducible refine (HT.out _).mono ?_); rintro e w1 ⟨rfl, u1⟩))
    go_ret2
    exact PR.mk (by rw [HC.out]) (by rw [HC.out]) (HU.out.trans u1.out)
end Go.Proofs.YtflngnnoibkkoaaGreat.Pl.Gt
/- One: what it answers; the program's, the reference's. -/
namespace Go.Proofs.YtflngnnoibkkoaaGreat.Pl
open Go.ChangeShapes Go.WideShapes Go.ChangeAt Go.RowKit Go.Fl Go.Sort
set_option maxRecDepth 200000
set_option maxHeartbeats 8000000
attribute [local go_sem] run_store_float call34 run_neg fold_eq fold_ne fold_lt fold_gt abs_eq

theorem t149 (x : Nat) (w : World) : Calls Tryz.prog 149 #[.float .f64 x] w fun e w' => e = .returned (.bool (fin (ab x))) ∧ w' = w := by
  go_enter Tryz.func149, Tryz.ntmps149
  go_wp2_with (first | (go_at_call 51; refine (t51 _ _).mono ?_; rintro e w' ⟨rfl, rfl⟩) | (go_at_call 52; refine (t52 _ _).mono ?_; rintro e w' ⟨rfl, rfl⟩))
  all_goals (go_ret; go_tidy; simp_all [fin, eqF_self])
/-- A plot's numbers, all NaN being one. -/
structure Pl5 where
  r : Option Nat
  s : Option Nat
  p : Option Nat
  b : Option Nat
  t : Option Nat
def Plt.ab (x : Plt) : Pl5 := ⟨Go.Fl.ab x.r, Go.Fl.ab x.s, Go.Fl.ab x.p, Go.Fl.ab x.b, Go.Fl.ab x.t⟩
/-- What One answers. -/
def oneF (c v r : Nat) (E R : Int) (bi ga po tm : Nat) : Pl5 × Int :=
  if Gt.checkF (ab c) (ab v) (ab r) E R ≠ 0 then (Plt.zero.ab, Gt.checkF (ab c) (ab v) (ab r) E R)
  else if (fin (ab bi) && fin (ab ga) && fin (ab po) && fin (ab tm)) = false then (Plt.zero.ab, 6)
  else if (Gt.speedF (ab c) (ab v) (ab r) E R (ab bi)).2 ≠ 0 then (Plt.zero.ab, (Gt.speedF (ab c) (ab v) (ab r) E R (ab bi)).2)
  else (⟨bin .mul (bin .add (ab ga) (ab 4602678819172646912)) (ab c), (Gt.speedF (ab c) (ab v) (ab r) E R (ab bi)).1, ab po, ab 0, ab tm⟩, 0)
/-- What a call of One leaves. -/
def OneR (w : World) (a : Pl5 × Int) (e : Ending) (w' : World) : Prop := ∃ x : Plt, e = .returned (.tuple #[.agg (pC x), .int .i64 a.2]) ∧ Hid (x.ab = a.1) ∧ Hid (Up w w')
theorem results_plot {fn : Func} {p u : Tmp} (h : fn.results = #[.cell p 64, .tmp u]) (tmps : Array Value) (w : World) (g : Nat) (c0 c1 c2 c3 c4 : Value) (hp : tmps.getD p undef = .pointer (some ⟨g, 0, none⟩)) (hg : Bk w g 64 c0 c1 c2 c3 c4) :
    (results fn tmps).run Tryz.prog w = .ok (.tuple #[.agg #[c0, c1, c2, c3, c4], tmps.getD u undef]) w := by
  have hp' : tmps[p]?.getD undef = .pointer (some ⟨g, 0, none⟩) := by simpa using hp
  have hl := run_loadVar_row w g 64 64 #[c0, c1, c2, c3, c4] (0, 0) _ hg Tryz.underlying64 rfl (by kernel_rfl)
  simp [results, h, hp', asAddr, hl]
theorem run_index4 (w : World) (x y z t : Nat) (c : Nat) (hc : c < 4) : (Instr.index 182 (.agg #[.float .f64 x, .float .f64 y, .float .f64 z, .float .f64 t]) (.int .i64 c)).run Tryz.prog w = .ok (.float .f64 (if c = 0 then x else if c = 1 then y else if c = 2 then z else t)) w := by
  rcases (show c = 0 ∨ c = 1 ∨ c = 2 ∨ c = 3 by omega) with rfl | rfl | rfl | rfl <;> kernel_rfl
theorem wpList_index4 {ops : Array Oper} {rest : List Oper} {o : Oper} {a : Act} {Q : Exit → Act → World → Prop} {w : World} {x y z t : Nat} (c v : Nat) (hv : (if c = 0 then x else if c = 1 then y else if c = 2 then z else t) = v) (hgd : o.guard = none) (s i : Operand)
    (hop : o.op = Op.index 182 s i) (hs : a.eval s = .agg #[.float .f64 x, .float .f64 y, .float .f64 z, .float .f64 t]) (hx : a.eval i = .int .i64 c) (hc : c < 4)
    (hK : wpList Tryz.prog ops Q rest (a.put o.dst (.float .f64 v)) w) : wpList Tryz.prog ops Q (o :: rest) a w := by
  refine wpList_plain hgd fun K hK' => ?_
  unfold Oper.wp
  simp only [execOp, hop, hs, hx]
  have e := run_index4 w x y z t c hc
  rw [hv] at e
  simp [e, Result.andThen]
  exact hK' _ _ hK
/-- A beat in memory, a middle, and where the answer comes. -/
structure On (w : World) (x : Nat) (c v r : Nat) (E R : Int) (bi ga po : Nat) (sp : Int) (W : World) : Prop where
  up : Up w W
  bt : Bk W x 24 (.float .f64 c) (.float .f64 v) (.float .f64 r) (.int .i64 E) (.int .i64 R)
  g0 : W.cell? ⟨x + 1, 0, none⟩ = some (.float .f64 bi)
  g1 : W.cell? ⟨x + 1, 1, none⟩ = some (.float .f64 ga)
  g2 : W.cell? ⟨x + 1, 2, none⟩ = some (.float .f64 po)
  ans : Bk W (x + 1 + 1) 64 (.float .f64 0) (.float .f64 0) (.float .f64 0) (.float .f64 0) (.float .f64 0)
theorem On.upon {w : World} {x c v r : Nat} {E R : Int} {bi ga po : Nat} {sp : Int} {W W2 : World} (h : On w x c v r E R bi ga po sp W) (hu : Up W W2) : On w x c v r E R bi ga po sp W2 := ⟨h.up.trans hu, h.bt.up hu, cell_up h.g0 hu, cell_up h.g1 hu, cell_up h.g2 hu, h.ans.up hu⟩
def onW (w : World) (c v r : Nat) (E R : Int) (bi ga po : Nat) (sp : Int) : World := ((w.alloc (.cells #[.float .f64 c, .float .f64 v, .float .f64 r, .int .i64 E, .int .i64 R] 24)).alloc (.cells #[.float .f64 bi, .float .f64 ga, .float .f64 po, .int .i64 sp] 157)).alloc (.cells #[.float .f64 0, .float .f64 0, .float .f64 0, .float .f64 0, .float .f64 0] 64)
theorem on_new (w : World) (c v r : Nat) (E R : Int) (bi ga po : Nat) (sp : Int) : On w w.heap.size c v r E R bi ga po sp (onW w c v r E R bi ga po sp) := by
  have e1 : (w.alloc (.cells #[.float .f64 c, .float .f64 v, .float .f64 r, .int .i64 E, .int .i64 R] 24)).heap.size = w.heap.size + 1 := by simp
  have e2 : ((w.alloc (.cells #[.float .f64 c, .float .f64 v, .float .f64 r, .int .i64 E, .int .i64 R] 24)).alloc (.cells #[.float .f64 bi, .float .f64 ga, .float .f64 po, .int .i64 sp] 157)).heap.size = w.heap.size + 1 + 1 := by simp
  have k : ∀ j u, #[Value.float .f64 bi, .float .f64 ga, .float .f64 po, .int .i64 sp][j]? = some u → (onW w c v r E R bi ga po sp).cell? ⟨w.heap.size + 1, j, none⟩ = some u := fun j u hu => by
    have : ((w.alloc (.cells #[.float .f64 c, .float .f64 v, .float .f64 r, .int .i64 E, .int .i64 R] 24)).alloc (.cells #[.float .f64 bi, .float .f64 ga, .float .f64 po, .int .i64 sp] 157)).cell? ⟨(w.alloc (.cells #[.float .f64 c, .float .f64 v, .float .f64 r, .int .i64 E, .int .i64 R] 24)).heap.size, j, none⟩ = some u := (World.cell?_alloc_at _ _ _ _ rfl).trans hu
    rw [e1] at this
    exact cell_up this (Up.alloc _ _)
  refine ⟨((Up.alloc _ _).trans (Up.alloc _ _)).trans (Up.alloc _ _), (Bk.new _ _ _ _ _ _ _).up ((Up.alloc _ _).trans (Up.alloc _ _)), k 0 _ rfl, k 1 _ rfl, k 2 _ rfl, ?_⟩
  have := Bk.new ((w.alloc (.cells #[.float .f64 c, .float .f64 v, .float .f64 r, .int .i64 E, .int .i64 R] 24)).alloc (.cells #[.float .f64 bi, .float .f64 ga, .float .f64 po, .int .i64 sp] 157)) 64 (.float .f64 0) (.float .f64 0) (.float .f64 0) (.float .f64 0) (.float .f64 0)
  rw [e2] at this
  exact this
end Go.Proofs.YtflngnnoibkkoaaGreat.Pl
/- One, walked. -/
namespace Go.Proofs.YtflngnnoibkkoaaGreat.Pl
open Go.ChangeShapes Go.WideShapes Go.ChangeAt Go.RowKit Go.Fl Go.Sort
set_option maxRecDepth 200000
set_option maxHeartbeats 8000000
attribute [local go_sem] run_store_float call34 run_neg fold_eq fold_ne fold_lt fold_gt abs_eq

/-- How many of the four are known to be finite. -/
def G4 (z : Int) (bi ga po tm : Nat) : Prop := (1 ≤ z → fin (ab bi) = true) ∧ (2 ≤ z → fin (ab ga) = true) ∧ (3 ≤ z → fin (ab po) = true) ∧ (4 ≤ z → fin (ab tm) = true)
theorem size28' : (Tryz.prog.info? 64).map (·.size) = some (#[Value.float .f64 0, .float .f64 0, .float .f64 0, .float .f64 0, .float .f64 0] : Array Value).size := by kernel_rfl
theorem four_no {b1 b2 b3 b4 : Bool} (h : b1 = false ∨ b2 = false ∨ b3 = false ∨ b4 = false) : (b1 && b2 && b3 && b4) = false := by
  rcases h with rfl | rfl | rfl | rfl <;> simp
set_option maxHeartbeats 2000000 in
theorem t121 (c v r : Nat) (E R : Int) (bi ga po : Nat) (sp : Int) (tm : Nat) (w : World) : Calls Tryz.prog 121 #[.agg #[.float .f64 c, .float .f64 v, .float .f64 r, .int .i64 E, .int .i64 R], .agg #[.float .f64 bi, .float .f64 ga, .float .f64 po, .int .i64 sp], .float .f64 tm] w (OneR w (oneF c v r E R bi ga po tm)) := by
  have HN : Hid (On w w.heap.size c v r E R bi ga po sp (onW w c v r E R bi ga po sp)) := on_new w c v r E R bi ga po sp
  have CK : Hid (∀ w, Calls Tryz.prog 36 #[.agg #[.float .f64 c, .float .f64 v, .float .f64 r, .int .i64 E, .int .i64 R]] w (Gt.IU w (Gt.checkF (ab c) (ab v) (ab r) E R))) := fun w => Gt.t36 c v r E R w
  have SP : Hid (∀ w, Calls Tryz.prog 18 #[.agg #[.float .f64 c, .float .f64 v, .float .f64 r, .int .i64 E, .int .i64 R], .float .f64 bi] w (Gt.PR w (Gt.speedF (ab c) (ab v) (ab r) E R (ab bi)))) := fun w => Gt.t18 c v r E R bi w
  generalize hA0 : oneF c v r E R bi ga po tm = A at *
  have HA : Hid (A = oneF c v r E R bi ga po tm) := hA0.symm
  clear hA0
  unfold oneF at HA
  generalize hC : Gt.checkF (ab c) (ab v) (ab r) E R = C at *
  generalize hS : Gt.speedF (ab c) (ab v) (ab r) E R (ab bi) = S at *
  clear hC hS
  obtain ⟨b0, b1, b2, b3, b4⟩ := HN.out.bt.cells
  by_cases hc : C = 0
  · subst hc
    have HA2 : Hid (A = if (fin (ab bi) && fin (ab ga) && fin (ab po) && fin (ab tm)) = false then (Plt.zero.ab, 6) else if S.2 ≠ 0 then (Plt.zero.ab, S.2) else (⟨bin .mul (bin .add (ab ga) (ab 4602678819172646912)) (ab c), S.1, ab po, ab 0, ab tm⟩, 0)) := by
      have e := HA.out
      rw [if_neg (by simp)] at e
      exact e
    clear HA
    go_enter Tryz.func121, Tryz.ntmps121
    go_wp2_with (go_at_call 36; (with_reducible refine (CK.out _).mono ?_); rintro e w1 ⟨rfl, HU1⟩; (have HN1 : Hid (On w w.heap.size c v r E R bi ga po sp w1) := HN.out.upon HU1.out); (have g0 := HN1.out.g0); (have g1 := HN1.out.g1); (have g2 := HN1.out.g2))
    have HA1 := HN1.out.ans
    generalize hx : w.heap.size = x at *
    go_loopw [10, 27] (fun _ vi wr => ∃ z : Int, (z = 0 ∨ z = 1 ∨ z = 2 ∨ z = 3 ∨ z = 4) ∧ vi = .int .i64 z ∧ w1 = wr ∧ Hid (G4 z bi ga po tm)) (fun _ vi _ => 4 - (intOf vi).toNat)
    case atStart => exact ⟨0, by omega, rfl, rfl, ⟨fun h => by omega, fun h => by omega, fun h => by omega, fun h => by omega⟩⟩
    case round =>
      obtain ⟨z, hz, rfl, hw, HG⟩ := hrel
      subst hw
      rcases hz with rfl | rfl | rfl | rfl | rfl
      · cases hb : fin (ab bi)
        · go_wp2_with (first
            | (refine wpList_index4 0 bi rfl rfl _ _ rfl rfl rfl (by omega) ?_)
            | (go_at_call 149; (with_reducible refine (t149 bi _).mono ?_); rintro e w' ⟨rfl, hw⟩; subst w'; rw [hb])
            | (refine wpList_store_mid rfl 64 _ _ rfl (x + 1 + 1) 0 _ rfl rfl (Bk.there HA1) size28' (by simp [Value.oneCell']) ?_))
          refine bodyPost_ret (results_plot Tryz.results121 _ _ (x + 1 + 1) (.float .f64 0) (.float .f64 0) (.float .f64 0) (.float .f64 0) (.float .f64 0) rfl (Bk.set HA1 _ _ _ _ _)) rfl ?_
          rw [HA2.out, if_pos (four_no (by simp [hb]))]
          exact ⟨⟨0, 0, 0, 0, 0⟩, rfl, rfl, up_set HN1.out.up (by rw [hx]; omega) _ _⟩
        · go_wp2_with (first
            | (refine wpList_index4 0 bi rfl rfl _ _ rfl rfl rfl (by omega) ?_)
            | (go_at_call 149; (with_reducible refine (t149 bi _).mono ?_); rintro e w' ⟨rfl, hw⟩; subst w'; rw [hb]))
          go_roundw
          case rel => exact ⟨1, by omega, rfl, by simp, ⟨fun _ => hb, fun h => by omega, fun h => by omega, fun h => by omega⟩⟩
          case measure => simp [intOf]
      · cases hb : fin (ab ga)
        · go_wp2_with (first
            | (refine wpList_index4 1 ga rfl rfl _ _ rfl rfl rfl (by omega) ?_)
            | (go_at_call 149; (with_reducible refine (t149 ga _).mono ?_); rintro e w' ⟨rfl, hw⟩; subst w'; rw [hb])
            | (refine wpList_store_mid rfl 64 _ _ rfl (x + 1 + 1) 0 _ rfl rfl (Bk.there HA1) size28' (by simp [Value.oneCell']) ?_))
          refine bodyPost_ret (results_plot Tryz.results121 _ _ (x + 1 + 1) (.float .f64 0) (.float .f64 0) (.float .f64 0) (.float .f64 0) (.float .f64 0) rfl (Bk.set HA1 _ _ _ _ _)) rfl ?_
          rw [HA2.out, if_pos (four_no (by simp [hb]))]
          exact ⟨⟨0, 0, 0, 0, 0⟩, rfl, rfl, up_set HN1.out.up (by rw [hx]; omega) _ _⟩
        · go_wp2_with (first
            | (refine wpList_index4 1 ga rfl rfl _ _ rfl rfl rfl (by omega) ?_)
            | (go_at_call 149; (with_reducible refine (t149 ga _).mono ?_); rintro e w' ⟨rfl, hw⟩; subst w'; rw [hb]))
          go_roundw
          case rel => exact ⟨2, by omega, rfl, by simp, ⟨fun _ => HG.out.1 (by omega), fun _ => hb, fun h => by omega, fun h => by omega⟩⟩
          case measure => simp [intOf]
      · cases hb : fin (ab po)
        · go_wp2_with (first
            | (refine wpList_index4 2 po rfl rfl _ _ rfl rfl rfl (by omega) ?_)
            | (go_at_call 149; (with_reducible refine (t149 po _).mono ?_); rintro e w' ⟨rfl, hw⟩; subst w'; rw [hb])
            | (refine wpList_store_mid rfl 64 _ _ rfl (x + 1 + 1) 0 _ rfl rfl (Bk.there HA1) size28' (by simp [Value.oneCell']) ?_))
          refine bodyPost_ret (results_plot Tryz.results121 _ _ (x + 1 + 1) (.float .f64 0) (.float .f64 0) (.float .f64 0) (.float .f64 0) (.float .f64 0) rfl (Bk.set HA1 _ _ _ _ _)) rfl ?_
          rw [HA2.out, if_pos (four_no (by simp [hb]))]
          exact ⟨⟨0, 0, 0, 0, 0⟩, rfl, rfl, up_set HN1.out.up (by rw [hx]; omega) _ _⟩
        · go_wp2_with (first
            | (refine wpList_index4 2 po rfl rfl _ _ rfl rfl rfl (by omega) ?_)
            | (go_at_call 149; (with_reducible refine (t149 po _).mono ?_); rintro e w' ⟨rfl, hw⟩; subst w'; rw [hb]))
          go_roundw
          case rel => exact ⟨3, by omega, rfl, by simp, ⟨fun _ => HG.out.1 (by omega), fun _ => HG.out.2.1 (by omega), fun _ => hb, fun h => by omega⟩⟩
          case measure => simp [intOf]
      · cases hb : fin (ab tm)
        · go_wp2_with (first
            | (refine wpList_index4 3 tm rfl rfl _ _ rfl rfl rfl (by omega) ?_)
            | (go_at_call 149; (with_reducible refine (t149 tm _).mono ?_); rintro e w' ⟨rfl, hw⟩; subst w'; rw [hb])
            | (refine wpList_store_mid rfl 64 _ _ rfl (x + 1 + 1) 0 _ rfl rfl (Bk.there HA1) size28' (by simp [Value.oneCell']) ?_))
          refine bodyPost_ret (results_plot Tryz.results121 _ _ (x + 1 + 1) (.float .f64 0) (.float .f64 0) (.float .f64 0) (.float .f64 0) (.float .f64 0) rfl (Bk.set HA1 _ _ _ _ _)) rfl ?_
          rw [HA2.out, if_pos (four_no (by simp [hb]))]
          exact ⟨⟨0, 0, 0, 0, 0⟩, rfl, rfl, up_set HN1.out.up (by rw [hx]; omega) _ _⟩
        · go_wp2_with (first
            | (refine wpList_index4 3 tm rfl rfl _ _ rfl rfl rfl (by omega) ?_)
            | (go_at_call 149; (with_reducible refine (t149 tm _).mono ?_); rintro e w' ⟨rfl, hw⟩; subst w'; rw [hb]))
          go_roundw
          case rel => exact ⟨4, by omega, rfl, by simp, ⟨fun _ => HG.out.1 (by omega), fun _ => HG.out.2.1 (by omega), fun _ => HG.out.2.2.1 (by omega), fun _ => hb⟩⟩
          case measure => simp [intOf]
      · have q1 := HG.out.1 (by omega)
        have q2 := HG.out.2.1 (by omega)
        have q3 := HG.out.2.2.1 (by omega)
        have q4 := HG.out.2.2.2 (by omega)
        clear HG
        have hall : (fin (ab bi) && fin (ab ga) && fin (ab po) && fin (ab tm)) = true := by simp [q1, q2, q3, q4]
        have HA3 : Hid (A = if S.2 ≠ 0 then (Plt.zero.ab, S.2) else (⟨bin .mul (bin .add (ab ga) (ab 4602678819172646912)) (ab c), S.1, ab po, ab 0, ab tm⟩, 0)) := by
          have e := HA2.out
          rw [if_neg (by simp [hall])] at e
          exact e
        clear HA2 hall
        obtain ⟨S1, S2⟩ := S
        simp only at *
        obtain ⟨d0, d1, d2, d3, d4⟩ := HN1.out.bt.cells
        by_cases hs : S2 = 0
        · subst hs
          have HA4 : Hid (A = (⟨bin .mul (bin .add (ab ga) (ab 4602678819172646912)) (ab c), S1, ab po, ab 0, ab tm⟩, 0)) := by
            have e := HA3.out
            rw [if_neg (by simp)] at e
            exact e
          clear HA3
          go_wp2_with (first
            | (go_at_call 18; (with_reducible refine (SP.out _).mono ?_); rintro e w3 ⟨sv, rfl, HSv, HU3⟩; (have HN3 : Hid (On w x c v r E R bi ga po sp w3) := HN1.out.upon HU3.out); (obtain ⟨j0, j1, j2, j3, j4⟩ := HN3.out.bt.cells); (have i1 := HN3.out.g1); (have i2 := HN3.out.g2))
            | ((fail_if_success have := HR5); (with_reducible refine upon_fl (by simp) ?_); intro r5 n5 hr5; (have HR5 : Hid (Go.Fl.ab r5 = bin .add (Go.Fl.ab ga) (Go.Fl.ab 4602678819172646912)) := hr5))
            | ((with_reducible refine upon_fl (by simp) ?_); intro r6 n6 hr6)
            | (refine wpList_store_mid rfl 64 _ _ rfl (x + 1 + 1) 0 _ rfl rfl (Bk.there (HN3.out.ans.up (Up.drewN _ _))) size28' (by simp [Value.oneCell']) ?_))
          refine bodyPost_ret (results_plot Tryz.results121 _ _ (x + 1 + 1) (.float .f64 r6) (.float .f64 sv) (.float .f64 po) (.float .f64 0) (.float .f64 tm) rfl (Bk.set (HN3.out.ans.up (Up.drewN _ _)) _ _ _ _ _)) rfl ?_
          rw [HA4.out]
          refine ⟨⟨r6, sv, po, 0, tm⟩, rfl, ?_, up_set (HN3.out.up.trans (Up.drewN _ _)) (by rw [hx]; omega) _ _⟩
          show Plt.ab ⟨r6, sv, po, 0, tm⟩ = _
          unfold Plt.ab
          simp only
          rw [hr6.out, HR5.out, HSv.out]
        · have HA4 : Hid (A = (Plt.zero.ab, S2)) := by
            have e := HA3.out
            rw [if_pos hs] at e
            exact e
          have hsb : (S2 != 0) = true := by simp [hs]
          clear HA3 hs
          go_wp2_with (first
            | (go_at_call 18; (with_reducible refine (SP.out _).mono ?_); rintro e w3 ⟨sv, rfl, HSv, HU3⟩; (have HN3 : Hid (On w x c v r E R bi ga po sp w3) := HN1.out.upon HU3.out))
            | (refine wpList_store_mid rfl 64 _ _ rfl (x + 1 + 1) 0 _ rfl rfl (Bk.there HN3.out.ans) size28' (by simp [Value.oneCell']) ?_))
          refine bodyPost_ret (results_plot Tryz.results121 _ _ (x + 1 + 1) (.float .f64 0) (.float .f64 0) (.float .f64 0) (.float .f64 0) (.float .f64 0) rfl (Bk.set HN3.out.ans _ _ _ _ _)) rfl ?_
          rw [HA4.out]
          exact ⟨⟨0, 0, 0, 0, 0⟩, rfl, rfl, up_set HN3.out.up (by rw [hx]; omega) _ _⟩
  · have HA2 : Hid (A = (Plt.zero.ab, C)) := by
      have e := HA.out
      rw [if_pos hc] at e
      exact e
    have hcb : (C != 0) = true := by simp [hc]
    have HC : Hid (C ≠ 0) := hc
    have HA1 := HN.out.ans
    clear HA hc
    go_enter Tryz.func121, Tryz.ntmps121
    go_wp2_with (first
      | (go_at_call 36; (with_reducible refine (CK.out _).mono ?_); rintro e w1 ⟨rfl, HU1⟩; (have HN1 : Hid (On w w.heap.size c v r E R bi ga po sp w1) := HN.out.upon HU1.out); (have HB1 : Hid _ := HN1.out.ans))
      | (refine wpList_store_mid rfl 64 _ _ rfl (w.heap.size + 1 + 1) 0 _ rfl rfl (Bk.there HN1.out.ans) size28' (by simp [Value.oneCell']) ?_))
    refine bodyPost_ret (results_plot Tryz.results121 _ _ (w.heap.size + 1 + 1) (.float .f64 0) (.float .f64 0) (.float .f64 0) (.float .f64 0) (.float .f64 0) rfl (Bk.set HN1.out.ans _ _ _ _ _)) rfl ?_
    rw [HA2.out]
    exact ⟨⟨0, 0, 0, 0, 0⟩, rfl, rfl, up_set HN1.out.up (by omega) _ _⟩
end Go.Proofs.YtflngnnoibkkoaaGreat.Pl
