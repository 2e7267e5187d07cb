/- Angles; units; what the laws compare by. -/
import Derived.Test.YtlgejebgkkmacaaE
namespace Go.Proofs.Ytlgejebgkkmacaa
open Go.ChangeShapes Go.WideShapes Go.ChangeAt Go.RowKit Go.Fl Ieee
attribute [local go_sem] run_store_float run_store_complex call39 call50 run_neg fold_eq fold_ne fold_lt fold_gt abs_eq

/-- Of what was there nothing has turned. -/
def Up (w w' : World) : Prop := Below w.heap.size w w'
theorem Up.refl (w : World) : Up w w := Below.refl _ _
theorem Up.trans {a b c : World} (h : Up a b) (k : Up b c) : Up a c := Below.trans h (Below.mono k h.size)
theorem Up.drewN (w : World) (n : Nat) : Up w (w.drewN n) := below_drewN (Below.refl _ _) n
/-- What a call leaves that hands back one float and has made memory. -/
def FU (w : World) (v : Option Nat) (e : Ending) (w' : World) : Prop := ∃ r, e = .returned (.float .f64 r) ∧ Hid (ab r = v) ∧ Up w w'
theorem FU.mk {w w' : World} {v : Option Nat} {r : Nat} (h : ab r = v) (hu : Up w w') : FU w v (.returned (.float .f64 r)) w' := ⟨r, rfl, h, hu⟩

def partF (v : Option Nat) : Option Nat := bin .quo (bin .mul (foldF tangentL (bin .mul v v)) v) (ab 4618760256179416344)
theorem one_row {w w1 : World} (hb : Below w.heap.size w w1) (c d : Array Value) (t : TypeId) : ∃ W, (w1.alloc (.cells c t)).setRow w1.heap.size d = W ∧ Hid (W.heap[w1.heap.size]? = some (.cells d t (0, 0))) ∧ Up w W :=
  ⟨_, rfl, setRow_heap _ _ _ _ _ _ (heap_alloc_last w1 _), below_setRow (Below.alloc hb hb.size _) hb.size _⟩
theorem t77 (x : Nat) (w : World) : Calls Try.prog 77 #[.float .f64 x] w (FU w (partF (ab x))) := by
  go_enter Try.func77, Try.ntmps77
  go_wp2_with (go_at_call 80; refine (t80 _).mono ?_; rintro e w1 ⟨rfl, hb1⟩)
  refine upon_storeRow _ 80 (heap_alloc_last _ _) rfl ?_
  obtain ⟨W, hW, HG, hu⟩ := one_row hb1 _ (tangentL.map (Value.float .f64)).toArray 80
  rw [hW]
  clear hW hb1
  go_wp2_with (first
    | ((with_reducible refine upon_fl (by simp) ?_); intro r n hr)
    | (go_at_call 71; refine (fold_row tangentL 23 _ _ 80 _ rfl (by omega) (by exact HG.out)).mono ?_; rintro e w' ⟨c, n, rfl, rfl, hr⟩))
  go_ret
  go_tidy
  clear HG
  refine FU.mk ?_ (by first | exact Up.refl _ | assumption | exact Up.drewN _ _ | exact (Up.drewN _ _).trans ‹_› | exact ((Up.drewN _ _).trans ‹_›).trans (Up.drewN _ _) | exact Up.trans ‹_› (Up.drewN _ _))
  simp_all [partF, Hid]
def angleOfF (q : Option Nat) : Option Nat := if gtF q (ab 4601133428098527026) then bin .sub (ab 4593671619917905920) (partF (bin .quo (bin .sub (ab 4607182418800017408) q) (bin .add (ab 4607182418800017408) q))) else partF q
theorem t68 (x : Nat) (w : World) : Calls Try.prog 68 #[.float .f64 x] w (FU w (angleOfF (ab x))) := by
  go_enter Try.func68, Try.ntmps68
  go_wp2_with (first
    | ((with_reducible refine upon_fl (by simp) ?_); intro r n hr)
    | (go_at_call 77; refine (t77 _ _).mono ?_; rintro e w1 ⟨r, rfl, hr, hu⟩))
  all_goals (go_ret; go_tidy; refine FU.mk ?_ (by first | exact Up.refl _ | assumption | exact Up.drewN _ _ | exact (Up.drewN _ _).trans ‹_› | exact ((Up.drewN _ _).trans ‹_›).trans (Up.drewN _ _) | exact Up.trans ‹_› (Up.drewN _ _)))
  all_goals simp_all [angleOfF, Hid]
def quarterF (x y : Option Nat) : Option Nat := if gtF y x then bin .sub (ab 4598175219545276416) (angleOfF (bin .quo x y)) else angleOfF (bin .quo y x)
theorem t56 (x y : Nat) (w : World) : Calls Try.prog 56 #[.float .f64 x, .float .f64 y] w (FU w (quarterF (ab x) (ab y))) := by
  go_enter Try.func56, Try.ntmps56
  go_wp2_with (first
    | ((with_reducible refine upon_fl (by simp) ?_); intro r n hr)
    | (go_at_call 68; refine (t68 _ _).mono ?_; rintro e w1 ⟨r, rfl, hr, hu⟩))
  all_goals (go_ret; go_tidy; refine FU.mk ?_ (by first | exact Up.refl _ | assumption | exact Up.drewN _ _ | exact (Up.drewN _ _).trans ‹_› | exact ((Up.drewN _ _).trans ‹_›).trans (Up.drewN _ _) | exact Up.trans ‹_› (Up.drewN _ _)))
  all_goals simp_all [quarterF, Hid]
def angleF (x y : Option Nat) : Option Nat :=
  if !fin x || !fin y then none else
  if eqF (x.map abs) (ab 0) && eqF (y.map abs) (ab 0) then ab 0 else
  let t := if ltF x (ab 0) then bin .sub (ab 4602678819172646912) (quarterF (x.map abs) (y.map abs)) else quarterF (x.map abs) (y.map abs)
  if eqF t (ab 4602678819172646912) then ab 13826050856027422720 else
  if ltF y (ab 0) then cleanF (t.map neg) else cleanF t
set_option maxHeartbeats 1000000 in
theorem t32 (x y : Nat) (w : World) : Calls Try.prog 32 #[.complex .f64 x y] w (FU w (angleF (ab x) (ab y))) := by
  go_enter Try.func32, Try.ntmps32
  go_wp2_with (first
    | ((with_reducible refine upon_fl (by simp) ?_); intro r n hr)
    | (go_at_call 51; refine (t51 _ _).mono ?_; rintro e w' ⟨rfl, rfl⟩)
    | (go_at_call 27; refine (t27 _).mono ?_; rintro e w' ⟨rfl, rfl⟩)
    | (go_at_call 25; refine (t25 _ _).mono ?_; rintro e w' ⟨rfl, rfl⟩)
    | (go_at_call 57; refine (t57 _ _).mono ?_; rintro e w' ⟨r, n, rfl, rfl, hr⟩)
    | (go_at_call 56; refine (t56 _ _ _).mono ?_; rintro e w1 ⟨r, rfl, hr, hu⟩))
  all_goals (go_ret; go_tidy; refine FU.mk ?_ (by first | exact Up.refl _ | assumption | exact Up.drewN _ _ | exact (Up.drewN _ _).trans ‹_› | exact ((Up.drewN _ _).trans ‹_›).trans (Up.drewN _ _) | exact Up.trans ‹_› (Up.drewN _ _)))
  all_goals simp_all [angleF, Hid, ab_abs, ab_neg]
  all_goals rfl

theorem int_beq (x y : Nat) : ((x : Int) == (y : Int)) = decide (x = y) := by
  rw [Bool.eq_iff_iff]; simp; omega
theorem t14 (x y : Nat) (w : World) : Calls Try.prog 14 #[.float .f64 x, .float .f64 y] w fun e w' => e = .returned (.bool (ab x == ab y)) ∧ w' = w := by
  go_enter Try.func14, Try.ntmps14
  go_wp2
  all_goals (go_ret; go_tidy; refine ⟨?_, rfl⟩; rw [same_ab])
  all_goals simp_all [eqF_self]
  exact int_beq x y
/-- Which nth of a turn: the lesser way round. -/
def unitR (k n : Int) : Int :=
  let r := if k.tmod n < 0 then k.tmod n + n else k.tmod n
  if r > n - r then r - n else r
def unitX (k n : Int) : Option Nat := bin .quo (ab (floatOfInt .f64 (unitR k n))) (ab (floatOfInt .f64 n))
def unitC (k n : Int) : Option Nat := if n < 1 then ab 0 else turnC (unitX k n)
def unitS (k n : Int) : Option Nat := if n < 1 then ab 0 else turnS (unitX k n)
theorem unit_C {k n Q : Int} {r r' : Nat} (hr : Hid (ab r = turnC (ab r'))) (h0 : Hid (ab r' = bin .quo (ab (floatOfInt .f64 Q)) (ab (floatOfInt .f64 n)))) (hn : 1 ≤ n) (hQ : unitR k n = Q) : ab r = unitC k n := by
  unfold unitC unitX; rw [if_neg (by omega), hQ, ← h0.out]; exact hr
theorem unit_S {k n Q : Int} {r r' : Nat} (hr : Hid (ab r = turnS (ab r'))) (h0 : Hid (ab r' = bin .quo (ab (floatOfInt .f64 Q)) (ab (floatOfInt .f64 n)))) (hn : 1 ≤ n) (hQ : unitR k n = Q) : ab r = unitS k n := by
  unfold unitS unitX; rw [if_neg (by omega), hQ, ← h0.out]; exact hr
end Go.Proofs.Ytlgejebgkkmacaa
