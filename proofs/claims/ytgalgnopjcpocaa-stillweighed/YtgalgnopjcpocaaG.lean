/- Units; what the laws compare by. -/
import Derived.Test.YtgalgnopjcpocaaE
namespace Go.Proofs.Ytgalgnopjcpocaa
open Go.ChangeShapes Go.WideShapes Go.ChangeAt Go.RowKit Go.Fl Ieee
attribute [local go_sem] run_store_float run_store_complex call20 call33 run_neg fold_eq fold_ne fold_lt fold_gt abs_eq

/-- Of what was there nothing has turned. -/
def Up (w w' : World) : Prop := Below w.heap.size w w'
theorem Up.refl (w : World) : Up w w := Below.refl _ _
theorem Up.trans {a b c : World} (h : Up a b) (k : Up b c) : Up a c := Below.trans h (Below.mono k h.size)
theorem Up.drewN (w : World) (n : Nat) : Up w (w.drewN n) := below_drewN (Below.refl _ _) n
/-- What a call leaves that hands back one float and has made memory. -/
def FU (w : World) (v : Option Nat) (e : Ending) (w' : World) : Prop := ∃ r, e = .returned (.float .f64 r) ∧ Hid (ab r = v) ∧ Up w w'
theorem FU.mk {w w' : World} {v : Option Nat} {r : Nat} (h : ab r = v) (hu : Up w w') : FU w v (.returned (.float .f64 r)) w' := ⟨r, rfl, h, hu⟩

theorem int_beq (x y : Nat) : ((x : Int) == (y : Int)) = decide (x = y) := by
  rw [Bool.eq_iff_iff]; simp; omega
/-- Which nth of a turn: the lesser way round. -/
def unitR (k n : Int) : Int :=
  let r := if k.tmod n < 0 then k.tmod n + n else k.tmod n
  if r > n - r then r - n else r
def unitX (k n : Int) : Option Nat := bin .quo (ab (floatOfInt .f64 (unitR k n))) (ab (floatOfInt .f64 n))
def unitC (k n : Int) : Option Nat := if n < 1 then ab 0 else turnC (unitX k n)
def unitS (k n : Int) : Option Nat := if n < 1 then ab 0 else turnS (unitX k n)
theorem unit_C {k n Q : Int} {r r' : Nat} (hr : Hid (ab r = turnC (ab r'))) (h0 : Hid (ab r' = bin .quo (ab (floatOfInt .f64 Q)) (ab (floatOfInt .f64 n)))) (hn : 1 ≤ n) (hQ : unitR k n = Q) : ab r = unitC k n := by
  unfold unitC unitX; rw [if_neg (by omega), hQ, ← h0.out]; exact hr
theorem unit_S {k n Q : Int} {r r' : Nat} (hr : Hid (ab r = turnS (ab r'))) (h0 : Hid (ab r' = bin .quo (ab (floatOfInt .f64 Q)) (ab (floatOfInt .f64 n)))) (hn : 1 ≤ n) (hQ : unitR k n = Q) : ab r = unitS k n := by
  unfold unitS unitX; rw [if_neg (by omega), hQ, ← h0.out]; exact hr
set_option maxRecDepth 20000 in
theorem t48 (k n : Int) (w : World) (hn : -9223372036854775808 ≤ n) (hn' : n ≤ 9223372036854775807) : Calls Try.prog 48 #[.int .i64 k, .int .i64 n] w (CR w (unitC k n) (unitS k n)) := by
  by_cases h1 : n < 1
  · go_enter Try.func48, Try.ntmps48
    go_wp2
    go_ret
    exact CR.mk (by simp [unitC, h1]) (by simp [unitS, h1]) (Below.refl _ _)
  · have b1 := Int.tmod_lt_of_pos k (show 0 < n by omega)
    have b2 : -n < k.tmod n := Int.lt_tmod_of_pos k (show 0 < n by omega)
    go_enter Try.func48, Try.ntmps48
    go_wp2_with (first
      | ((with_reducible refine upon_fl (by simp) ?_); intro r n hr)
      | (go_at_call 51; refine (t51 _ _).mono ?_; rintro e w1 ⟨r, s, rfl, hr, hs, hu⟩))
    all_goals (go_ret; go_tidy; refine CR.mk (unit_C (by assumption) (by assumption) (by omega) ?_) (unit_S (by assumption) (by assumption) (by omega) ?_) ((Up.drewN _ _).trans hu) <;> (simp only [unitR]; repeat' split) <;> omega)
end Go.Proofs.Ytgalgnopjcpocaa
