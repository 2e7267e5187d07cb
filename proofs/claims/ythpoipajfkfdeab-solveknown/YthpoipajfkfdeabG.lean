/- Units; what the laws compare by. -/
import Derived.Test.YthpoipajfkfdeabE
namespace Go.Proofs.Ythpoipajfkfdeab
open Go.ChangeShapes Go.WideShapes Go.ChangeAt Go.RowKit Go.Fl Ieee
attribute [local go_sem] run_store_float run_store_complex call43 call17 run_neg fold_eq fold_ne fold_lt fold_gt abs_eq

/-- Of what was there nothing has turned. -/
def Up (w w' : World) : Prop := Below w.heap.size w w'
theorem Up.refl (w : World) : Up w w := Below.refl _ _
theorem Up.trans {a b c : World} (h : Up a b) (k : Up b c) : Up a c := Below.trans h (Below.mono k h.size)
theorem Up.drewN (w : World) (n : Nat) : Up w (w.drewN n) := below_drewN (Below.refl _ _) n
/-- What a call leaves that hands back one float and has made memory. -/
def FU (w : World) (v : Option Nat) (e : Ending) (w' : World) : Prop := ∃ r, e = .returned (.float .f64 r) ∧ Hid (ab r = v) ∧ Up w w'
theorem FU.mk {w w' : World} {v : Option Nat} {r : Nat} (h : ab r = v) (hu : Up w w') : FU w v (.returned (.float .f64 r)) w' := ⟨r, rfl, h, hu⟩

theorem int_beq (x y : Nat) : ((x : Int) == (y : Int)) = decide (x = y) := by
  rw [Bool.eq_iff_iff]; simp; omega
/-- Which nth of a turn: the lesser way round. -/
def unitR (k n : Int) : Int :=
  let r := if k.tmod n < 0 then k.tmod n + n else k.tmod n
  if r > n - r then r - n else r
def unitX (k n : Int) : Option Nat := bin .quo (ab (floatOfInt .f64 (unitR k n))) (ab (floatOfInt .f64 n))
def unitC (k n : Int) : Option Nat := if n < 1 then ab 0 else turnC (unitX k n)
def unitS (k n : Int) : Option Nat := if n < 1 then ab 0 else turnS (unitX k n)
theorem unit_C {k n Q : Int} {r r' : Nat} (hr : Hid (ab r = turnC (ab r'))) (h0 : Hid (ab r' = bin .quo (ab (floatOfInt .f64 Q)) (ab (floatOfInt .f64 n)))) (hn : 1 ≤ n) (hQ : unitR k n = Q) : ab r = unitC k n := by
  unfold unitC unitX; rw [if_neg (by omega), hQ, ← h0.out]; exact hr
theorem unit_S {k n Q : Int} {r r' : Nat} (hr : Hid (ab r = turnS (ab r'))) (h0 : Hid (ab r' = bin .quo (ab (floatOfInt .f64 Q)) (ab (floatOfInt .f64 n)))) (hn : 1 ≤ n) (hQ : unitR k n = Q) : ab r = unitS k n := by
  unfold unitS unitX; rw [if_neg (by omega), hQ, ← h0.out]; exact hr
end Go.Proofs.Ythpoipajfkfdeab
