/- Metres, the program's and the reference's. -/
import Derived.Test.YtijfmaepoamkgaaLe
namespace Go.Proofs.Ytijfmaepoamkgaa.Gt
open Go.ChangeShapes Go.WideShapes Go.ChangeAt Go.RowKit Go.Fl Ieee
attribute [local go_sem] run_store_float call53 call63 run_neg fold_eq fold_ne fold_lt fold_gt abs_eq

/-- The middle of a cell. -/
def midF (c : Option Nat) (n : Int) : Option Nat := bin .mul (bin .add (ab (floatOfInt .f64 n)) (ab 4602678819172646912)) c
def finOr (x : Option Nat) : Option Nat × Int := if fin x = true then (x, 0) else (ab 0, 6)
/-- What Metres answers. -/
def metF (c v r : Option Nat) (E R cell turns : Int) : Option Nat × Int :=
  if checkF c v r E R ≠ 0 then (ab 0, checkF c v r E R) else if cell < 0 ∨ E ≤ cell ∨ turns < 0 then (ab 0, 2)
  else if 1125899906842624 ≤ turns * E + cell then (ab 0, 3) else finOr (midF c (turns * E + cell))
def PR (w : World) (p : Option Nat × Int) (e : Ending) (w' : World) : Prop := ∃ x, e = .returned (.tuple #[.float .f64 x, .int .i64 p.2]) ∧ Hid (ab x = p.1) ∧ Hid (Up w w')
theorem PR.mk {w w' : World} {p : Option Nat × Int} {x : Nat} {k : Int} (h : ab x = p.1) (hk : p.2 = k) (hu : Up w w') : PR w p (.returned (.tuple #[.float .f64 x, .int .i64 k])) w' := ⟨x, by rw [hk], h, hu⟩
theorem finOr_ok {x : Nat} {o : Option Nat} (h : ab x = o) (hf : fin (ab x) = true) : finOr o = (ab x, 0) := by subst h; unfold finOr; rw [if_pos hf]
theorem finOr_not {x : Nat} {o : Option Nat} (h : ab x = o) (hf : fin (ab x) = false) : finOr o = (ab 0, 6) := by subst h; unfold finOr; rw [if_neg (by simp [hf])]
theorem long_iff {E cell turns : Int} (hE : 1 ≤ E) : (1125899906842623 - cell) / E < turns ↔ 1125899906842624 ≤ turns * E + cell := by
  rw [Int.ediv_lt_iff_lt_mul (by omega)]
  omega
theorem long_ref {E cell turns : Int} (hE : 1 ≤ E) (hc : 0 ≤ cell) (h : 1125899906842624 / E < turns) : 1125899906842624 ≤ turns * E + cell := by
  rw [Int.ediv_lt_iff_lt_mul (by omega)] at h
  omega
theorem short_ref {E turns : Int} (hE : 1 ≤ E) (h : ¬ 1125899906842624 / E < turns) : turns * E ≤ 1125899906842624 := by
  rw [Int.ediv_lt_iff_lt_mul (by omega)] at h
  omega
theorem quo_in {a E : Int} (ha : 0 ≤ a) (h : 1 ≤ E) : 0 ≤ a / E ∧ a / E ≤ a := ⟨Int.ediv_nonneg ha (by omega), Int.ediv_le_self E ha⟩
end Go.Proofs.Ytijfmaepoamkgaa.Gt
