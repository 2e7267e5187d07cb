/- Two rows held against each other. -/
import Derived.Test.YtgalgnopjcpocaaH
namespace Go.Proofs.Ytgalgnopjcpocaa
open Go.ChangeShapes Go.WideShapes Go.ChangeAt Go.RowKit Go.Fl Ieee
attribute [local go_sem] run_store_float run_store_complex call20 call33 run_neg fold_eq fold_ne fold_lt fold_gt abs_eq

theorem cell_up {w w' : World} {b o : Nat} {v : Value} (h : w.cell? ⟨b, o, none⟩ = some v) (hu : Up w w') : w'.cell? ⟨b, o, none⟩ = some v := by
  rw [Below.cell hu (World.block_lt_of_cell? w _ h)]; exact h
theorem same_at {d d' : List (Nat × Nat)} (h : d.map ab2 = d'.map ab2) {i : Nat} (hi : i < d.length) : ab d[i]!.1 = ab d'[i]!.1 ∧ ab d[i]!.2 = ab d'[i]!.2 := by
  have hl : d.length = d'.length := by simpa using congrArg List.length h
  have e := congrArg (fun l => l[i]?) h
  simp only [List.getElem?_map, List.getElem?_eq_getElem hi, List.getElem?_eq_getElem (show i < d'.length by omega), Option.map_some, Option.some.injEq, ab2, Prod.mk.injEq] at e
  rw [getElem!_pos d i hi, getElem!_pos d' i (by omega)]
  exact e
def TU (w : World) (e : Ending) (w' : World) : Prop := e = .returned (.bool true) ∧ Hid (Up w w')
end Go.Proofs.Ytgalgnopjcpocaa
