/- Highest: the walk. -/
import Derived.Test.YtflngnnoibkkoaaGreatKPf
namespace Go.Proofs.YtflngnnoibkkoaaGreat.Pk
open Go.ChangeShapes Go.WideShapes Go.ChangeAt Go.RowKit Go.Fl Go.Sort
set_option maxRecDepth 200000
set_option maxHeartbeats 8000000
attribute [local go_sem] run_store_float run_neg fold_eq fold_ne fold_lt fold_gt abs_eq eqg57

/-- What a call leaves that hands back a row of spots of its own. -/
def SR (w : World) (L : List Spt) (e : Ending) (w' : World) : Prop := ∃ p c, e = .returned (.slice p L.length c) ∧ Hid (SO w.heap.size w' (.slice p L.length c) L) ∧ Hid (Up w w')
end Go.Proofs.YtflngnnoibkkoaaGreat.Pk
