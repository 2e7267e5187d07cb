/-
  No cell of these rows narrows 'for every input' (looked for: loops, veiled, ifaces, maps, wideKeys, modest, calm, conditions, laid).
  DERIVED. THE GIVEN ROWS OF THIS SEAT. 4 by the template 'for every input the law returns true; each argument reads behind the call as it read before'; 0 by the template 'total and deterministic' (their statements: YtjnggbpifclpcaaTotals.lean).
  GIVEN WITH THE SEED: the statements are not yours to turn. If you find one false, say at which input.
  Laid BY PROGRAM, IN A SANDBOX (cutbox-rows.mjs): the forced cells as the released guide's own fill.sh prints them over the translation 259e5cf7d186bab5… (all of the seat's roots in one cut). By AI agents, Wed Nov 11 2026. No macro, syntax, notation, axiom, sorry.
-/
import Derived.Test.YtjnggbpifclpcaaChecked
import GoSem.Claim
import GoSem.ClaimJoined
import GoSem.ClaimMapViews
import Derived.JoinedTies
import Derived.KernelRfl
namespace Go.Proofs.Ytjnggbpifclpcaa
/- THE CELL 'sum', in the pinned program and in every row, IS THE sha256 OF THE DUMP (.gsa) THAT YtjnggbpifclpcaaProg.lean LOADS. Nothing in Lean hashes anything: it is a label: what it is worth is what the hold of that sum in a sandbox is worth. -/
noncomputable def Try.pinned : Pinned := { name := "ytjnggbpifclpcaa", sum := "259e5cf7d186bab52e17a85b95fd3a28a5fc4a129d054e1751a80a7ec42f1a59", checked := Try.checked }
namespace Rows
def none {H : Type} : Left H := { results := [], args := [] }

/-- 'lookoutlaw22.BeamSteers': WHATEVER THE INPUT: true; the input reads as it did. -/
def beamSteersSpec : ChangeSpec := { name := "beamSteers", fn := fun _ => fun
  | [d1, d2, d3] => { results := [.lit (.bool true)], args := [d1, d2, d3] }
  | _ => none }
def beamSteersRow : OpenClaim := { program := "ytjnggbpifclpcaa", sum := "259e5cf7d186bab52e17a85b95fd3a28a5fc4a129d054e1751a80a7ec42f1a59", func := "lookout/lookoutlaw22.BeamSteers", spec := "beamSteers", inPlace := ["math.Float64bits", "math.Float64frombits", "math.archFloor", "math.archTrunc", "math.sqrt"], unfollowed := true, recurses := true, apart := false }
def BeamSteersSaid : Prop := beamSteersRow.holds Try.pinned (OpenSpec.ofChange beamSteersSpec)

/-- ITS FALSE NEIGHBOUR: 'it returns false'. Refute it at one input. -/
def beamSteersWrong : ChangeSpec := { name := "beamSteers", fn := fun _ => fun
  | [d1, d2, d3] => { results := [.lit (.bool false)], args := [d1, d2, d3] }
  | _ => none }
def BeamSteersWrongFalsely : Prop := beamSteersRow.holds Try.pinned (OpenSpec.ofChange beamSteersWrong)

/-- 'lookoutlaw22.BeamNulls': WHATEVER THE INPUT: true; the input reads as it did. -/
def beamNullsSpec : ChangeSpec := { name := "beamNulls", fn := fun _ => fun
  | [d1, d2, d3] => { results := [.lit (.bool true)], args := [d1, d2, d3] }
  | _ => none }
def beamNullsRow : OpenClaim := { program := "ytjnggbpifclpcaa", sum := "259e5cf7d186bab52e17a85b95fd3a28a5fc4a129d054e1751a80a7ec42f1a59", func := "lookout/lookoutlaw22.BeamNulls", spec := "beamNulls", inPlace := ["math.Float64bits", "math.Float64frombits", "math.archFloor", "math.archTrunc", "math.sqrt"], unfollowed := true, recurses := true, apart := false }
def BeamNullsSaid : Prop := beamNullsRow.holds Try.pinned (OpenSpec.ofChange beamNullsSpec)

/-- ITS FALSE NEIGHBOUR: 'it returns false'. Refute it at one input. -/
def beamNullsWrong : ChangeSpec := { name := "beamNulls", fn := fun _ => fun
  | [d1, d2, d3] => { results := [.lit (.bool false)], args := [d1, d2, d3] }
  | _ => none }
def BeamNullsWrongFalsely : Prop := beamNullsRow.holds Try.pinned (OpenSpec.ofChange beamNullsWrong)

/-- 'lookoutlaw22.BeamEven': WHATEVER THE INPUT: true; the input reads as it did. -/
def beamEvenSpec : ChangeSpec := { name := "beamEven", fn := fun _ => fun
  | [d1, d2, d3] => { results := [.lit (.bool true)], args := [d1, d2, d3] }
  | _ => none }
def beamEvenRow : OpenClaim := { program := "ytjnggbpifclpcaa", sum := "259e5cf7d186bab52e17a85b95fd3a28a5fc4a129d054e1751a80a7ec42f1a59", func := "lookout/lookoutlaw22.BeamEven", spec := "beamEven", inPlace := ["math.Float64bits", "math.Float64frombits", "math.archFloor", "math.archTrunc", "math.sqrt"], unfollowed := true, recurses := true, apart := false }
def BeamEvenSaid : Prop := beamEvenRow.holds Try.pinned (OpenSpec.ofChange beamEvenSpec)

/-- ITS FALSE NEIGHBOUR: 'it returns false'. Refute it at one input. -/
def beamEvenWrong : ChangeSpec := { name := "beamEven", fn := fun _ => fun
  | [d1, d2, d3] => { results := [.lit (.bool false)], args := [d1, d2, d3] }
  | _ => none }
def BeamEvenWrongFalsely : Prop := beamEvenRow.holds Try.pinned (OpenSpec.ofChange beamEvenWrong)

/-- 'lookoutlaw22.BeamHears': WHATEVER THE INPUT: true; the input reads as it did. -/
def beamHearsSpec : ChangeSpec := { name := "beamHears", fn := fun _ => fun
  | [d1, d2, d3] => { results := [.lit (.bool true)], args := [d1, d2, d3] }
  | _ => none }
def beamHearsRow : OpenClaim := { program := "ytjnggbpifclpcaa", sum := "259e5cf7d186bab52e17a85b95fd3a28a5fc4a129d054e1751a80a7ec42f1a59", func := "lookout/lookoutlaw22.BeamHears", spec := "beamHears", inPlace := ["math.Float64bits", "math.Float64frombits", "math.archFloor", "math.archTrunc", "math.sqrt"], unfollowed := true, recurses := true, apart := false }
def BeamHearsSaid : Prop := beamHearsRow.holds Try.pinned (OpenSpec.ofChange beamHearsSpec)

/-- ITS FALSE NEIGHBOUR: 'it returns false'. Refute it at one input. -/
def beamHearsWrong : ChangeSpec := { name := "beamHears", fn := fun _ => fun
  | [d1, d2, d3] => { results := [.lit (.bool false)], args := [d1, d2, d3] }
  | _ => none }
def BeamHearsWrongFalsely : Prop := beamHearsRow.holds Try.pinned (OpenSpec.ofChange beamHearsWrong)

/- THE SECOND FORM. 'bulk': how many values and letters a reading holds, each counted each time it is reached (what is shared counts as often as it is met; a slice's spare places count too). A statement '..UptoSaid' is the law's where the arguments, and the package variables that the reading takes, are together of bulk at most 1048576: NARROWER than '..Said'. Prove '..Said' where nothing that the law and all that it calls make is longer than what came in: it says more and counts as full. Else prove '..UptoSaid'. A law counts once. -/
mutual
def uptoBulk {H : Type} : DataW H → Nat
  | .lit (.string bytes) => bytes.length + 1
  | .lit _ => 1
  | .nil => 1
  | .ptr d => uptoBulk d + 1
  | .slice elems spare => uptoBulkAll elems + uptoBulkAll spare + 1
  | .agg parts => uptoBulkAll parts + 1
  | .iface _ d => uptoBulk d + 1
  | .map entries => uptoBulkEntries entries + 1
  | .held _ => 1
def uptoBulkAll {H : Type} : List (DataW H) → Nat
  | [] => 0
  | d :: r => uptoBulk d + uptoBulkAll r
def uptoBulkEntries {H : Type} : List (Lit × DataW H) → Nat
  | [] => 0
  | x :: r => uptoBulkEntry x + uptoBulkEntries r
def uptoBulkEntry {H : Type} : Lit × DataW H → Nat
  | (.string bytes, d) => bytes.length + uptoBulk d + 1
  | (_, d) => uptoBulk d + 1
 end
def uptoSmall : (H : Type) → List (DataW H) → Bool := fun _ ds => decide (uptoBulkAll ds ≤ 1048576)
def OpenSpec.upto (s : _root_.Go.ChangeSpec) : _root_.Go.OpenSpec := { _root_.Go.OpenSpec.ofChange s with cond := some uptoSmall }

/-- 'lookoutlaw22.BeamSteers', WHERE WHAT IT READS IS OF BULK AT MOST 1048576: true; the input reads as it did. -/
def beamSteersUptoRow : OpenClaim := { program := "ytjnggbpifclpcaa", sum := "259e5cf7d186bab52e17a85b95fd3a28a5fc4a129d054e1751a80a7ec42f1a59", func := "lookout/lookoutlaw22.BeamSteers", spec := "beamSteers", inPlace := ["math.Float64bits", "math.Float64frombits", "math.archFloor", "math.archTrunc", "math.sqrt"], unfollowed := true, recurses := true, apart := false, narrowed := true }
def BeamSteersUptoSaid : Prop := beamSteersUptoRow.holds Try.pinned (OpenSpec.upto beamSteersSpec)

/-- 'lookoutlaw22.BeamNulls', WHERE WHAT IT READS IS OF BULK AT MOST 1048576: true; the input reads as it did. -/
def beamNullsUptoRow : OpenClaim := { program := "ytjnggbpifclpcaa", sum := "259e5cf7d186bab52e17a85b95fd3a28a5fc4a129d054e1751a80a7ec42f1a59", func := "lookout/lookoutlaw22.BeamNulls", spec := "beamNulls", inPlace := ["math.Float64bits", "math.Float64frombits", "math.archFloor", "math.archTrunc", "math.sqrt"], unfollowed := true, recurses := true, apart := false, narrowed := true }
def BeamNullsUptoSaid : Prop := beamNullsUptoRow.holds Try.pinned (OpenSpec.upto beamNullsSpec)

/-- 'lookoutlaw22.BeamEven', WHERE WHAT IT READS IS OF BULK AT MOST 1048576: true; the input reads as it did. -/
def beamEvenUptoRow : OpenClaim := { program := "ytjnggbpifclpcaa", sum := "259e5cf7d186bab52e17a85b95fd3a28a5fc4a129d054e1751a80a7ec42f1a59", func := "lookout/lookoutlaw22.BeamEven", spec := "beamEven", inPlace := ["math.Float64bits", "math.Float64frombits", "math.archFloor", "math.archTrunc", "math.sqrt"], unfollowed := true, recurses := true, apart := false, narrowed := true }
def BeamEvenUptoSaid : Prop := beamEvenUptoRow.holds Try.pinned (OpenSpec.upto beamEvenSpec)

/-- 'lookoutlaw22.BeamHears', WHERE WHAT IT READS IS OF BULK AT MOST 1048576: true; the input reads as it did. -/
def beamHearsUptoRow : OpenClaim := { program := "ytjnggbpifclpcaa", sum := "259e5cf7d186bab52e17a85b95fd3a28a5fc4a129d054e1751a80a7ec42f1a59", func := "lookout/lookoutlaw22.BeamHears", spec := "beamHears", inPlace := ["math.Float64bits", "math.Float64frombits", "math.archFloor", "math.archTrunc", "math.sqrt"], unfollowed := true, recurses := true, apart := false, narrowed := true }
def BeamHearsUptoSaid : Prop := beamHearsUptoRow.holds Try.pinned (OpenSpec.upto beamHearsSpec)

end Rows
end Go.Proofs.Ytjnggbpifclpcaa
