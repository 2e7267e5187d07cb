/-
  No cell of these rows narrows 'for every input' (looked for: loops, veiled, ifaces, maps, wideKeys, modest, calm, conditions, laid).
  DERIVED. THE GIVEN ROWS OF THIS SEAT. 3 by the template 'for every input the law returns true; each argument reads behind the call as it read before'; 0 by the template 'total and deterministic' (their statements: YtjnggbpifclpcabTotals.lean).
  GIVEN WITH THE SEED: the statements are not yours to turn. If you find one false, say at which input.
  Laid BY PROGRAM, IN A SANDBOX (cutbox-rows.mjs): the forced cells as the released guide's own fill.sh prints them over the translation 01ebf6e8c5d850c9… (all of the seat's roots in one cut). By AI agents, Wed Nov 11 2026. No macro, syntax, notation, axiom, sorry.
-/
import Derived.Test.YtjnggbpifclpcabChecked
import GoSem.Claim
import GoSem.ClaimJoined
import GoSem.ClaimMapViews
import Derived.JoinedTies
import Derived.KernelRfl
namespace Go.Proofs.Ytjnggbpifclpcab
/- THE CELL 'sum', in the pinned program and in every row, IS THE sha256 OF THE DUMP (.gsa) THAT YtjnggbpifclpcabProg.lean LOADS. Nothing in Lean hashes anything: it is a label: what it is worth is what the hold of that sum in a sandbox is worth. -/
noncomputable def Try.pinned : Pinned := { name := "ytjnggbpifclpcab", sum := "01ebf6e8c5d850c9abcaf659014b7d0370e606b57c10bc62518aa5d00c9bf478", checked := Try.checked }
namespace Rows
def none {H : Type} : Left H := { results := [], args := [] }

/-- 'lookoutlaw22.BeamAdds': WHATEVER THE INPUT: true; the input reads as it did. -/
def beamAddsSpec : ChangeSpec := { name := "beamAdds", fn := fun _ => fun
  | [d1, d2, d3] => { results := [.lit (.bool true)], args := [d1, d2, d3] }
  | _ => none }
def beamAddsRow : OpenClaim := { program := "ytjnggbpifclpcab", sum := "01ebf6e8c5d850c9abcaf659014b7d0370e606b57c10bc62518aa5d00c9bf478", func := "lookout/lookoutlaw22.BeamAdds", spec := "beamAdds", inPlace := ["math.Float64bits", "math.Float64frombits", "math.archFloor", "math.archTrunc", "math.sqrt"], unfollowed := true, recurses := true, apart := false }
def BeamAddsSaid : Prop := beamAddsRow.holds Try.pinned (OpenSpec.ofChange beamAddsSpec)

/-- ITS FALSE NEIGHBOUR: 'it returns false'. Refute it at one input. -/
def beamAddsWrong : ChangeSpec := { name := "beamAdds", fn := fun _ => fun
  | [d1, d2, d3] => { results := [.lit (.bool false)], args := [d1, d2, d3] }
  | _ => none }
def BeamAddsWrongFalsely : Prop := beamAddsRow.holds Try.pinned (OpenSpec.ofChange beamAddsWrong)

/-- 'lookoutlaw22.BeamDeaf': WHATEVER THE INPUT: true; the input reads as it did. -/
def beamDeafSpec : ChangeSpec := { name := "beamDeaf", fn := fun _ => fun
  | [d1, d2, d3] => { results := [.lit (.bool true)], args := [d1, d2, d3] }
  | _ => none }
def beamDeafRow : OpenClaim := { program := "ytjnggbpifclpcab", sum := "01ebf6e8c5d850c9abcaf659014b7d0370e606b57c10bc62518aa5d00c9bf478", func := "lookout/lookoutlaw22.BeamDeaf", spec := "beamDeaf", inPlace := ["math.Float64bits", "math.Float64frombits", "math.archFloor", "math.archTrunc", "math.sqrt"], unfollowed := true, recurses := true, apart := false }
def BeamDeafSaid : Prop := beamDeafRow.holds Try.pinned (OpenSpec.ofChange beamDeafSpec)

/-- ITS FALSE NEIGHBOUR: 'it returns false'. Refute it at one input. -/
def beamDeafWrong : ChangeSpec := { name := "beamDeaf", fn := fun _ => fun
  | [d1, d2, d3] => { results := [.lit (.bool false)], args := [d1, d2, d3] }
  | _ => none }
def BeamDeafWrongFalsely : Prop := beamDeafRow.holds Try.pinned (OpenSpec.ofChange beamDeafWrong)

/-- 'lookoutlaw22.BeamBack': WHATEVER THE INPUT: true; the input reads as it did. -/
def beamBackSpec : ChangeSpec := { name := "beamBack", fn := fun _ => fun
  | [d1, d2] => { results := [.lit (.bool true)], args := [d1, d2] }
  | _ => none }
def beamBackRow : OpenClaim := { program := "ytjnggbpifclpcab", sum := "01ebf6e8c5d850c9abcaf659014b7d0370e606b57c10bc62518aa5d00c9bf478", func := "lookout/lookoutlaw22.BeamBack", spec := "beamBack", inPlace := ["math.Float64bits", "math.Float64frombits", "math.archFloor", "math.archTrunc", "math.sqrt"], unfollowed := true, recurses := true, apart := false }
def BeamBackSaid : Prop := beamBackRow.holds Try.pinned (OpenSpec.ofChange beamBackSpec)

/-- ITS FALSE NEIGHBOUR: 'it returns false'. Refute it at one input. -/
def beamBackWrong : ChangeSpec := { name := "beamBack", fn := fun _ => fun
  | [d1, d2] => { results := [.lit (.bool false)], args := [d1, d2] }
  | _ => none }
def BeamBackWrongFalsely : Prop := beamBackRow.holds Try.pinned (OpenSpec.ofChange beamBackWrong)

/- THE SECOND FORM. 'bulk': how many values and letters a reading holds, each counted each time it is reached (what is shared counts as often as it is met; a slice's spare places count too). A statement '..UptoSaid' is the law's where the arguments, and the package variables that the reading takes, are together of bulk at most 1048576: NARROWER than '..Said'. Prove '..Said' where nothing that the law and all that it calls make is longer than what came in: it says more and counts as full. Else prove '..UptoSaid'. A law counts once. -/
mutual
def uptoBulk {H : Type} : DataW H → Nat
  | .lit (.string bytes) => bytes.length + 1
  | .lit _ => 1
  | .nil => 1
  | .ptr d => uptoBulk d + 1
  | .slice elems spare => uptoBulkAll elems + uptoBulkAll spare + 1
  | .agg parts => uptoBulkAll parts + 1
  | .iface _ d => uptoBulk d + 1
  | .map entries => uptoBulkEntries entries + 1
  | .held _ => 1
def uptoBulkAll {H : Type} : List (DataW H) → Nat
  | [] => 0
  | d :: r => uptoBulk d + uptoBulkAll r
def uptoBulkEntries {H : Type} : List (Lit × DataW H) → Nat
  | [] => 0
  | x :: r => uptoBulkEntry x + uptoBulkEntries r
def uptoBulkEntry {H : Type} : Lit × DataW H → Nat
  | (.string bytes, d) => bytes.length + uptoBulk d + 1
  | (_, d) => uptoBulk d + 1
 end
def uptoSmall : (H : Type) → List (DataW H) → Bool := fun _ ds => decide (uptoBulkAll ds ≤ 1048576)
def OpenSpec.upto (s : _root_.Go.ChangeSpec) : _root_.Go.OpenSpec := { _root_.Go.OpenSpec.ofChange s with cond := some uptoSmall }

/-- 'lookoutlaw22.BeamAdds', WHERE WHAT IT READS IS OF BULK AT MOST 1048576: true; the input reads as it did. -/
def beamAddsUptoRow : OpenClaim := { program := "ytjnggbpifclpcab", sum := "01ebf6e8c5d850c9abcaf659014b7d0370e606b57c10bc62518aa5d00c9bf478", func := "lookout/lookoutlaw22.BeamAdds", spec := "beamAdds", inPlace := ["math.Float64bits", "math.Float64frombits", "math.archFloor", "math.archTrunc", "math.sqrt"], unfollowed := true, recurses := true, apart := false, narrowed := true }
def BeamAddsUptoSaid : Prop := beamAddsUptoRow.holds Try.pinned (OpenSpec.upto beamAddsSpec)

/-- 'lookoutlaw22.BeamDeaf', WHERE WHAT IT READS IS OF BULK AT MOST 1048576: true; the input reads as it did. -/
def beamDeafUptoRow : OpenClaim := { program := "ytjnggbpifclpcab", sum := "01ebf6e8c5d850c9abcaf659014b7d0370e606b57c10bc62518aa5d00c9bf478", func := "lookout/lookoutlaw22.BeamDeaf", spec := "beamDeaf", inPlace := ["math.Float64bits", "math.Float64frombits", "math.archFloor", "math.archTrunc", "math.sqrt"], unfollowed := true, recurses := true, apart := false, narrowed := true }
def BeamDeafUptoSaid : Prop := beamDeafUptoRow.holds Try.pinned (OpenSpec.upto beamDeafSpec)

/-- 'lookoutlaw22.BeamBack', WHERE WHAT IT READS IS OF BULK AT MOST 1048576: true; the input reads as it did. -/
def beamBackUptoRow : OpenClaim := { program := "ytjnggbpifclpcab", sum := "01ebf6e8c5d850c9abcaf659014b7d0370e606b57c10bc62518aa5d00c9bf478", func := "lookout/lookoutlaw22.BeamBack", spec := "beamBack", inPlace := ["math.Float64bits", "math.Float64frombits", "math.archFloor", "math.archTrunc", "math.sqrt"], unfollowed := true, recurses := true, apart := false, narrowed := true }
def BeamBackUptoSaid : Prop := beamBackUptoRow.holds Try.pinned (OpenSpec.upto beamBackSpec)

end Rows
end Go.Proofs.Ytjnggbpifclpcab
