/-
  No cell of these rows narrows 'for every input' (looked for: loops, veiled, ifaces, maps, wideKeys, modest, calm, conditions, laid).
  DERIVED. THE GIVEN ROWS OF THIS SEAT. 2 by the template 'for every input the law returns true; each argument reads behind the call as it read before'; 0 by the template 'total and deterministic' (their statements: YtijfmaepoamkgabTotals.lean).
  GIVEN WITH THE SEED: the statements are not yours to turn. If you find one false, say at which input.
  Laid BY PROGRAM, IN A SANDBOX (cutbox-rows.mjs): the forced cells as the released guide's own fill.sh prints them over the translation 50a3594faac6328b… (all of the seat's roots in one cut). By AI agents, Wed Nov 11 2026. No macro, syntax, notation, axiom, sorry.
-/
import Derived.Test.YtijfmaepoamkgabChecked
import GoSem.Claim
import GoSem.ClaimJoined
import GoSem.ClaimMapViews
import Derived.JoinedTies
import Derived.KernelRfl
namespace Go.Proofs.Ytijfmaepoamkgab
/- THE CELL 'sum', in the pinned program and in every row, IS THE sha256 OF THE DUMP (.gsa) THAT YtijfmaepoamkgabProg.lean LOADS. Nothing in Lean hashes anything: it is a label: what it is worth is what the hold of that sum in a sandbox is worth. -/
noncomputable def Try.pinned : Pinned := { name := "ytijfmaepoamkgab", sum := "50a3594faac6328b7f79e42cd705bafdb1a3c3a05dffeab57f4917f8c26e3c58", checked := Try.checked }
namespace Rows
def none {H : Type} : Left H := { results := [], args := [] }

/-- 'lookoutlaw16.PlotsApart': WHATEVER THE INPUT: true; the input reads as it did. -/
def plotsApartSpec : ChangeSpec := { name := "plotsApart", fn := fun _ => fun
  | [d1, d2, d3] => { results := [.lit (.bool true)], args := [d1, d2, d3] }
  | _ => none }
def plotsApartRow : OpenClaim := { program := "ytijfmaepoamkgab", sum := "50a3594faac6328b7f79e42cd705bafdb1a3c3a05dffeab57f4917f8c26e3c58", func := "lookout/lookoutlaw16.PlotsApart", spec := "plotsApart", inPlace := ["math.Float64bits", "math.Float64frombits"], unfollowed := true, recurses := true, apart := false }
def PlotsApartSaid : Prop := plotsApartRow.holds Try.pinned (OpenSpec.ofChange plotsApartSpec)

/-- ITS FALSE NEIGHBOUR: 'it returns false'. Refute it at one input. -/
def plotsApartWrong : ChangeSpec := { name := "plotsApart", fn := fun _ => fun
  | [d1, d2, d3] => { results := [.lit (.bool false)], args := [d1, d2, d3] }
  | _ => none }
def PlotsApartWrongFalsely : Prop := plotsApartRow.holds Try.pinned (OpenSpec.ofChange plotsApartWrong)

/-- 'lookouttop.TopUnfolded': WHATEVER THE INPUT: true; the input reads as it did. -/
def topUnfoldedSpec : ChangeSpec := { name := "topUnfolded", fn := fun _ => fun
  | [d1, d2, d3, d4, d5] => { results := [.lit (.bool true)], args := [d1, d2, d3, d4, d5] }
  | _ => none }
def topUnfoldedRow : OpenClaim := { program := "ytijfmaepoamkgab", sum := "50a3594faac6328b7f79e42cd705bafdb1a3c3a05dffeab57f4917f8c26e3c58", func := "lookout/lookouttop.TopUnfolded", spec := "topUnfolded", inPlace := ["math.Float64bits", "math.Float64frombits"], named := ["math/bits.divideError", "math/bits.overflowError"], apart := false }
def TopUnfoldedSaid : Prop := topUnfoldedRow.holds Try.pinned (OpenSpec.ofChange topUnfoldedSpec)

/-- ITS FALSE NEIGHBOUR: 'it returns false'. Refute it at one input. -/
def topUnfoldedWrong : ChangeSpec := { name := "topUnfolded", fn := fun _ => fun
  | [d1, d2, d3, d4, d5] => { results := [.lit (.bool false)], args := [d1, d2, d3, d4, d5] }
  | _ => none }
def TopUnfoldedWrongFalsely : Prop := topUnfoldedRow.holds Try.pinned (OpenSpec.ofChange topUnfoldedWrong)

/- THE SECOND FORM. 'bulk': how many values and letters a reading holds, each counted each time it is reached (what is shared counts as often as it is met; a slice's spare places count too). A statement '..UptoSaid' is the law's where the arguments, and the package variables that the reading takes, are together of bulk at most 1048576: NARROWER than '..Said'. Prove '..Said' where nothing that the law and all that it calls make is longer than what came in: it says more and counts as full. Else prove '..UptoSaid'. A law counts once. -/
mutual
def uptoBulk {H : Type} : DataW H → Nat
  | .lit (.string bytes) => bytes.length + 1
  | .lit _ => 1
  | .nil => 1
  | .ptr d => uptoBulk d + 1
  | .slice elems spare => uptoBulkAll elems + uptoBulkAll spare + 1
  | .agg parts => uptoBulkAll parts + 1
  | .iface _ d => uptoBulk d + 1
  | .map entries => uptoBulkEntries entries + 1
  | .held _ => 1
def uptoBulkAll {H : Type} : List (DataW H) → Nat
  | [] => 0
  | d :: r => uptoBulk d + uptoBulkAll r
def uptoBulkEntries {H : Type} : List (Lit × DataW H) → Nat
  | [] => 0
  | x :: r => uptoBulkEntry x + uptoBulkEntries r
def uptoBulkEntry {H : Type} : Lit × DataW H → Nat
  | (.string bytes, d) => bytes.length + uptoBulk d + 1
  | (_, d) => uptoBulk d + 1
 end
def uptoSmall : (H : Type) → List (DataW H) → Bool := fun _ ds => decide (uptoBulkAll ds ≤ 1048576)
def OpenSpec.upto (s : _root_.Go.ChangeSpec) : _root_.Go.OpenSpec := { _root_.Go.OpenSpec.ofChange s with cond := some uptoSmall }

/-- 'lookoutlaw16.PlotsApart', WHERE WHAT IT READS IS OF BULK AT MOST 1048576: true; the input reads as it did. -/
def plotsApartUptoRow : OpenClaim := { program := "ytijfmaepoamkgab", sum := "50a3594faac6328b7f79e42cd705bafdb1a3c3a05dffeab57f4917f8c26e3c58", func := "lookout/lookoutlaw16.PlotsApart", spec := "plotsApart", inPlace := ["math.Float64bits", "math.Float64frombits"], unfollowed := true, recurses := true, apart := false, narrowed := true }
def PlotsApartUptoSaid : Prop := plotsApartUptoRow.holds Try.pinned (OpenSpec.upto plotsApartSpec)

/-- 'lookouttop.TopUnfolded', WHERE WHAT IT READS IS OF BULK AT MOST 1048576: true; the input reads as it did. -/
def topUnfoldedUptoRow : OpenClaim := { program := "ytijfmaepoamkgab", sum := "50a3594faac6328b7f79e42cd705bafdb1a3c3a05dffeab57f4917f8c26e3c58", func := "lookout/lookouttop.TopUnfolded", spec := "topUnfolded", inPlace := ["math.Float64bits", "math.Float64frombits"], named := ["math/bits.divideError", "math/bits.overflowError"], apart := false, narrowed := true }
def TopUnfoldedUptoSaid : Prop := topUnfoldedUptoRow.holds Try.pinned (OpenSpec.upto topUnfoldedSpec)

end Rows
end Go.Proofs.Ytijfmaepoamkgab
