/-
  No cell of these rows narrows 'for every input' (looked for: loops, veiled, ifaces, maps, wideKeys, modest, calm, conditions, laid).
  DERIVED. THE GIVEN ROWS OF THIS SEAT. 6 by the template 'for every input the law returns true; each argument reads behind the call as it read before'; 0 by the template 'total and deterministic' (their statements: YtlgejebgkkmacaaTotals.lean).
  GIVEN WITH THE SEED: the statements are not yours to turn. If you find one false, say at which input.
  Laid BY PROGRAM, IN A SANDBOX (cutbox-rows.mjs): the forced cells as the released guide's own fill.sh prints them over the translation e3630e8fb5ac46d6… (all of the seat's roots in one cut). By AI agents, Wed Nov 11 2026. No macro, syntax, notation, axiom, sorry.
-/
import Derived.Test.YtlgejebgkkmacaaChecked
import GoSem.Claim
import GoSem.ClaimJoined
import GoSem.ClaimMapViews
import Derived.JoinedTies
import Derived.KernelRfl
namespace Go.Proofs.Ytlgejebgkkmacaa
/- THE CELL 'sum', in the pinned program and in every row, IS THE sha256 OF THE DUMP (.gsa) THAT YtlgejebgkkmacaaProg.lean LOADS. Nothing in Lean hashes anything: it is a label: what it is worth is what the hold of that sum in a sandbox is worth. -/
noncomputable def Try.pinned : Pinned := { name := "ytlgejebgkkmacaa", sum := "e3630e8fb5ac46d6ed332deb4495e7e7379e141e166e9b59d6bdc7c947b972c7", checked := Try.checked }
namespace Rows
def none {H : Type} : Left H := { results := [], args := [] }

/-- 'lookoutlaw23.PlaceTurns': WHATEVER THE INPUT: true; the input reads as it did. -/
def placeTurnsSpec : ChangeSpec := { name := "placeTurns", fn := fun _ => fun
  | [d1, d2, d3, d4, d5] => { results := [.lit (.bool true)], args := [d1, d2, d3, d4, d5] }
  | _ => none }
def placeTurnsRow : OpenClaim := { program := "ytlgejebgkkmacaa", sum := "e3630e8fb5ac46d6ed332deb4495e7e7379e141e166e9b59d6bdc7c947b972c7", func := "lookout/lookoutlaw23.PlaceTurns", spec := "placeTurns", inPlace := ["math.Float64bits", "math.Float64frombits", "math.sqrt", "math.archFloor", "math.archTrunc"], apart := false }
def PlaceTurnsSaid : Prop := placeTurnsRow.holds Try.pinned (OpenSpec.ofChange placeTurnsSpec)

/-- ITS FALSE NEIGHBOUR: 'it returns false'. Refute it at one input. -/
def placeTurnsWrong : ChangeSpec := { name := "placeTurns", fn := fun _ => fun
  | [d1, d2, d3, d4, d5] => { results := [.lit (.bool false)], args := [d1, d2, d3, d4, d5] }
  | _ => none }
def PlaceTurnsWrongFalsely : Prop := placeTurnsRow.holds Try.pinned (OpenSpec.ofChange placeTurnsWrong)

/-- 'lookoutlaw23.PlaceWithin': WHATEVER THE INPUT: true; the input reads as it did. -/
def placeWithinSpec : ChangeSpec := { name := "placeWithin", fn := fun _ => fun
  | [d1, d2] => { results := [.lit (.bool true)], args := [d1, d2] }
  | _ => none }
def placeWithinRow : OpenClaim := { program := "ytlgejebgkkmacaa", sum := "e3630e8fb5ac46d6ed332deb4495e7e7379e141e166e9b59d6bdc7c947b972c7", func := "lookout/lookoutlaw23.PlaceWithin", spec := "placeWithin", inPlace := ["math.Float64bits", "math.Float64frombits", "math.archFloor", "math.archTrunc", "math.sqrt"], apart := false }
def PlaceWithinSaid : Prop := placeWithinRow.holds Try.pinned (OpenSpec.ofChange placeWithinSpec)

/-- ITS FALSE NEIGHBOUR: 'it returns false'. Refute it at one input. -/
def placeWithinWrong : ChangeSpec := { name := "placeWithin", fn := fun _ => fun
  | [d1, d2] => { results := [.lit (.bool false)], args := [d1, d2] }
  | _ => none }
def PlaceWithinWrongFalsely : Prop := placeWithinRow.holds Try.pinned (OpenSpec.ofChange placeWithinWrong)

/-- 'lookoutlaw23.PlaceCorners': WHATEVER THE INPUT: true; the input reads as it did. -/
def placeCornersSpec : ChangeSpec := { name := "placeCorners", fn := fun _ => fun
  | [d1, d2, d3, d4, d5] => { results := [.lit (.bool true)], args := [d1, d2, d3, d4, d5] }
  | _ => none }
def placeCornersRow : OpenClaim := { program := "ytlgejebgkkmacaa", sum := "e3630e8fb5ac46d6ed332deb4495e7e7379e141e166e9b59d6bdc7c947b972c7", func := "lookout/lookoutlaw23.PlaceCorners", spec := "placeCorners", inPlace := ["math.Float64bits", "math.Float64frombits", "math.archFloor", "math.archTrunc", "math.sqrt"], apart := false }
def PlaceCornersSaid : Prop := placeCornersRow.holds Try.pinned (OpenSpec.ofChange placeCornersSpec)

/-- ITS FALSE NEIGHBOUR: 'it returns false'. Refute it at one input. -/
def placeCornersWrong : ChangeSpec := { name := "placeCorners", fn := fun _ => fun
  | [d1, d2, d3, d4, d5] => { results := [.lit (.bool false)], args := [d1, d2, d3, d4, d5] }
  | _ => none }
def PlaceCornersWrongFalsely : Prop := placeCornersRow.holds Try.pinned (OpenSpec.ofChange placeCornersWrong)

/-- 'lookoutlaw23.PlaceSquares': WHATEVER THE INPUT: true; the input reads as it did. -/
def placeSquaresSpec : ChangeSpec := { name := "placeSquares", fn := fun _ => fun
  | [d1, d2, d3, d4, d5, d6, d7, d8, d9] => { results := [.lit (.bool true)], args := [d1, d2, d3, d4, d5, d6, d7, d8, d9] }
  | _ => none }
def placeSquaresRow : OpenClaim := { program := "ytlgejebgkkmacaa", sum := "e3630e8fb5ac46d6ed332deb4495e7e7379e141e166e9b59d6bdc7c947b972c7", func := "lookout/lookoutlaw23.PlaceSquares", spec := "placeSquares", inPlace := ["math.Float64bits", "math.Float64frombits", "math.archFloor", "math.archTrunc", "math.sqrt"], apart := false }
def PlaceSquaresSaid : Prop := placeSquaresRow.holds Try.pinned (OpenSpec.ofChange placeSquaresSpec)

/-- ITS FALSE NEIGHBOUR: 'it returns false'. Refute it at one input. -/
def placeSquaresWrong : ChangeSpec := { name := "placeSquares", fn := fun _ => fun
  | [d1, d2, d3, d4, d5, d6, d7, d8, d9] => { results := [.lit (.bool false)], args := [d1, d2, d3, d4, d5, d6, d7, d8, d9] }
  | _ => none }
def PlaceSquaresWrongFalsely : Prop := placeSquaresRow.holds Try.pinned (OpenSpec.ofChange placeSquaresWrong)

/-- 'lookoutlaw23.PlaceBack': WHATEVER THE INPUT: true; the input reads as it did. -/
def placeBackSpec : ChangeSpec := { name := "placeBack", fn := fun _ => fun
  | [d1, d2, d3, d4, d5, d6, d7, d8, d9] => { results := [.lit (.bool true)], args := [d1, d2, d3, d4, d5, d6, d7, d8, d9] }
  | _ => none }
def placeBackRow : OpenClaim := { program := "ytlgejebgkkmacaa", sum := "e3630e8fb5ac46d6ed332deb4495e7e7379e141e166e9b59d6bdc7c947b972c7", func := "lookout/lookoutlaw23.PlaceBack", spec := "placeBack", inPlace := ["math.Float64bits", "math.Float64frombits", "math.archFloor", "math.archTrunc", "math.sqrt"], apart := false }
def PlaceBackSaid : Prop := placeBackRow.holds Try.pinned (OpenSpec.ofChange placeBackSpec)

/-- ITS FALSE NEIGHBOUR: 'it returns false'. Refute it at one input. -/
def placeBackWrong : ChangeSpec := { name := "placeBack", fn := fun _ => fun
  | [d1, d2, d3, d4, d5, d6, d7, d8, d9] => { results := [.lit (.bool false)], args := [d1, d2, d3, d4, d5, d6, d7, d8, d9] }
  | _ => none }
def PlaceBackWrongFalsely : Prop := placeBackRow.holds Try.pinned (OpenSpec.ofChange placeBackWrong)

/-- 'lookoutlaw23.PlaceKnown': WHATEVER THE INPUT: true; the input reads as it did. -/
def placeKnownSpec : ChangeSpec := { name := "placeKnown", fn := fun _ => fun
  | [] => { results := [.lit (.bool true)], args := [] }
  | _ => none }
def placeKnownRow : OpenClaim := { program := "ytlgejebgkkmacaa", sum := "e3630e8fb5ac46d6ed332deb4495e7e7379e141e166e9b59d6bdc7c947b972c7", func := "lookout/lookoutlaw23.PlaceKnown", spec := "placeKnown", inPlace := ["math.Float64bits", "math.Float64frombits", "math.sqrt", "math.archFloor", "math.archTrunc"], apart := false }
def PlaceKnownSaid : Prop := placeKnownRow.holds Try.pinned (OpenSpec.ofChange placeKnownSpec)

/-- ITS FALSE NEIGHBOUR: 'it returns false'. Refute it at one input. -/
def placeKnownWrong : ChangeSpec := { name := "placeKnown", fn := fun _ => fun
  | [] => { results := [.lit (.bool false)], args := [] }
  | _ => none }
def PlaceKnownWrongFalsely : Prop := placeKnownRow.holds Try.pinned (OpenSpec.ofChange placeKnownWrong)

/- THE SECOND FORM. 'bulk': how many values and letters a reading holds, each counted each time it is reached (what is shared counts as often as it is met; a slice's spare places count too). A statement '..UptoSaid' is the law's where the arguments, and the package variables that the reading takes, are together of bulk at most 1048576: NARROWER than '..Said'. Prove '..Said' where nothing that the law and all that it calls make is longer than what came in: it says more and counts as full. Else prove '..UptoSaid'. A law counts once. -/
mutual
def uptoBulk {H : Type} : DataW H → Nat
  | .lit (.string bytes) => bytes.length + 1
  | .lit _ => 1
  | .nil => 1
  | .ptr d => uptoBulk d + 1
  | .slice elems spare => uptoBulkAll elems + uptoBulkAll spare + 1
  | .agg parts => uptoBulkAll parts + 1
  | .iface _ d => uptoBulk d + 1
  | .map entries => uptoBulkEntries entries + 1
  | .held _ => 1
def uptoBulkAll {H : Type} : List (DataW H) → Nat
  | [] => 0
  | d :: r => uptoBulk d + uptoBulkAll r
def uptoBulkEntries {H : Type} : List (Lit × DataW H) → Nat
  | [] => 0
  | x :: r => uptoBulkEntry x + uptoBulkEntries r
def uptoBulkEntry {H : Type} : Lit × DataW H → Nat
  | (.string bytes, d) => bytes.length + uptoBulk d + 1
  | (_, d) => uptoBulk d + 1
 end
def uptoSmall : (H : Type) → List (DataW H) → Bool := fun _ ds => decide (uptoBulkAll ds ≤ 1048576)
def OpenSpec.upto (s : _root_.Go.ChangeSpec) : _root_.Go.OpenSpec := { _root_.Go.OpenSpec.ofChange s with cond := some uptoSmall }

/-- 'lookoutlaw23.PlaceTurns', WHERE WHAT IT READS IS OF BULK AT MOST 1048576: true; the input reads as it did. -/
def placeTurnsUptoRow : OpenClaim := { program := "ytlgejebgkkmacaa", sum := "e3630e8fb5ac46d6ed332deb4495e7e7379e141e166e9b59d6bdc7c947b972c7", func := "lookout/lookoutlaw23.PlaceTurns", spec := "placeTurns", inPlace := ["math.Float64bits", "math.Float64frombits", "math.sqrt", "math.archFloor", "math.archTrunc"], apart := false, narrowed := true }
def PlaceTurnsUptoSaid : Prop := placeTurnsUptoRow.holds Try.pinned (OpenSpec.upto placeTurnsSpec)

/-- 'lookoutlaw23.PlaceWithin', WHERE WHAT IT READS IS OF BULK AT MOST 1048576: true; the input reads as it did. -/
def placeWithinUptoRow : OpenClaim := { program := "ytlgejebgkkmacaa", sum := "e3630e8fb5ac46d6ed332deb4495e7e7379e141e166e9b59d6bdc7c947b972c7", func := "lookout/lookoutlaw23.PlaceWithin", spec := "placeWithin", inPlace := ["math.Float64bits", "math.Float64frombits", "math.archFloor", "math.archTrunc", "math.sqrt"], apart := false, narrowed := true }
def PlaceWithinUptoSaid : Prop := placeWithinUptoRow.holds Try.pinned (OpenSpec.upto placeWithinSpec)

/-- 'lookoutlaw23.PlaceCorners', WHERE WHAT IT READS IS OF BULK AT MOST 1048576: true; the input reads as it did. -/
def placeCornersUptoRow : OpenClaim := { program := "ytlgejebgkkmacaa", sum := "e3630e8fb5ac46d6ed332deb4495e7e7379e141e166e9b59d6bdc7c947b972c7", func := "lookout/lookoutlaw23.PlaceCorners", spec := "placeCorners", inPlace := ["math.Float64bits", "math.Float64frombits", "math.archFloor", "math.archTrunc", "math.sqrt"], apart := false, narrowed := true }
def PlaceCornersUptoSaid : Prop := placeCornersUptoRow.holds Try.pinned (OpenSpec.upto placeCornersSpec)

/-- 'lookoutlaw23.PlaceSquares', WHERE WHAT IT READS IS OF BULK AT MOST 1048576: true; the input reads as it did. -/
def placeSquaresUptoRow : OpenClaim := { program := "ytlgejebgkkmacaa", sum := "e3630e8fb5ac46d6ed332deb4495e7e7379e141e166e9b59d6bdc7c947b972c7", func := "lookout/lookoutlaw23.PlaceSquares", spec := "placeSquares", inPlace := ["math.Float64bits", "math.Float64frombits", "math.archFloor", "math.archTrunc", "math.sqrt"], apart := false, narrowed := true }
def PlaceSquaresUptoSaid : Prop := placeSquaresUptoRow.holds Try.pinned (OpenSpec.upto placeSquaresSpec)

/-- 'lookoutlaw23.PlaceBack', WHERE WHAT IT READS IS OF BULK AT MOST 1048576: true; the input reads as it did. -/
def placeBackUptoRow : OpenClaim := { program := "ytlgejebgkkmacaa", sum := "e3630e8fb5ac46d6ed332deb4495e7e7379e141e166e9b59d6bdc7c947b972c7", func := "lookout/lookoutlaw23.PlaceBack", spec := "placeBack", inPlace := ["math.Float64bits", "math.Float64frombits", "math.archFloor", "math.archTrunc", "math.sqrt"], apart := false, narrowed := true }
def PlaceBackUptoSaid : Prop := placeBackUptoRow.holds Try.pinned (OpenSpec.upto placeBackSpec)

/-- 'lookoutlaw23.PlaceKnown', WHERE WHAT IT READS IS OF BULK AT MOST 1048576: true; the input reads as it did. -/
def placeKnownUptoRow : OpenClaim := { program := "ytlgejebgkkmacaa", sum := "e3630e8fb5ac46d6ed332deb4495e7e7379e141e166e9b59d6bdc7c947b972c7", func := "lookout/lookoutlaw23.PlaceKnown", spec := "placeKnown", inPlace := ["math.Float64bits", "math.Float64frombits", "math.sqrt", "math.archFloor", "math.archTrunc"], apart := false, narrowed := true }
def PlaceKnownUptoSaid : Prop := placeKnownUptoRow.holds Try.pinned (OpenSpec.upto placeKnownSpec)

end Rows
end Go.Proofs.Ytlgejebgkkmacaa
