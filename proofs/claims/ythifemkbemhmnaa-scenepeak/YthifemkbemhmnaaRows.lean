/-
  No cell of these rows narrows 'for every input' (looked for: loops, veiled, ifaces, maps, wideKeys, modest, calm, conditions, laid).
  DERIVED. THE GIVEN ROWS OF THIS SEAT. 3 by the template 'for every input the law returns true; each argument reads behind the call as it read before'; 0 by the template 'total and deterministic' (their statements: YthifemkbemhmnaaTotals.lean).
  GIVEN WITH THE SEED: the statements are not yours to turn. If you find one false, say at which input.
  Laid BY PROGRAM, IN A SANDBOX (cutbox-rows.mjs): the forced cells as the released guide's own fill.sh prints them over the translation c2746a7a9f2fa8cc… (all of the seat's roots in one cut). By AI agents, Wed Nov 11 2026. No macro, syntax, notation, axiom, sorry.
-/
import Derived.Test.YthifemkbemhmnaaChecked
import GoSem.Claim
import GoSem.ClaimJoined
import GoSem.ClaimMapViews
import Derived.JoinedTies
import Derived.KernelRfl
namespace Go.Proofs.Ythifemkbemhmnaa
/- THE CELL 'sum', in the pinned program and in every row, IS THE sha256 OF THE DUMP (.gsa) THAT YthifemkbemhmnaaProg.lean LOADS. Nothing in Lean hashes anything: it is a label: what it is worth is what the hold of that sum in a sandbox is worth. -/
noncomputable def Try.pinned : Pinned := { name := "ythifemkbemhmnaa", sum := "c2746a7a9f2fa8cc67d3150a3775898ae252fc16a6457ed0be1a19ebef617d85", checked := Try.checked }
namespace Rows
def none {H : Type} : Left H := { results := [], args := [] }

/-- 'lookoutlaw12.ScenePeak': WHATEVER THE INPUT: true; the input reads as it did. -/
def scenePeakSpec : ChangeSpec := { name := "scenePeak", fn := fun _ => fun
  | [d] => { results := [.lit (.bool true)], args := [d] }
  | _ => none }
def scenePeakRow : OpenClaim := { program := "ythifemkbemhmnaa", sum := "c2746a7a9f2fa8cc67d3150a3775898ae252fc16a6457ed0be1a19ebef617d85", func := "lookout/lookoutlaw12.ScenePeak", spec := "scenePeak", inPlace := ["math.Float64bits", "math.Float64frombits", "math.archFloor", "math.archTrunc"], unfollowed := true, recurses := true, apart := false }
def ScenePeakSaid : Prop := scenePeakRow.holds Try.pinned (OpenSpec.ofChange scenePeakSpec)

/-- ITS FALSE NEIGHBOUR: 'it returns false'. Refute it at one input. -/
def scenePeakWrong : ChangeSpec := { name := "scenePeak", fn := fun _ => fun
  | [d] => { results := [.lit (.bool false)], args := [d] }
  | _ => none }
def ScenePeakWrongFalsely : Prop := scenePeakRow.holds Try.pinned (OpenSpec.ofChange scenePeakWrong)

/-- 'lookoutlaw12.SceneKnown': WHATEVER THE INPUT: true; the input reads as it did. -/
def sceneKnownSpec : ChangeSpec := { name := "sceneKnown", fn := fun _ => fun
  | [] => { results := [.lit (.bool true)], args := [] }
  | _ => none }
def sceneKnownRow : OpenClaim := { program := "ythifemkbemhmnaa", sum := "c2746a7a9f2fa8cc67d3150a3775898ae252fc16a6457ed0be1a19ebef617d85", func := "lookout/lookoutlaw12.SceneKnown", spec := "sceneKnown", inPlace := ["math.Float64bits", "math.Float64frombits", "math.archFloor", "math.archTrunc"], unfollowed := true, recurses := true, apart := false }
def SceneKnownSaid : Prop := sceneKnownRow.holds Try.pinned (OpenSpec.ofChange sceneKnownSpec)

/-- ITS FALSE NEIGHBOUR: 'it returns false'. Refute it at one input. -/
def sceneKnownWrong : ChangeSpec := { name := "sceneKnown", fn := fun _ => fun
  | [] => { results := [.lit (.bool false)], args := [] }
  | _ => none }
def SceneKnownWrongFalsely : Prop := sceneKnownRow.holds Try.pinned (OpenSpec.ofChange sceneKnownWrong)

/-- 'lookouttop.TopMoved': WHATEVER THE INPUT: true; the input reads as it did. -/
def topMovedSpec : ChangeSpec := { name := "topMoved", fn := fun _ => fun
  | [d1, d2, d3, d4, d5, d6] => { results := [.lit (.bool true)], args := [d1, d2, d3, d4, d5, d6] }
  | _ => none }
def topMovedRow : OpenClaim := { program := "ythifemkbemhmnaa", sum := "c2746a7a9f2fa8cc67d3150a3775898ae252fc16a6457ed0be1a19ebef617d85", func := "lookout/lookouttop.TopMoved", spec := "topMoved", inPlace := ["math.Float64bits", "math.Float64frombits", "math.archFloor", "math.archTrunc"], unfollowed := true, recurses := true, apart := false }
def TopMovedSaid : Prop := topMovedRow.holds Try.pinned (OpenSpec.ofChange topMovedSpec)

/-- ITS FALSE NEIGHBOUR: 'it returns false'. Refute it at one input. -/
def topMovedWrong : ChangeSpec := { name := "topMoved", fn := fun _ => fun
  | [d1, d2, d3, d4, d5, d6] => { results := [.lit (.bool false)], args := [d1, d2, d3, d4, d5, d6] }
  | _ => none }
def TopMovedWrongFalsely : Prop := topMovedRow.holds Try.pinned (OpenSpec.ofChange topMovedWrong)

/- THE SECOND FORM. 'bulk': how many values and letters a reading holds, each counted each time it is reached (what is shared counts as often as it is met; a slice's spare places count too). A statement '..UptoSaid' is the law's where the arguments, and the package variables that the reading takes, are together of bulk at most 1048576: NARROWER than '..Said'. Prove '..Said' where nothing that the law and all that it calls make is longer than what came in: it says more and counts as full. Else prove '..UptoSaid'. A law counts once. -/
mutual
def uptoBulk {H : Type} : DataW H → Nat
  | .lit (.string bytes) => bytes.length + 1
  | .lit _ => 1
  | .nil => 1
  | .ptr d => uptoBulk d + 1
  | .slice elems spare => uptoBulkAll elems + uptoBulkAll spare + 1
  | .agg parts => uptoBulkAll parts + 1
  | .iface _ d => uptoBulk d + 1
  | .map entries => uptoBulkEntries entries + 1
  | .held _ => 1
def uptoBulkAll {H : Type} : List (DataW H) → Nat
  | [] => 0
  | d :: r => uptoBulk d + uptoBulkAll r
def uptoBulkEntries {H : Type} : List (Lit × DataW H) → Nat
  | [] => 0
  | x :: r => uptoBulkEntry x + uptoBulkEntries r
def uptoBulkEntry {H : Type} : Lit × DataW H → Nat
  | (.string bytes, d) => bytes.length + uptoBulk d + 1
  | (_, d) => uptoBulk d + 1
 end
def uptoSmall : (H : Type) → List (DataW H) → Bool := fun _ ds => decide (uptoBulkAll ds ≤ 1048576)
def OpenSpec.upto (s : _root_.Go.ChangeSpec) : _root_.Go.OpenSpec := { _root_.Go.OpenSpec.ofChange s with cond := some uptoSmall }

/-- 'lookoutlaw12.ScenePeak', WHERE WHAT IT READS IS OF BULK AT MOST 1048576: true; the input reads as it did. -/
def scenePeakUptoRow : OpenClaim := { program := "ythifemkbemhmnaa", sum := "c2746a7a9f2fa8cc67d3150a3775898ae252fc16a6457ed0be1a19ebef617d85", func := "lookout/lookoutlaw12.ScenePeak", spec := "scenePeak", inPlace := ["math.Float64bits", "math.Float64frombits", "math.archFloor", "math.archTrunc"], unfollowed := true, recurses := true, apart := false, narrowed := true }
def ScenePeakUptoSaid : Prop := scenePeakUptoRow.holds Try.pinned (OpenSpec.upto scenePeakSpec)

/-- 'lookoutlaw12.SceneKnown', WHERE WHAT IT READS IS OF BULK AT MOST 1048576: true; the input reads as it did. -/
def sceneKnownUptoRow : OpenClaim := { program := "ythifemkbemhmnaa", sum := "c2746a7a9f2fa8cc67d3150a3775898ae252fc16a6457ed0be1a19ebef617d85", func := "lookout/lookoutlaw12.SceneKnown", spec := "sceneKnown", inPlace := ["math.Float64bits", "math.Float64frombits", "math.archFloor", "math.archTrunc"], unfollowed := true, recurses := true, apart := false, narrowed := true }
def SceneKnownUptoSaid : Prop := sceneKnownUptoRow.holds Try.pinned (OpenSpec.upto sceneKnownSpec)

/-- 'lookouttop.TopMoved', WHERE WHAT IT READS IS OF BULK AT MOST 1048576: true; the input reads as it did. -/
def topMovedUptoRow : OpenClaim := { program := "ythifemkbemhmnaa", sum := "c2746a7a9f2fa8cc67d3150a3775898ae252fc16a6457ed0be1a19ebef617d85", func := "lookout/lookouttop.TopMoved", spec := "topMoved", inPlace := ["math.Float64bits", "math.Float64frombits", "math.archFloor", "math.archTrunc"], unfollowed := true, recurses := true, apart := false, narrowed := true }
def TopMovedUptoSaid : Prop := topMovedUptoRow.holds Try.pinned (OpenSpec.upto topMovedSpec)

end Rows
end Go.Proofs.Ythifemkbemhmnaa
