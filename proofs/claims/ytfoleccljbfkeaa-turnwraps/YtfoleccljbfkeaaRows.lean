/-
  No cell of these rows narrows 'for every input' (looked for: loops, veiled, ifaces, maps, wideKeys, modest, calm, conditions, laid).
  DERIVED. THE GIVEN ROWS OF THIS SEAT. 3 by the template 'for every input the law returns true; each argument reads behind the call as it read before'; 0 by the template 'total and deterministic' (their statements: YtfoleccljbfkeaaTotals.lean).
  GIVEN WITH THE SEED: the statements are not yours to turn. If you find one false, say at which input.
  Laid BY PROGRAM, IN A SANDBOX (cutbox-rows.mjs): the forced cells as the released guide's own fill.sh prints them over the translation 373fb44755a4bf26… (all of the seat's roots in one cut). By AI agents, Wed Nov 11 2026. No macro, syntax, notation, axiom, sorry.
-/
import Derived.Test.YtfoleccljbfkeaaChecked
import GoSem.Claim
import GoSem.ClaimJoined
import GoSem.ClaimMapViews
import Derived.JoinedTies
import Derived.KernelRfl
namespace Go.Proofs.Ytfoleccljbfkeaa
/- THE CELL 'sum', in the pinned program and in every row, IS THE sha256 OF THE DUMP (.gsa) THAT YtfoleccljbfkeaaProg.lean LOADS. Nothing in Lean hashes anything: it is a label: what it is worth is what the hold of that sum in a sandbox is worth. -/
noncomputable def Try.pinned : Pinned := { name := "ytfoleccljbfkeaa", sum := "373fb44755a4bf2690290e9c13d363ba59d92e111083a68fca6711098391cb15", checked := Try.checked }
namespace Rows
def none {H : Type} : Left H := { results := [], args := [] }

/-- 'lookoutlaw02.TurnWraps': WHATEVER THE INPUT: true; the input reads as it did. -/
def turnWrapsSpec : ChangeSpec := { name := "turnWraps", fn := fun _ => fun
  | [d] => { results := [.lit (.bool true)], args := [d] }
  | _ => none }
def turnWrapsRow : OpenClaim := { program := "ytfoleccljbfkeaa", sum := "373fb44755a4bf2690290e9c13d363ba59d92e111083a68fca6711098391cb15", func := "lookout/lookoutlaw02.TurnWraps", spec := "turnWraps", inPlace := ["math.Float64bits", "math.Float64frombits", "math.archFloor", "math.archTrunc"], apart := false }
def TurnWrapsSaid : Prop := turnWrapsRow.holds Try.pinned (OpenSpec.ofChange turnWrapsSpec)

/-- ITS FALSE NEIGHBOUR: 'it returns false'. Refute it at one input. -/
def turnWrapsWrong : ChangeSpec := { name := "turnWraps", fn := fun _ => fun
  | [d] => { results := [.lit (.bool false)], args := [d] }
  | _ => none }
def TurnWrapsWrongFalsely : Prop := turnWrapsRow.holds Try.pinned (OpenSpec.ofChange turnWrapsWrong)

/-- 'lookoutlaw02.TurnUnits': WHATEVER THE INPUT: true; the input reads as it did. -/
def turnUnitsSpec : ChangeSpec := { name := "turnUnits", fn := fun _ => fun
  | [d1, d2] => { results := [.lit (.bool true)], args := [d1, d2] }
  | _ => none }
def turnUnitsRow : OpenClaim := { program := "ytfoleccljbfkeaa", sum := "373fb44755a4bf2690290e9c13d363ba59d92e111083a68fca6711098391cb15", func := "lookout/lookoutlaw02.TurnUnits", spec := "turnUnits", inPlace := ["math.Float64bits", "math.Float64frombits", "math.archFloor", "math.archTrunc"], apart := false }
def TurnUnitsSaid : Prop := turnUnitsRow.holds Try.pinned (OpenSpec.ofChange turnUnitsSpec)

/-- ITS FALSE NEIGHBOUR: 'it returns false'. Refute it at one input. -/
def turnUnitsWrong : ChangeSpec := { name := "turnUnits", fn := fun _ => fun
  | [d1, d2] => { results := [.lit (.bool false)], args := [d1, d2] }
  | _ => none }
def TurnUnitsWrongFalsely : Prop := turnUnitsRow.holds Try.pinned (OpenSpec.ofChange turnUnitsWrong)

/-- 'lookoutlaw02.TurnKnown': WHATEVER THE INPUT: true; the input reads as it did. -/
def turnKnownSpec : ChangeSpec := { name := "turnKnown", fn := fun _ => fun
  | [] => { results := [.lit (.bool true)], args := [] }
  | _ => none }
def turnKnownRow : OpenClaim := { program := "ytfoleccljbfkeaa", sum := "373fb44755a4bf2690290e9c13d363ba59d92e111083a68fca6711098391cb15", func := "lookout/lookoutlaw02.TurnKnown", spec := "turnKnown", inPlace := ["math.Float64bits", "math.Float64frombits", "math.archFloor", "math.archTrunc"], apart := false }
def TurnKnownSaid : Prop := turnKnownRow.holds Try.pinned (OpenSpec.ofChange turnKnownSpec)

/-- ITS FALSE NEIGHBOUR: 'it returns false'. Refute it at one input. -/
def turnKnownWrong : ChangeSpec := { name := "turnKnown", fn := fun _ => fun
  | [] => { results := [.lit (.bool false)], args := [] }
  | _ => none }
def TurnKnownWrongFalsely : Prop := turnKnownRow.holds Try.pinned (OpenSpec.ofChange turnKnownWrong)

/- THE SECOND FORM. 'bulk': how many values and letters a reading holds, each counted each time it is reached (what is shared counts as often as it is met; a slice's spare places count too). A statement '..UptoSaid' is the law's where the arguments, and the package variables that the reading takes, are together of bulk at most 1048576: NARROWER than '..Said'. Prove '..Said' where nothing that the law and all that it calls make is longer than what came in: it says more and counts as full. Else prove '..UptoSaid'. A law counts once. -/
mutual
def uptoBulk {H : Type} : DataW H → Nat
  | .lit (.string bytes) => bytes.length + 1
  | .lit _ => 1
  | .nil => 1
  | .ptr d => uptoBulk d + 1
  | .slice elems spare => uptoBulkAll elems + uptoBulkAll spare + 1
  | .agg parts => uptoBulkAll parts + 1
  | .iface _ d => uptoBulk d + 1
  | .map entries => uptoBulkEntries entries + 1
  | .held _ => 1
def uptoBulkAll {H : Type} : List (DataW H) → Nat
  | [] => 0
  | d :: r => uptoBulk d + uptoBulkAll r
def uptoBulkEntries {H : Type} : List (Lit × DataW H) → Nat
  | [] => 0
  | x :: r => uptoBulkEntry x + uptoBulkEntries r
def uptoBulkEntry {H : Type} : Lit × DataW H → Nat
  | (.string bytes, d) => bytes.length + uptoBulk d + 1
  | (_, d) => uptoBulk d + 1
 end
def uptoSmall : (H : Type) → List (DataW H) → Bool := fun _ ds => decide (uptoBulkAll ds ≤ 1048576)
def OpenSpec.upto (s : _root_.Go.ChangeSpec) : _root_.Go.OpenSpec := { _root_.Go.OpenSpec.ofChange s with cond := some uptoSmall }

/-- 'lookoutlaw02.TurnWraps', WHERE WHAT IT READS IS OF BULK AT MOST 1048576: true; the input reads as it did. -/
def turnWrapsUptoRow : OpenClaim := { program := "ytfoleccljbfkeaa", sum := "373fb44755a4bf2690290e9c13d363ba59d92e111083a68fca6711098391cb15", func := "lookout/lookoutlaw02.TurnWraps", spec := "turnWraps", inPlace := ["math.Float64bits", "math.Float64frombits", "math.archFloor", "math.archTrunc"], apart := false, narrowed := true }
def TurnWrapsUptoSaid : Prop := turnWrapsUptoRow.holds Try.pinned (OpenSpec.upto turnWrapsSpec)

/-- 'lookoutlaw02.TurnUnits', WHERE WHAT IT READS IS OF BULK AT MOST 1048576: true; the input reads as it did. -/
def turnUnitsUptoRow : OpenClaim := { program := "ytfoleccljbfkeaa", sum := "373fb44755a4bf2690290e9c13d363ba59d92e111083a68fca6711098391cb15", func := "lookout/lookoutlaw02.TurnUnits", spec := "turnUnits", inPlace := ["math.Float64bits", "math.Float64frombits", "math.archFloor", "math.archTrunc"], apart := false, narrowed := true }
def TurnUnitsUptoSaid : Prop := turnUnitsUptoRow.holds Try.pinned (OpenSpec.upto turnUnitsSpec)

/-- 'lookoutlaw02.TurnKnown', WHERE WHAT IT READS IS OF BULK AT MOST 1048576: true; the input reads as it did. -/
def turnKnownUptoRow : OpenClaim := { program := "ytfoleccljbfkeaa", sum := "373fb44755a4bf2690290e9c13d363ba59d92e111083a68fca6711098391cb15", func := "lookout/lookoutlaw02.TurnKnown", spec := "turnKnown", inPlace := ["math.Float64bits", "math.Float64frombits", "math.archFloor", "math.archTrunc"], apart := false, narrowed := true }
def TurnKnownUptoSaid : Prop := turnKnownUptoRow.holds Try.pinned (OpenSpec.upto turnKnownSpec)

end Rows
end Go.Proofs.Ytfoleccljbfkeaa
