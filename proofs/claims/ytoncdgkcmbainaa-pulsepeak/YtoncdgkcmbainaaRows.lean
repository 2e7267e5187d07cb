/-
  No cell of these rows narrows 'for every input' (looked for: loops, veiled, ifaces, maps, wideKeys, modest, calm, conditions, laid).
  DERIVED. THE GIVEN ROWS OF THIS SEAT. 6 by the template 'for every input the law returns true; each argument reads behind the call as it read before'; 0 by the template 'total and deterministic' (their statements: YtoncdgkcmbainaaTotals.lean).
  GIVEN WITH THE SEED: the statements are not yours to turn. If you find one false, say at which input.
  Laid BY PROGRAM, IN A SANDBOX (cutbox-rows.mjs): the forced cells as the released guide's own fill.sh prints them over the translation a3ad286823c9eb42… (all of the seat's roots in one cut). By AI agents, Wed Nov 11 2026. No macro, syntax, notation, axiom, sorry.
-/
import Derived.Test.YtoncdgkcmbainaaChecked
import GoSem.Claim
import GoSem.ClaimJoined
import GoSem.ClaimMapViews
import Derived.JoinedTies
import Derived.KernelRfl
namespace Go.Proofs.Ytoncdgkcmbainaa
/- THE CELL 'sum', in the pinned program and in every row, IS THE sha256 OF THE DUMP (.gsa) THAT YtoncdgkcmbainaaProg.lean LOADS. Nothing in Lean hashes anything: it is a label: what it is worth is what the hold of that sum in a sandbox is worth. -/
noncomputable def Try.pinned : Pinned := { name := "ytoncdgkcmbainaa", sum := "a3ad286823c9eb42fe6ea42b627b18097c1ab74678638849c3369b487455d1b8", checked := Try.checked }
namespace Rows
def none {H : Type} : Left H := { results := [], args := [] }

/-- 'lookoutlaw04.PulseChirps': WHATEVER THE INPUT: true; the input reads as it did. -/
def pulseChirpsSpec : ChangeSpec := { name := "pulseChirps", fn := fun _ => fun
  | [d1, d2] => { results := [.lit (.bool true)], args := [d1, d2] }
  | _ => none }
def pulseChirpsRow : OpenClaim := { program := "ytoncdgkcmbainaa", sum := "a3ad286823c9eb42fe6ea42b627b18097c1ab74678638849c3369b487455d1b8", func := "lookout/lookoutlaw04.PulseChirps", spec := "pulseChirps", inPlace := ["math.Float64bits", "math.Float64frombits", "math.archFloor", "math.archTrunc"], unfollowed := true, recurses := true, apart := false }
def PulseChirpsSaid : Prop := pulseChirpsRow.holds Try.pinned (OpenSpec.ofChange pulseChirpsSpec)

/-- ITS FALSE NEIGHBOUR: 'it returns false'. Refute it at one input. -/
def pulseChirpsWrong : ChangeSpec := { name := "pulseChirps", fn := fun _ => fun
  | [d1, d2] => { results := [.lit (.bool false)], args := [d1, d2] }
  | _ => none }
def PulseChirpsWrongFalsely : Prop := pulseChirpsRow.holds Try.pinned (OpenSpec.ofChange pulseChirpsWrong)

/-- 'lookoutlaw04.PulseCodes': WHATEVER THE INPUT: true; the input reads as it did. -/
def pulseCodesSpec : ChangeSpec := { name := "pulseCodes", fn := fun _ => fun
  | [d] => { results := [.lit (.bool true)], args := [d] }
  | _ => none }
def pulseCodesRow : OpenClaim := { program := "ytoncdgkcmbainaa", sum := "a3ad286823c9eb42fe6ea42b627b18097c1ab74678638849c3369b487455d1b8", func := "lookout/lookoutlaw04.PulseCodes", spec := "pulseCodes", inPlace := ["math.Float64bits", "math.Float64frombits", "math.archFloor", "math.archTrunc"], unfollowed := true, recurses := true, apart := false }
def PulseCodesSaid : Prop := pulseCodesRow.holds Try.pinned (OpenSpec.ofChange pulseCodesSpec)

/-- ITS FALSE NEIGHBOUR: 'it returns false'. Refute it at one input. -/
def pulseCodesWrong : ChangeSpec := { name := "pulseCodes", fn := fun _ => fun
  | [d] => { results := [.lit (.bool false)], args := [d] }
  | _ => none }
def PulseCodesWrongFalsely : Prop := pulseCodesRow.holds Try.pinned (OpenSpec.ofChange pulseCodesWrong)

/-- 'lookoutlaw04.PulseSteps': WHATEVER THE INPUT: true; the input reads as it did. -/
def pulseStepsSpec : ChangeSpec := { name := "pulseSteps", fn := fun _ => fun
  | [d1, d2] => { results := [.lit (.bool true)], args := [d1, d2] }
  | _ => none }
def pulseStepsRow : OpenClaim := { program := "ytoncdgkcmbainaa", sum := "a3ad286823c9eb42fe6ea42b627b18097c1ab74678638849c3369b487455d1b8", func := "lookout/lookoutlaw04.PulseSteps", spec := "pulseSteps", inPlace := ["math.Float64bits", "math.Float64frombits", "math.archFloor", "math.archTrunc"], unfollowed := true, recurses := true, apart := false }
def PulseStepsSaid : Prop := pulseStepsRow.holds Try.pinned (OpenSpec.ofChange pulseStepsSpec)

/-- ITS FALSE NEIGHBOUR: 'it returns false'. Refute it at one input. -/
def pulseStepsWrong : ChangeSpec := { name := "pulseSteps", fn := fun _ => fun
  | [d1, d2] => { results := [.lit (.bool false)], args := [d1, d2] }
  | _ => none }
def PulseStepsWrongFalsely : Prop := pulseStepsRow.holds Try.pinned (OpenSpec.ofChange pulseStepsWrong)

/-- 'lookoutlaw04.PulseNames': WHATEVER THE INPUT: true; the input reads as it did. -/
def pulseNamesSpec : ChangeSpec := { name := "pulseNames", fn := fun _ => fun
  | [] => { results := [.lit (.bool true)], args := [] }
  | _ => none }
def pulseNamesRow : OpenClaim := { program := "ytoncdgkcmbainaa", sum := "a3ad286823c9eb42fe6ea42b627b18097c1ab74678638849c3369b487455d1b8", func := "lookout/lookoutlaw04.PulseNames", spec := "pulseNames", inPlace := ["math.Float64bits", "math.Float64frombits", "math.archFloor", "math.archTrunc"], unfollowed := true, recurses := true, apart := false }
def PulseNamesSaid : Prop := pulseNamesRow.holds Try.pinned (OpenSpec.ofChange pulseNamesSpec)

/-- ITS FALSE NEIGHBOUR: 'it returns false'. Refute it at one input. -/
def pulseNamesWrong : ChangeSpec := { name := "pulseNames", fn := fun _ => fun
  | [] => { results := [.lit (.bool false)], args := [] }
  | _ => none }
def PulseNamesWrongFalsely : Prop := pulseNamesRow.holds Try.pinned (OpenSpec.ofChange pulseNamesWrong)

/-- 'lookoutlaw04.PulsePeak': WHATEVER THE INPUT: true; the input reads as it did. -/
def pulsePeakSpec : ChangeSpec := { name := "pulsePeak", fn := fun _ => fun
  | [] => { results := [.lit (.bool true)], args := [] }
  | _ => none }
def pulsePeakRow : OpenClaim := { program := "ytoncdgkcmbainaa", sum := "a3ad286823c9eb42fe6ea42b627b18097c1ab74678638849c3369b487455d1b8", func := "lookout/lookoutlaw04.PulsePeak", spec := "pulsePeak", inPlace := ["math.archFloor", "math.Float64bits", "math.Float64frombits", "math.archTrunc"], unfollowed := true, recurses := true, apart := false }
def PulsePeakSaid : Prop := pulsePeakRow.holds Try.pinned (OpenSpec.ofChange pulsePeakSpec)

/-- ITS FALSE NEIGHBOUR: 'it returns false'. Refute it at one input. -/
def pulsePeakWrong : ChangeSpec := { name := "pulsePeak", fn := fun _ => fun
  | [] => { results := [.lit (.bool false)], args := [] }
  | _ => none }
def PulsePeakWrongFalsely : Prop := pulsePeakRow.holds Try.pinned (OpenSpec.ofChange pulsePeakWrong)

/-- 'lookoutlaw04.PulseSigns': WHATEVER THE INPUT: true; the input reads as it did. -/
def pulseSignsSpec : ChangeSpec := { name := "pulseSigns", fn := fun _ => fun
  | [d] => { results := [.lit (.bool true)], args := [d] }
  | _ => none }
def pulseSignsRow : OpenClaim := { program := "ytoncdgkcmbainaa", sum := "a3ad286823c9eb42fe6ea42b627b18097c1ab74678638849c3369b487455d1b8", func := "lookout/lookoutlaw04.PulseSigns", spec := "pulseSigns", inPlace := ["math.Float64bits", "math.Float64frombits", "math.archFloor", "math.archTrunc"], unfollowed := true, recurses := true, apart := false }
def PulseSignsSaid : Prop := pulseSignsRow.holds Try.pinned (OpenSpec.ofChange pulseSignsSpec)

/-- ITS FALSE NEIGHBOUR: 'it returns false'. Refute it at one input. -/
def pulseSignsWrong : ChangeSpec := { name := "pulseSigns", fn := fun _ => fun
  | [d] => { results := [.lit (.bool false)], args := [d] }
  | _ => none }
def PulseSignsWrongFalsely : Prop := pulseSignsRow.holds Try.pinned (OpenSpec.ofChange pulseSignsWrong)

/- THE SECOND FORM. 'bulk': how many values and letters a reading holds, each counted each time it is reached (what is shared counts as often as it is met; a slice's spare places count too). A statement '..UptoSaid' is the law's where the arguments, and the package variables that the reading takes, are together of bulk at most 1048576: NARROWER than '..Said'. Prove '..Said' where nothing that the law and all that it calls make is longer than what came in: it says more and counts as full. Else prove '..UptoSaid'. A law counts once. -/
mutual
def uptoBulk {H : Type} : DataW H → Nat
  | .lit (.string bytes) => bytes.length + 1
  | .lit _ => 1
  | .nil => 1
  | .ptr d => uptoBulk d + 1
  | .slice elems spare => uptoBulkAll elems + uptoBulkAll spare + 1
  | .agg parts => uptoBulkAll parts + 1
  | .iface _ d => uptoBulk d + 1
  | .map entries => uptoBulkEntries entries + 1
  | .held _ => 1
def uptoBulkAll {H : Type} : List (DataW H) → Nat
  | [] => 0
  | d :: r => uptoBulk d + uptoBulkAll r
def uptoBulkEntries {H : Type} : List (Lit × DataW H) → Nat
  | [] => 0
  | x :: r => uptoBulkEntry x + uptoBulkEntries r
def uptoBulkEntry {H : Type} : Lit × DataW H → Nat
  | (.string bytes, d) => bytes.length + uptoBulk d + 1
  | (_, d) => uptoBulk d + 1
 end
def uptoSmall : (H : Type) → List (DataW H) → Bool := fun _ ds => decide (uptoBulkAll ds ≤ 1048576)
def OpenSpec.upto (s : _root_.Go.ChangeSpec) : _root_.Go.OpenSpec := { _root_.Go.OpenSpec.ofChange s with cond := some uptoSmall }

/-- 'lookoutlaw04.PulseChirps', WHERE WHAT IT READS IS OF BULK AT MOST 1048576: true; the input reads as it did. -/
def pulseChirpsUptoRow : OpenClaim := { program := "ytoncdgkcmbainaa", sum := "a3ad286823c9eb42fe6ea42b627b18097c1ab74678638849c3369b487455d1b8", func := "lookout/lookoutlaw04.PulseChirps", spec := "pulseChirps", inPlace := ["math.Float64bits", "math.Float64frombits", "math.archFloor", "math.archTrunc"], unfollowed := true, recurses := true, apart := false, narrowed := true }
def PulseChirpsUptoSaid : Prop := pulseChirpsUptoRow.holds Try.pinned (OpenSpec.upto pulseChirpsSpec)

/-- 'lookoutlaw04.PulseCodes', WHERE WHAT IT READS IS OF BULK AT MOST 1048576: true; the input reads as it did. -/
def pulseCodesUptoRow : OpenClaim := { program := "ytoncdgkcmbainaa", sum := "a3ad286823c9eb42fe6ea42b627b18097c1ab74678638849c3369b487455d1b8", func := "lookout/lookoutlaw04.PulseCodes", spec := "pulseCodes", inPlace := ["math.Float64bits", "math.Float64frombits", "math.archFloor", "math.archTrunc"], unfollowed := true, recurses := true, apart := false, narrowed := true }
def PulseCodesUptoSaid : Prop := pulseCodesUptoRow.holds Try.pinned (OpenSpec.upto pulseCodesSpec)

/-- 'lookoutlaw04.PulseSteps', WHERE WHAT IT READS IS OF BULK AT MOST 1048576: true; the input reads as it did. -/
def pulseStepsUptoRow : OpenClaim := { program := "ytoncdgkcmbainaa", sum := "a3ad286823c9eb42fe6ea42b627b18097c1ab74678638849c3369b487455d1b8", func := "lookout/lookoutlaw04.PulseSteps", spec := "pulseSteps", inPlace := ["math.Float64bits", "math.Float64frombits", "math.archFloor", "math.archTrunc"], unfollowed := true, recurses := true, apart := false, narrowed := true }
def PulseStepsUptoSaid : Prop := pulseStepsUptoRow.holds Try.pinned (OpenSpec.upto pulseStepsSpec)

/-- 'lookoutlaw04.PulseNames', WHERE WHAT IT READS IS OF BULK AT MOST 1048576: true; the input reads as it did. -/
def pulseNamesUptoRow : OpenClaim := { program := "ytoncdgkcmbainaa", sum := "a3ad286823c9eb42fe6ea42b627b18097c1ab74678638849c3369b487455d1b8", func := "lookout/lookoutlaw04.PulseNames", spec := "pulseNames", inPlace := ["math.Float64bits", "math.Float64frombits", "math.archFloor", "math.archTrunc"], unfollowed := true, recurses := true, apart := false, narrowed := true }
def PulseNamesUptoSaid : Prop := pulseNamesUptoRow.holds Try.pinned (OpenSpec.upto pulseNamesSpec)

/-- 'lookoutlaw04.PulsePeak', WHERE WHAT IT READS IS OF BULK AT MOST 1048576: true; the input reads as it did. -/
def pulsePeakUptoRow : OpenClaim := { program := "ytoncdgkcmbainaa", sum := "a3ad286823c9eb42fe6ea42b627b18097c1ab74678638849c3369b487455d1b8", func := "lookout/lookoutlaw04.PulsePeak", spec := "pulsePeak", inPlace := ["math.archFloor", "math.Float64bits", "math.Float64frombits", "math.archTrunc"], unfollowed := true, recurses := true, apart := false, narrowed := true }
def PulsePeakUptoSaid : Prop := pulsePeakUptoRow.holds Try.pinned (OpenSpec.upto pulsePeakSpec)

/-- 'lookoutlaw04.PulseSigns', WHERE WHAT IT READS IS OF BULK AT MOST 1048576: true; the input reads as it did. -/
def pulseSignsUptoRow : OpenClaim := { program := "ytoncdgkcmbainaa", sum := "a3ad286823c9eb42fe6ea42b627b18097c1ab74678638849c3369b487455d1b8", func := "lookout/lookoutlaw04.PulseSigns", spec := "pulseSigns", inPlace := ["math.Float64bits", "math.Float64frombits", "math.archFloor", "math.archTrunc"], unfollowed := true, recurses := true, apart := false, narrowed := true }
def PulseSignsUptoSaid : Prop := pulseSignsUptoRow.holds Try.pinned (OpenSpec.upto pulseSignsSpec)

end Rows
end Go.Proofs.Ytoncdgkcmbainaa
