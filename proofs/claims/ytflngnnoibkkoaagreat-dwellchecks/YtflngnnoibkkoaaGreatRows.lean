/-
  No cell of these rows narrows 'for every input' (looked for: loops, veiled, ifaces, maps, wideKeys, modest, calm, conditions, laid).
  DERIVED. THE GIVEN ROWS OF THIS SEAT. 3 by the template 'for every input the law returns true; each argument reads behind the call as it read before'; 0 by the template 'total and deterministic' (their statements: YtflngnnoibkkoaaGreatTotals.lean).
  GIVEN WITH THE SEED: the statements are not yours to turn. If you find one false, say at which input.
  Laid BY PROGRAM, IN A SANDBOX (cutbox-rows.mjs): the forced cells as the released guide's own fill.sh prints them over the translation 0a891986c4bf5e5d… (all of the seat's roots in one cut). By AI agents, Wed Nov 11 2026. No macro, syntax, notation, axiom, sorry.
-/
import Derived.Test.YtflngnnoibkkoaaGreatChecked
import GoSem.Claim
import GoSem.ClaimJoined
import GoSem.ClaimMapViews
import Derived.JoinedTies
import Derived.KernelRfl
namespace Go.Proofs.YtflngnnoibkkoaaGreat
/- THE CELL 'sum', in the pinned program and in every row, IS THE sha256 OF THE DUMP (.gsa) THAT YtflngnnoibkkoaaGreatProg.lean LOADS. Nothing in Lean hashes anything: it is a label: what it is worth is what the hold of that sum in a sandbox is worth. -/
noncomputable def Tryz.pinned : Pinned := { name := "ytflngnnoibkkoaagreat", sum := "0a891986c4bf5e5d3df81fdb02444822d503d98824b7aab826e315ee35d6a6e2", checked := Tryz.checked }
namespace Rows
def none {H : Type} : Left H := { results := [], args := [] }

/-- 'lookoutlaw25.DwellChecks': WHATEVER THE INPUT: true; the input reads as it did. -/
def dwellChecksSpec : ChangeSpec := { name := "dwellChecks", fn := fun _ => fun
  | [d] => { results := [.lit (.bool true)], args := [d] }
  | _ => none }
def dwellChecksRow : OpenClaim := { program := "ytflngnnoibkkoaagreat", sum := "0a891986c4bf5e5d3df81fdb02444822d503d98824b7aab826e315ee35d6a6e2", func := "lookout/lookoutlaw25.DwellChecks", spec := "dwellChecks", inPlace := ["math.Float64bits", "math.Float64frombits", "math.archFloor", "math.archTrunc"], unfollowed := true, recurses := true, plainKeys := false, apart := false }
def DwellChecksSaid : Prop := dwellChecksRow.holds Tryz.pinned (OpenSpec.ofChange dwellChecksSpec)

/-- ITS FALSE NEIGHBOUR: 'it returns false'. Refute it at one input. -/
def dwellChecksWrong : ChangeSpec := { name := "dwellChecks", fn := fun _ => fun
  | [d] => { results := [.lit (.bool false)], args := [d] }
  | _ => none }
def DwellChecksWrongFalsely : Prop := dwellChecksRow.holds Tryz.pinned (OpenSpec.ofChange dwellChecksWrong)

/-- 'lookoutlaw25.DwellStands': WHATEVER THE INPUT: true; the input reads as it did. -/
def dwellStandsSpec : ChangeSpec := { name := "dwellStands", fn := fun _ => fun
  | [d1, d2, d3] => { results := [.lit (.bool true)], args := [d1, d2, d3] }
  | _ => none }
def dwellStandsRow : OpenClaim := { program := "ytflngnnoibkkoaagreat", sum := "0a891986c4bf5e5d3df81fdb02444822d503d98824b7aab826e315ee35d6a6e2", func := "lookout/lookoutlaw25.DwellStands", spec := "dwellStands", inPlace := ["math.Float64bits", "math.Float64frombits", "math.archFloor", "math.archTrunc", "math.sqrt"], unfollowed := true, recurses := true, plainKeys := false, apart := false }
def DwellStandsSaid : Prop := dwellStandsRow.holds Tryz.pinned (OpenSpec.ofChange dwellStandsSpec)

/-- ITS FALSE NEIGHBOUR: 'it returns false'. Refute it at one input. -/
def dwellStandsWrong : ChangeSpec := { name := "dwellStands", fn := fun _ => fun
  | [d1, d2, d3] => { results := [.lit (.bool false)], args := [d1, d2, d3] }
  | _ => none }
def DwellStandsWrongFalsely : Prop := dwellStandsRow.holds Tryz.pinned (OpenSpec.ofChange dwellStandsWrong)

/-- 'lookouttop.TopStands': WHATEVER THE INPUT: true; the input reads as it did. -/
def topStandsSpec : ChangeSpec := { name := "topStands", fn := fun _ => fun
  | [d1, d2, d3, d4] => { results := [.lit (.bool true)], args := [d1, d2, d3, d4] }
  | _ => none }
def topStandsRow : OpenClaim := { program := "ytflngnnoibkkoaagreat", sum := "0a891986c4bf5e5d3df81fdb02444822d503d98824b7aab826e315ee35d6a6e2", func := "lookout/lookouttop.TopStands", spec := "topStands", inPlace := ["math.Float64bits", "math.Float64frombits", "math.archFloor", "math.archTrunc"], unfollowed := true, recurses := true, plainKeys := false, apart := false }
def TopStandsSaid : Prop := topStandsRow.holds Tryz.pinned (OpenSpec.ofChange topStandsSpec)

/-- ITS FALSE NEIGHBOUR: 'it returns false'. Refute it at one input. -/
def topStandsWrong : ChangeSpec := { name := "topStands", fn := fun _ => fun
  | [d1, d2, d3, d4] => { results := [.lit (.bool false)], args := [d1, d2, d3, d4] }
  | _ => none }
def TopStandsWrongFalsely : Prop := topStandsRow.holds Tryz.pinned (OpenSpec.ofChange topStandsWrong)

/- THE SECOND FORM. 'bulk': how many values and letters a reading holds, each counted each time it is reached (what is shared counts as often as it is met; a slice's spare places count too). A statement '..UptoSaid' is the law's where the arguments, and the package variables that the reading takes, are together of bulk at most 1048576: NARROWER than '..Said'. Prove '..Said' where nothing that the law and all that it calls make is longer than what came in: it says more and counts as full. Else prove '..UptoSaid'. A law counts once. -/
mutual
def uptoBulk {H : Type} : DataW H → Nat
  | .lit (.string bytes) => bytes.length + 1
  | .lit _ => 1
  | .nil => 1
  | .ptr d => uptoBulk d + 1
  | .slice elems spare => uptoBulkAll elems + uptoBulkAll spare + 1
  | .agg parts => uptoBulkAll parts + 1
  | .iface _ d => uptoBulk d + 1
  | .map entries => uptoBulkEntries entries + 1
  | .held _ => 1
def uptoBulkAll {H : Type} : List (DataW H) → Nat
  | [] => 0
  | d :: r => uptoBulk d + uptoBulkAll r
def uptoBulkEntries {H : Type} : List (Lit × DataW H) → Nat
  | [] => 0
  | x :: r => uptoBulkEntry x + uptoBulkEntries r
def uptoBulkEntry {H : Type} : Lit × DataW H → Nat
  | (.string bytes, d) => bytes.length + uptoBulk d + 1
  | (_, d) => uptoBulk d + 1
 end
def uptoSmall : (H : Type) → List (DataW H) → Bool := fun _ ds => decide (uptoBulkAll ds ≤ 1048576)
def OpenSpec.upto (s : _root_.Go.ChangeSpec) : _root_.Go.OpenSpec := { _root_.Go.OpenSpec.ofChange s with cond := some uptoSmall }

/-- 'lookoutlaw25.DwellChecks', WHERE WHAT IT READS IS OF BULK AT MOST 1048576: true; the input reads as it did. -/
def dwellChecksUptoRow : OpenClaim := { program := "ytflngnnoibkkoaagreat", sum := "0a891986c4bf5e5d3df81fdb02444822d503d98824b7aab826e315ee35d6a6e2", func := "lookout/lookoutlaw25.DwellChecks", spec := "dwellChecks", inPlace := ["math.Float64bits", "math.Float64frombits", "math.archFloor", "math.archTrunc"], unfollowed := true, recurses := true, plainKeys := false, apart := false, narrowed := true }
def DwellChecksUptoSaid : Prop := dwellChecksUptoRow.holds Tryz.pinned (OpenSpec.upto dwellChecksSpec)

/-- 'lookoutlaw25.DwellStands', WHERE WHAT IT READS IS OF BULK AT MOST 1048576: true; the input reads as it did. -/
def dwellStandsUptoRow : OpenClaim := { program := "ytflngnnoibkkoaagreat", sum := "0a891986c4bf5e5d3df81fdb02444822d503d98824b7aab826e315ee35d6a6e2", func := "lookout/lookoutlaw25.DwellStands", spec := "dwellStands", inPlace := ["math.Float64bits", "math.Float64frombits", "math.archFloor", "math.archTrunc", "math.sqrt"], unfollowed := true, recurses := true, plainKeys := false, apart := false, narrowed := true }
def DwellStandsUptoSaid : Prop := dwellStandsUptoRow.holds Tryz.pinned (OpenSpec.upto dwellStandsSpec)

/-- 'lookouttop.TopStands', WHERE WHAT IT READS IS OF BULK AT MOST 1048576: true; the input reads as it did. -/
def topStandsUptoRow : OpenClaim := { program := "ytflngnnoibkkoaagreat", sum := "0a891986c4bf5e5d3df81fdb02444822d503d98824b7aab826e315ee35d6a6e2", func := "lookout/lookouttop.TopStands", spec := "topStands", inPlace := ["math.Float64bits", "math.Float64frombits", "math.archFloor", "math.archTrunc"], unfollowed := true, recurses := true, plainKeys := false, apart := false, narrowed := true }
def TopStandsUptoSaid : Prop := topStandsUptoRow.holds Tryz.pinned (OpenSpec.upto topStandsSpec)

end Rows
end Go.Proofs.YtflngnnoibkkoaaGreat
