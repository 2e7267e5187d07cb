/- How a unit is folded to an eighth of a turn: there. -/
import Derived.Test.YtfimolhndbfpgaaQh
namespace Go.Proofs.Ytfimolhndbfpgaa
open Go.Fl Ieee Go.RowKit
theorem okF_there : ∀ k : Nat, k < 512 → okF false k = true := by decide +kernel
end Go.Proofs.Ytfimolhndbfpgaa

/- How a unit is folded to an eighth of a turn: back. -/
namespace Go.Proofs.Ytfimolhndbfpgaa
open Go.Fl Ieee Go.RowKit
theorem okF_back : ∀ k : Nat, k < 512 → okF true k = true := by decide +kernel
end Go.Proofs.Ytfimolhndbfpgaa

/- The same point, as a part of fewer. -/
namespace Go.Proofs.Ytfimolhndbfpgaa
open Go.Fl Ieee Go.RowKit
def okX (M j : Nat) : Bool := (unitX (wayOf true * j) ((2 ^ M : Nat) : Int) == unitX (wayOf true * ((j * 2 ^ (10 - M) : Nat) : Int)) 1024) && (unitX (wayOf false * j) ((2 ^ M : Nat) : Int) == unitX (wayOf false * ((j * 2 ^ (10 - M) : Nat) : Int)) 1024)
theorem okX_all : ∀ M : Nat, M < 11 → ∀ j : Nat, j < 2 ^ M / 2 → okX M j = true := by decide +kernel
end Go.Proofs.Ytfimolhndbfpgaa
