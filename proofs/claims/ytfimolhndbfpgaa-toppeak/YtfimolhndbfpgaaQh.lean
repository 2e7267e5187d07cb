/- The units that the program reckons are near the points. -/
import Derived.Test.YtfimolhndbfpgaaRa
namespace Go.Proofs.Ytfimolhndbfpgaa
open Go.Fl Ieee Go.RowKit

def vz (x : Nat) : Int := sgn (x / 2 ^ 63 % 2 == 1) (mag (x % 2 ^ 63))
def pI (n : Nat) : Int := ((2 ^ n : Nat) : Int)
def nearV (o : Option Nat) (e : Int) : Bool := match o with
  | some x => decide (x % 2 ^ 63 < 0x7ff0000000000000) && nearZ (vz x * pI 110) (e * pI 1074) (pI 1133)
  | none => false
def okE (j : Nat) : Bool := nearV (eastC (unitX j 1024)) (EZ j).1 && nearV (eastS (unitX j 1024)) (EZ j).2
theorem okE_all : ∀ j : Nat, j < 129 → okE j = true := by decide +kernel
def okF (back : Bool) (k : Nat) : Bool :=
  let x := unitX (wayOf back * k) 1024
  let w := wrapF x
  fin x && (flipped w == flipK k) && (swapped w == swapK k) && (twice w == unitX (twiceK k) 1024) && (ltF w (ab 0) == (!back && decide (0 < k)))
end Go.Proofs.Ytfimolhndbfpgaa
