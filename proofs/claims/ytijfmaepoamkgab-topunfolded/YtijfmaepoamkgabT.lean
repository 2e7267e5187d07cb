/- Rows of floats. -/
import Derived.Test.YtijfmaepoamkgabA
import Derived.Sort.Row
import Derived.Sort.LotA
import Derived.Deep.LoopGhost
import Derived.Deep.QuietTactic
import Derived.BigQuiet
import Derived.BigRegion
import Derived.WalkKit
namespace Go.Proofs.Ytijfmaepoamkgab
open Go.ChangeShapes Go.WideShapes Go.ChangeAt Go.RowKit Go.Fl Go.Sort
attribute [local go_sem] run_store_float call18 run_neg fold_eq fold_ne fold_lt fold_gt abs_eq

abbrev fe : Nat → Value := Value.float .f64
/-- Every float of the row is one of 64 bits. -/
def Fit (d : Array Nat) : Prop := ∀ i, i < d.size → d[i]! < 2 ^ 64
theorem swoK : SWO ltK where
  irrefl x := by simp [ltK]
  trans x y z h1 h2 := by simp only [ltK, decide_eq_true_eq] at *; omega
  ntrans x y z h1 h2 := by simp only [ltK, decide_eq_false_iff_not] at *; omega
theorem cmpK_neg (x y : Nat) : cmpK x y < 0 ↔ ltK x y = true := by
  unfold cmpK ltK
  split
  · simp; omega
  · split <;> simp <;> omega
theorem Fit.perm {d d' : Array Nat} (h : Fit d) {a b : Nat} (hb : b ≤ d.size) (hp : PermIn a b d d') : Fit d' := by
  intro i hi
  rw [hp.1] at hi
  by_cases hin : a ≤ i ∧ i < b
  · exact permIn_all d d' a b (fun x => x < 2 ^ 64) hb hp (fun j hj1 hj2 => h j (by omega)) i hin.1 hin.2
  · rw [hp.2.1 i (by omega)]; exact h i hi
theorem fit_at {d d0 : Array Nat} (h : Fit d) (hs : d.size = d0.size) {i x : Nat} (hi : i < d0.size) (hx : d[i]! = x) : x < 2 ^ 64 := by
  rw [← hx]; exact h i (by omega)
theorem fam {w W : World} {blk off n : Nat} {d0 d : Array Nat} (hw : W = (putRow fe w blk off d).drewN n) (hH : Holds fe w blk off d0) (hs : d.size = d0.size) {i x : Nat} (hi : i < d0.size) (hx : d[i]! = x) :
    W.cell? ⟨blk, off + i, none⟩ = some (.float .f64 x) ∧ W.frozen? ⟨blk, off + i, none⟩ = false := by
  rw [hw, ← hx]
  exact holds_putRow fe w blk off d0 d hH hs i (by omega)

end Go.Proofs.Ytijfmaepoamkgab
