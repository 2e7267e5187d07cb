/- wakes: what is known. -/
import Derived.Test.YtjklaemhfhakhabEd
namespace Go.Proofs.Ytjklaemhfhakhab
open Go.ChangeShapes Go.WideShapes Go.ChangeAt Go.RowKit

theorem PB.newP {n : Nat} {T : Nat → Tk} (h : ∀ i, i < n → MayT (T i).e (T i).l) : PB n (newP T) :=
  ⟨⟨Int.le_refl _, by show (0 : Int) ≤ _; omega⟩, fun i hi => ⟨⟨h i hi, Int.le_refl _, by show (0 : Int) ≤ _; omega⟩, fun x q => (List.not_mem_nil q).elim, by show 0 ≤ 1152921504606846976; omega, Int.le_refl _, by have := (h i hi).1; show 0 < (T i).l; omega⟩⟩
/-- The next stretch, and the plan behind it. -/
def nextE (n : Nat) (p : Pl) : Int := endN p.J (runN p.J p.now n).1 ((runN p.J p.now n).2 + (runN p.J p.now n).1.left) n
def nextP (n : Nat) (p : Pl) : Sl × Pl :=
  (⟨(runN p.J p.now n).1.task, (runN p.J p.now n).2, nextE n p, decide ((runN p.J p.now n).1.due < nextE n p)⟩, p.go (runN p.J p.now n).1.task.toNat (nextE n p - (runN p.J p.now n).2) (nextE n p))
theorem next_of {n : Nat} {p : Pl} (hb : PB n p) (h0 : 0 < n) : ∃ m f, Str n p m f (nextE n p) ∧ nextP n p = (⟨m, f, nextE n p, decide ((p.J m).due < nextE n p)⟩, p.go m (nextE n p - f) (nextE n p)) ∧ endN p.J (p.J m) (f + (p.J m).left) n = nextE n p := by
  obtain ⟨m, f, e, hr⟩ := hb.runs h0
  refine ⟨m, f, ⟨hr, ?_, ?_⟩, ?_, ?_⟩
  · unfold nextE
    rw [e]
    exact (hr.ends hb).1
  · unfold nextE
    rw [e]
    exact Int.le_refl _
  · unfold nextP
    rw [e]
    rfl
  · unfold nextE
    rw [e]
end Go.Proofs.Ytjklaemhfhakhab
