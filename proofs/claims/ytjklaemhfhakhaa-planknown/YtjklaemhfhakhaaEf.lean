/- wakes: what is known. -/
import Derived.Test.YtjklaemhfhakhaaEd
import Derived.Test.YtjklaemhfhakhaaEe
namespace Go.Proofs.Ytjklaemhfhakhaa
open Go.ChangeShapes Go.WideShapes Go.ChangeAt Go.RowKit

theorem PB.newP {n : Nat} {T : Nat → Tk} (h : ∀ i, i < n → MayT (T i).e (T i).l) : PB n (newP T) :=
  ⟨⟨Int.le_refl _, by show (0 : Int) ≤ _; omega⟩, fun i hi => ⟨⟨h i hi, Int.le_refl _, by show (0 : Int) ≤ _; omega⟩, fun x q => (List.not_mem_nil q).elim, by show 0 ≤ 1152921504606846976; omega, Int.le_refl _, by have := (h i hi).1; show 0 < (T i).l; omega⟩⟩
/-- The next stretch, and the plan behind it. -/
def nextE (n : Nat) (p : Pl) : Int := endN p.J (runN p.J p.now n).1 ((runN p.J p.now n).2 + (runN p.J p.now n).1.left) n
def nextP (n : Nat) (p : Pl) : Sl × Pl :=
  (⟨(runN p.J p.now n).1.task, (runN p.J p.now n).2, nextE n p, decide ((runN p.J p.now n).1.due < nextE n p)⟩, p.go (runN p.J p.now n).1.task.toNat (nextE n p - (runN p.J p.now n).2) (nextE n p))
theorem next_of {n : Nat} {p : Pl} (hb : PB n p) (h0 : 0 < n) : ∃ m f, Str n p m f (nextE n p) ∧ nextP n p = (⟨m, f, nextE n p, decide ((p.J m).due < nextE n p)⟩, p.go m (nextE n p - f) (nextE n p)) ∧ endN p.J (p.J m) (f + (p.J m).left) n = nextE n p := by
  obtain ⟨m, f, e, hr⟩ := hb.runs h0
  refine ⟨m, f, ⟨hr, ?_, ?_⟩, ?_, ?_⟩
  · unfold nextE
    rw [e]
    exact (hr.ends hb).1
  · unfold nextE
    rw [e]
    exact Int.le_refl _
  · unfold nextP
    rw [e]
    rfl
  · unfold nextE
    rw [e]
theorem t17k {w : World} {L : Ly} {n : Nat} {p : Pl} (h : PW w L n p) (hL : L.Ok n) (hb : PB n p) (hn : n ≤ 256) (h0 : 0 < n) (ht : nextE n p ≤ 1152921504606846976) :
    Calls Try.prog 17 #[.pointer (some ⟨L.bp, 0, none⟩)] w (DoR w L n (nextP n p).2 (.tuple #[(nextP n p).1.val, .int .i64 0])) ∧ PB n (nextP n p).2 := by
  obtain ⟨m, f, hs, he, hto⟩ := next_of hb h0
  rw [he]
  exact ⟨t17 h hL hb hn hs.runs hto ht, hb.go hs ht⟩
def T2 (i : Nat) : Tk := if i = 0 then ⟨4, 1, 0⟩ else ⟨6, 2, 0⟩
def P0 : Pl := newP T2
def P1 : Pl := (nextP 2 P0).2
def P2 : Pl := (untilN 2 7 65536 P1).2
theorem w1 : (nextP 2 P0).1 = ⟨0, 0, 1, false⟩ := by kernel_rfl
theorem w2 : nextE 2 P0 = 1 := by kernel_rfl
theorem w3 : (untilN 2 7 65536 P1).1 = [⟨1, 1, 3, false⟩, ⟨0, 4, 5, false⟩, ⟨1, 6, 7, false⟩] := by kernel_rfl
theorem w4 : P2.now = 7 := by kernel_rfl
theorem w5 : (P2.c 0).tl = [] ∧ (P2.c 1).tl = [] := ⟨by kernel_rfl, by kernel_rfl⟩
theorem w6 : (P2.c 0).hd.nx = 8 := by kernel_rfl
theorem w7 : (P2.c 0).last.e = 4 ∧ (P2.c 0).last.l = 1 ∧ (P2.c 1).last.e = 6 ∧ (P2.c 1).last.l = 2 := ⟨by kernel_rfl, by kernel_rfl, by kernel_rfl, by kernel_rfl⟩
def E2 (i : Nat) : Nat := if i = 0 then 4 else 6
def L2 (i : Nat) : Nat := if i = 0 then 1 else 2
theorem w8 : loadN E2 L2 2 = some (7, 12) := by decide +kernel
theorem may2 : ∀ i, i < 2 → MayT (T2 i).e (T2 i).l := by
  intro i hi
  rcases (show i = 0 ∨ i = 1 by omega) with rfl | rfl
  · show (1 : Int) ≤ 1 ∧ (1 : Int) ≤ 4 ∧ (4 : Int) ≤ 1099511627776; omega
  · show (1 : Int) ≤ 2 ∧ (2 : Int) ≤ 6 ∧ (6 : Int) ≤ 1099511627776; omega
end Go.Proofs.Ytjklaemhfhakhaa
