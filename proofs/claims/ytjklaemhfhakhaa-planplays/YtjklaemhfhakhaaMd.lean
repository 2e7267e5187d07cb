/- What Until tells. No program. -/
import Derived.Test.YtjklaemhfhakhaaMa
namespace Go.Proofs.Ytjklaemhfhakhaa

/-- A stretch: its task, its ends, late. -/
structure Sl where
  t : Int
  f : Int
  e : Int
  l : Bool
def Sl.zero : Sl := ⟨0, 0, 0, false⟩
/-- At most k stretches up to a tick; and the plan behind them. -/
def untilN (n : Nat) (tick : Int) : Nat → Pl → List Sl × Pl
  | 0, p => ([], p)
  | k + 1, p =>
    if p.now < tick then
      if tick ≤ (runN p.J p.now n).2 then ([], p.at tick)
      else
        let r := runN p.J p.now n
        let c := min (endN p.J r.1 (r.2 + r.1.left) n) tick
        let q := untilN n tick k (p.go r.1.task.toNat (c - r.2) c)
        (⟨r.1.task, r.2, c, decide (r.1.due < c)⟩ :: q.1, q.2)
    else ([], p)
theorem until_out {n : Nat} {tick : Int} {k : Nat} {p : Pl} (h : ¬ p.now < tick) : untilN n tick k p = ([], p) := by
  cases k with
  | zero => rfl
  | succ k => rw [untilN, if_neg h]
theorem until_far {n : Nat} {tick : Int} {k : Nat} {p : Pl} (h : p.now < tick) (hf : tick ≤ (runN p.J p.now n).2) : untilN n tick (k + 1) p = ([], p.at tick) := by
  rw [untilN, if_pos h, if_pos hf]
theorem until_step {n : Nat} {tick : Int} {k : Nat} {p : Pl} {m : Nat} {f : Int} (h : p.now < tick) (e : runN p.J p.now n = (p.J m, f)) (hf : f < tick) :
    untilN n tick (k + 1) p = (⟨m, f, min (endN p.J (p.J m) (f + (p.J m).left) n) tick, decide ((p.J m).due < min (endN p.J (p.J m) (f + (p.J m).left) n) tick)⟩ :: (untilN n tick k (p.go m (min (endN p.J (p.J m) (f + (p.J m).left) n) tick - f) (min (endN p.J (p.J m) (f + (p.J m).left) n) tick))).1, (untilN n tick k (p.go m (min (endN p.J (p.J m) (f + (p.J m).left) n) tick - f) (min (endN p.J (p.J m) (f + (p.J m).left) n) tick))).2) := by
  rw [untilN, if_pos h, if_neg (by rw [e]; show ¬ tick ≤ f; omega)]
  simp only [e]
  rfl
/-- It is cut at a tick, or not. -/
theorem cut_str {n : Nat} {p : Pl} {m : Nat} {f tick : Int} (hb : PB n p) (hr : Runs n p.J p.now m f) (hf : f < tick) : Str n p m f (min (endN p.J (p.J m) (f + (p.J m).left) n) tick) := by
  obtain ⟨h1, h2⟩ := hr.ends hb
  exact ⟨hr, by omega, by omega⟩
end Go.Proofs.Ytjklaemhfhakhaa
