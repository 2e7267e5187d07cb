/- Rows of three; Euclid's steps. -/
import Derived.Test.YtijfmaepoamkgaaJb
import Derived.Test.YtijfmaepoamkgaaEe
import Derived.Test.YtijfmaepoamkgaaRg
import Derived.Deep.MidRow
import Derived.Deep.RegionHeld3
namespace Go.Proofs.Ytijfmaepoamkgaa.Fo
open Go.ChangeShapes Go.WideShapes Go.ChangeAt Go.RowKit
/-- Of what was there nothing has turned. -/
def Up (w w' : World) : Prop := Below w.heap.size w w'
theorem Up.refl (w : World) : Up w w := Below.refl _ _
theorem Up.trans {a b c : World} (h : Up a b) (k : Up b c) : Up a c := Below.trans h (Below.mono k h.size)
theorem Up.drewN (w : World) (n : Nat) : Up w (w.drewN n) := below_drewN (Below.refl _ _) n
theorem Up.drew (w : World) : Up w w.drew := Up.drewN w 1
theorem Up.alloc (w : World) (o : Obj) : Up w (w.alloc o) := (Below.refl _ _).alloc (Nat.le_refl _) _
/-- A row laid whole into a row. -/
def set3 (w : World) (g : Nat) (A X Y : Int) : World := w.setCells g 0 [.int .i64 A, .int .i64 X, .int .i64 Y]
theorem set3_is (w : World) (g : Nat) (A X Y : Int) : set3 w g A X Y = ((w.setCell ⟨g, 0, none⟩ (.int .i64 A)).setCell ⟨g, 1, none⟩ (.int .i64 X)).setCell ⟨g, 2, none⟩ (.int .i64 Y) := rfl
theorem Up.set3 {w w' : World} {g : Nat} (h : Up w w') (hg : w.heap.size ≤ g) (A X Y : Int) : Up w (set3 w' g A X Y) := by
  rw [set3_is]
  exact Below.setCell (Below.setCell (Below.setCell h hg _) hg _) hg _
theorem results_tmp4 {fn : Func} {t u v z : Tmp} (h : fn.results = #[.tmp t, .tmp u, .tmp v, .tmp z]) (tmps : Array Value) (P : Program) (w : World) :
    (results fn tmps).run P w = .ok (.tuple #[tmps.getD t undef, tmps.getD u undef, tmps.getD v undef, tmps.getD z undef]) w := by
  simp [results, h]
theorem enters {f : FuncId} {fn : Func} (hf : Try.prog.funcs[f]? = some fn) (hn : (fn.name == "runtime.NumGoroutine") = false) (hb : fn.body.isSome = true) (args : Array Value) (w : World) : (callFunc f args).run Try.prog w = .ok (.enter f args) w := by
  have h1 : fn.name ≠ "runtime.NumGoroutine" := by simpa using hn
  obtain ⟨c, hc⟩ := Option.isSome_iff_exists.1 hb
  simp [callFunc, hf, h1, hc]
theorem wrap_sub_wrap {x p : Int} (h : -9223372036854775808 ≤ x - p ∧ x - p ≤ 9223372036854775807) : wrap64 (x - wrap64 p) = x - p := by
  unfold wrap64; omega
end Go.Proofs.Ytijfmaepoamkgaa.Fo
