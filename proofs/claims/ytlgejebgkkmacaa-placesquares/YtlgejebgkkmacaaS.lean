/- Products and sums of complex numbers. -/
import Derived.Test.YtlgejebgkkmacaaK
import Derived.Deep.RegionWith
namespace Go.Proofs.Ytlgejebgkkmacaa
open Go.ChangeShapes Go.WideShapes Go.ChangeAt Go.RowKit Go.Fl Ieee
attribute [local go_sem] run_store_float run_store_complex call39 call50 run_neg fold_eq fold_ne fold_lt fold_gt abs_eq

/-- A sum: the first alone, then each further one. -/
def sumN (F : Nat → Option Nat) : Nat → Option Nat
  | 0 => ab 0
  | 1 => F 0
  | n + 2 => bin .add (sumN F (n + 1)) (F (n + 1))
theorem sumN_step (F : Nat → Option Nat) (k : Nat) : sumN F (k + 1 + 1) = bin .add (sumN F (k + 1)) (F (k + 1)) := rfl
/-- The sum of two complex numbers: part by part. -/
theorem run_cadd {P : Program} (t : TypeId) (a b c d : Nat) (w : World) :
    ∃ r i n, (binOp .add t (.complex .f64 a b) (.complex .f64 c d)).run P w = .ok (.complex .f64 r i) (w.drewN n) ∧ ab r = bin .add (ab a) (ab c) ∧ ab i = bin .add (ab b) (ab d) := by
  obtain ⟨r, n, e1, h1⟩ := run_fl (P := P) .add t a c w (by simp)
  obtain ⟨i, m, e2, h2⟩ := run_fl (P := P) .add t b d (w.drewN n) (by simp)
  have f1 : (Op.floatArith .add .f64 a c).run P w = .ok (.float .f64 r) (w.drewN n) := e1
  have f2 : (Op.floatArith .add .f64 b d).run P (w.drewN n) = .ok (.float .f64 i) ((w.drewN n).drewN m) := e2
  refine ⟨r, i, n + m, ?_, h1, h2⟩
  rw [World.drewN_drewN] at f2
  simp [binOp, Op.complexOp, Op.Complex.arith, f1, f2]
theorem upon_cadd {P : Program} {o : Oper} {a : Act} {next : Act → World → Prop} {Q : Exit → Act → World → Prop} {t : TypeId} {x y x' y' : Nat} {w : World}
    {F : Value → World → Result Next} (hk : ∀ r i n, Hid (ab r = bin .add (ab x) (ab x')) → Hid (ab i = bin .add (ab y) (ab y')) → o.upon P a next Q (F (.complex .f64 r i) (w.drewN n))) :
    o.upon P a next Q (((binOp .add t (.complex .f64 x y) (.complex .f64 x' y')).run P w).andThen F) := by
  obtain ⟨r, i, n, e, h1, h2⟩ := run_cadd (P := P) t x y x' y' w
  rw [e]
  exact hk r i n h1 h2
/-- What a call leaves that hands back a number of two parts, and only draws. -/
def DR (w : World) (c s : Option Nat) (e : Ending) (w' : World) : Prop := ∃ r i n, e = .returned (.complex .f64 r i) ∧ w' = w.drewN n ∧ Hid (ab r = c) ∧ Hid (ab i = s)
theorem DR.mk0 {w : World} {c s : Option Nat} {r i : Nat} (h1 : ab r = c) (h2 : ab i = s) : DR w c s (.returned (.complex .f64 r i)) w := ⟨r, i, 0, rfl, rfl, h1, h2⟩
theorem DR.mkN {w : World} {c s : Option Nat} {r i n : Nat} (h1 : ab r = c) (h2 : ab i = s) : DR w c s (.returned (.complex .f64 r i)) (w.drewN n) := ⟨r, i, n, rfl, rfl, h1, h2⟩
def mulR (a b c d : Option Nat) : Option Nat := bin .sub (bin .mul a c) (bin .mul b d)
def mulI (a b c d : Option Nat) : Option Nat := bin .add (bin .mul a d) (bin .mul b c)
theorem t45 (a b c d : Nat) (w : World) : Calls Try.prog 45 #[.complex .f64 a b, .complex .f64 c d] w (DR w (mulR (ab a) (ab b) (ab c) (ab d)) (mulI (ab a) (ab b) (ab c) (ab d))) := by
  go_enter Try.func45, Try.ntmps45
  go_wp2_with ((with_reducible refine upon_fl (by simp) ?_); intro r n hr)
  go_ret
  refine DR.mkN ?_ ?_ <;> simp_all [mulR, mulI, Hid]
theorem enters {f : FuncId} {fn : Func} (hf : Try.prog.funcs[f]? = some fn) (hn : (fn.name == "runtime.NumGoroutine") = false) (hb : fn.body.isSome = true) (args : Array Value) (w : World) : (callFunc f args).run Try.prog w = .ok (.enter f args) w := by
  have h1 : fn.name ≠ "runtime.NumGoroutine" := by simpa using hn
  obtain ⟨c, hc⟩ := Option.isSome_iff_exists.1 hb
  simp [callFunc, hf, h1, hc]
theorem cell_up {w w' : World} {b o : Nat} {v : Value} (h : w.cell? ⟨b, o, none⟩ = some v) (hu : Up w w') : w'.cell? ⟨b, o, none⟩ = some v := by
  rw [Below.cell hu (World.block_lt_of_cell? w _ h)]; exact h
/-- The cells of a slice hold these numbers. -/
def RD (w : World) (blk off n : Nat) (f : Nat → Nat × Nat) : Prop := ∀ j, j < n → w.cell? ⟨blk, off + j, none⟩ = some (ce (f j))
theorem RD.up {w w' : World} {blk off n : Nat} {f : Nat → Nat × Nat} (h : RD w blk off n f) (hu : Up w w') : RD w' blk off n f := fun j hj => cell_up (h j hj) hu
/-- The sums of a row's real and imaginary parts. -/
def sumR (f : Nat → Nat × Nat) (n : Nat) : Option Nat := sumN (fun i => ab (f i).1) n
def sumI (f : Nat → Nat × Nat) (n : Nat) : Option Nat := sumN (fun i => ab (f i).2) n
theorem box_cell (w : World) (v : Value) (t : TypeId) (k : Nat) : ((w.alloc (.cells #[v] t)).drewN k).cell? ⟨w.heap.size, 0, none⟩ = some v := World.cell?_alloc_at _ _ _ _ rfl
theorem up1 (w : World) (o : Obj) (k : Nat) : Up w ((w.alloc o).drewN k) := (Up.alloc _ _).trans (Up.drewN _ _)
end Go.Proofs.Ytlgejebgkkmacaa
