/- Products and sums of complex numbers. -/
import Derived.Test.YtjnggbpifclpcabK
import Derived.Deep.RegionWith
namespace Go.Proofs.Ytjnggbpifclpcab
open Go.ChangeShapes Go.WideShapes Go.ChangeAt Go.RowKit Go.Fl Ieee
attribute [local go_sem] run_store_float run_store_complex call20 call19 run_neg fold_eq fold_ne fold_lt fold_gt abs_eq

/-- A sum: the first alone, then each further one. -/
def sumN (F : Nat → Option Nat) : Nat → Option Nat
  | 0 => ab 0
  | 1 => F 0
  | n + 2 => bin .add (sumN F (n + 1)) (F (n + 1))
theorem sumN_step (F : Nat → Option Nat) (k : Nat) : sumN F (k + 1 + 1) = bin .add (sumN F (k + 1)) (F (k + 1)) := rfl
/-- The sum of two complex numbers: part by part. -/
theorem run_cadd {P : Program} (t : TypeId) (a b c d : Nat) (w : World) :
    ∃ r i n, (binOp .add t (.complex .f64 a b) (.complex .f64 c d)).run P w = .ok (.complex .f64 r i) (w.drewN n) ∧ ab r = bin .add (ab a) (ab c) ∧ ab i = bin .add (ab b) (ab d) := by
  obtain ⟨r, n, e1, h1⟩ := run_fl (P := P) .add t a c w (by simp)
  obtain ⟨i, m, e2, h2⟩ := run_fl (P := P) .add t b d (w.drewN n) (by simp)
  have f1 : (Op.floatArith .add .f64 a c).run P w = .ok (.float .f64 r) (w.drewN n) := e1
  have f2 : (Op.floatArith .add .f64 b d).run P (w.drewN n) = .ok (.float .f64 i) ((w.drewN n).drewN m) := e2
  refine ⟨r, i, n + m, ?_, h1, h2⟩
  rw [World.drewN_drewN] at f2
  simp [binOp, Op.complexOp, Op.Complex.arith, f1, f2]
theorem upon_cadd {P : Program} {o : Oper} {a : Act} {next : Act → World → Prop} {Q : Exit → Act → World → Prop} {t : TypeId} {x y x' y' : Nat} {w : World}
    {F : Value → World → Result Next} (hk : ∀ r i n, Hid (ab r = bin .add (ab x) (ab x')) → Hid (ab i = bin .add (ab y) (ab y')) → o.upon P a next Q (F (.complex .f64 r i) (w.drewN n))) :
    o.upon P a next Q (((binOp .add t (.complex .f64 x y) (.complex .f64 x' y')).run P w).andThen F) := by
  obtain ⟨r, i, n, e, h1, h2⟩ := run_cadd (P := P) t x y x' y' w
  rw [e]
  exact hk r i n h1 h2
/-- What a call leaves that hands back a number of two parts, and only draws. -/
def DR (w : World) (c s : Option Nat) (e : Ending) (w' : World) : Prop := ∃ r i n, e = .returned (.complex .f64 r i) ∧ w' = w.drewN n ∧ Hid (ab r = c) ∧ Hid (ab i = s)
theorem DR.mk0 {w : World} {c s : Option Nat} {r i : Nat} (h1 : ab r = c) (h2 : ab i = s) : DR w c s (.returned (.complex .f64 r i)) w := ⟨r, i, 0, rfl, rfl, h1, h2⟩
theorem DR.mkN {w : World} {c s : Option Nat} {r i n : Nat} (h1 : ab r = c) (h2 : ab i = s) : DR w c s (.returned (.complex .f64 r i)) (w.drewN n) := ⟨r, i, n, rfl, rfl, h1, h2⟩
def mulR (a b c d : Option Nat) : Option Nat := bin .sub (bin .mul a c) (bin .mul b d)
def mulI (a b c d : Option Nat) : Option Nat := bin .add (bin .mul a d) (bin .mul b c)
theorem t31 (a b c d : Nat) (w : World) : Calls Try.prog 31 #[.complex .f64 a b, .complex .f64 c d] w (DR w (mulR (ab a) (ab b) (ab c) (ab d)) (mulI (ab a) (ab b) (ab c) (ab d))) := by
  go_enter Try.func31, Try.ntmps31
  go_wp2_with ((with_reducible refine upon_fl (by simp) ?_); intro r n hr)
  go_ret
  refine DR.mkN ?_ ?_ <;> simp_all [mulR, mulI, Hid]
theorem enters {f : FuncId} {fn : Func} (hf : Try.prog.funcs[f]? = some fn) (hn : (fn.name == "runtime.NumGoroutine") = false) (hb : fn.body.isSome = true) (args : Array Value) (w : World) : (callFunc f args).run Try.prog w = .ok (.enter f args) w := by
  have h1 : fn.name ≠ "runtime.NumGoroutine" := by simpa using hn
  obtain ⟨c, hc⟩ := Option.isSome_iff_exists.1 hb
  simp [callFunc, hf, h1, hc]
set_option maxHeartbeats 1000000 in
theorem t37 (g n : Nat) (c : Array Value) (F G : Nat → Option Nat) (w : World) (hn : n < 4611686018427387904) (eg : ∀ args w, (callFunc g args).run Try.prog w = .ok (.enter g args) w)
    (hat : ∀ i, i < n → ∀ k, Calls Try.prog g (#[.int .i64 i] ++ c) (w.drewN k) (DR (w.drewN k) (F i) (G i))) :
    Calls Try.prog 37 #[.int .i64 n, .func (.func g) #[] c] w (DR w (sumN F n) (sumN G n)) := by
  have HA : Hid (∀ i, i < n → ∀ k, Calls Try.prog g (#[.int .i64 i] ++ c) (w.drewN k) (DR (w.drewN k) (F i) (G i))) := hat
  clear hat
  rcases Nat.eq_zero_or_pos n with rfl | hp
  · go_enter Try.func37, Try.ntmps37
    go_wp2
    go_ret
    exact DR.mk0 rfl rfl
  · obtain ⟨m, rfl⟩ : ∃ m, n = m + 1 := ⟨n - 1, by omega⟩
    have A0 : Hid (Calls Try.prog g (#[.int .i64 0] ++ c) w (DR w (F 0) (G 0))) := HA.out 0 hp 0
    have A1 : Hid (∀ i, i < m → ∀ k, Calls Try.prog g (#[.int .i64 ((i : Int) + 1)] ++ c) (w.drewN k) (DR (w.drewN k) (F (i + 1)) (G (i + 1)))) := fun i hi k => HA.out (i + 1) (by omega) k
    clear HA
    have h0 : ((m : Int) + 1 == 0) = false := by rw [beq_eq_false_iff_ne]; omega
    go_enter Try.func37, Try.ntmps37
    go_wp2_with fail
    (with_reducible refine A0.out.mono ?_)
    rintro e w' ⟨r, s, k, rfl, rfl, hr, hs⟩
    go_wp2
    go_loopw [5, 6, 13] (fun vs _ vi wr => ∃ i r s k : Nat, i ≤ m ∧ vs = .complex .f64 r s ∧ vi = .int .i64 i ∧ wr = w.drewN k ∧ Hid (ab r = sumN F (i + 1)) ∧ Hid (ab s = sumN G (i + 1))) (fun _ _ vi _ => m - (intOf vi).toNat)
    case atStart => exact ⟨0, r, s, k, by omega, rfl, rfl, by simp, hr, hs⟩
    case round =>
      clear hr hs
      obtain ⟨i, r, s, k, hi, rfl, rfl, rfl, hr, hs⟩ := hrel
      by_cases hlt : i < m
      · go_wp2_with fail
        (with_reducible refine (A1.out i hlt _).mono ?_)
        rintro e w' ⟨r2, s2, k2, rfl, rfl, hr2, hs2⟩
        go_wp2_with ((with_reducible refine upon_cadd ?_); intro r3 s3 k3 hr3 hs3)
        go_roundw
        case rel =>
          refine ⟨i + 1, r3, s3, _, by omega, rfl, by go_num, by first | rfl | (simp only [World.drewN_drewN]; rfl), ?_, ?_⟩
          · show _ = _
            rw [sumN_step, ← hr.out, ← hr2.out, ← hr3.out]
          · show _ = _
            rw [sumN_step, ← hs.out, ← hs2.out, ← hs3.out]
        case measure => simp [intOf]; omega
      · obtain rfl : i = m := by omega
        go_wp2
        go_ret
        exact DR.mkN hr.out hs.out
theorem cell_up {w w' : World} {b o : Nat} {v : Value} (h : w.cell? ⟨b, o, none⟩ = some v) (hu : Up w w') : w'.cell? ⟨b, o, none⟩ = some v := by
  rw [Below.cell hu (World.block_lt_of_cell? w _ h)]; exact h
/-- The cells of a slice hold these numbers. -/
def RD (w : World) (blk off n : Nat) (f : Nat → Nat × Nat) : Prop := ∀ j, j < n → w.cell? ⟨blk, off + j, none⟩ = some (ce (f j))
theorem RD.up {w w' : World} {blk off n : Nat} {f : Nat → Nat × Nat} (h : RD w blk off n f) (hu : Up w w') : RD w' blk off n f := fun j hj => cell_up (h j hj) hu
/-- The sums of a row's real and imaginary parts. -/
def sumR (f : Nat → Nat × Nat) (n : Nat) : Option Nat := sumN (fun i => ab (f i).1) n
def sumI (f : Nat → Nat × Nat) (n : Nat) : Option Nat := sumN (fun i => ab (f i).2) n
theorem box_cell (w : World) (v : Value) (t : TypeId) (k : Nat) : ((w.alloc (.cells #[v] t)).drewN k).cell? ⟨w.heap.size, 0, none⟩ = some v := World.cell?_alloc_at _ _ _ _ rfl
theorem up1 (w : World) (o : Obj) (k : Nat) : Up w ((w.alloc o).drewN k) := (Up.alloc _ _).trans (Up.drewN _ _)
end Go.Proofs.Ytjnggbpifclpcab
