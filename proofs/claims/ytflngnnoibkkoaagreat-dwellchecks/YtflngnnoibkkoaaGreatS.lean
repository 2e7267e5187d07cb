/- Products and sums of complex numbers. -/
import Derived.Test.YtflngnnoibkkoaaGreatE
import Derived.Deep.RegionWith
import Derived.BigQuiet
import Derived.Laws.BitsLemmas
namespace Go.Proofs.YtflngnnoibkkoaaGreat
open Go.ChangeShapes Go.WideShapes Go.ChangeAt Go.RowKit Go.Fl Ieee
set_option maxRecDepth 200000
set_option maxHeartbeats 8000000
attribute [local go_sem] run_store_float run_store_complex call34 call33 run_neg fold_eq fold_ne fold_lt fold_gt abs_eq

/-- A sum: the first alone, then each further one. -/
def sumN (F : Nat → Option Nat) : Nat → Option Nat
  | 0 => ab 0
  | 1 => F 0
  | n + 2 => bin .add (sumN F (n + 1)) (F (n + 1))
theorem sumN_step (F : Nat → Option Nat) (k : Nat) : sumN F (k + 1 + 1) = bin .add (sumN F (k + 1)) (F (k + 1)) := rfl
/-- The sum of two complex numbers: part by part. -/
theorem run_cadd {P : Program} (t : TypeId) (a b c d : Nat) (w : World) :
    ∃ r i n, (binOp .add t (.complex .f64 a b) (.complex .f64 c d)).run P w = .ok (.complex .f64 r i) (w.drewN n) ∧ ab r = bin .add (ab a) (ab c) ∧ ab i = bin .add (ab b) (ab d) := by
  obtain ⟨r, n, e1, h1⟩ := run_fl (P := P) .add t a c w (by simp)
  obtain ⟨i, m, e2, h2⟩ := run_fl (P := P) .add t b d (w.drewN n) (by simp)
  have f1 : (Op.floatArith .add .f64 a c).run P w = .ok (.float .f64 r) (w.drewN n) := e1
  have f2 : (Op.floatArith .add .f64 b d).run P (w.drewN n) = .ok (.float .f64 i) ((w.drewN n).drewN m) := e2
  refine ⟨r, i, n + m, ?_, h1, h2⟩
  rw [World.drewN_drewN] at f2
  simp [binOp, Op.complexOp, Op.Complex.arith, f1, f2]
theorem upon_cadd {P : Program} {o : Oper} {a : Act} {next : Act → World → Prop} {Q : Exit → Act → World → Prop} {t : TypeId} {x y x' y' : Nat} {w : World}
    {F : Value → World → Result Next} (hk : ∀ r i n, Hid (ab r = bin .add (ab x) (ab x')) → Hid (ab i = bin .add (ab y) (ab y')) → o.upon P a next Q (F (.complex .f64 r i) (w.drewN n))) :
    o.upon P a next Q (((binOp .add t (.complex .f64 x y) (.complex .f64 x' y')).run P w).andThen F) := by
  obtain ⟨r, i, n, e, h1, h2⟩ := run_cadd (P := P) t x y x' y' w
  rw [e]
  exact hk r i n h1 h2
/-- What a call leaves that hands back a number of two parts, and only draws. -/
def DR (w : World) (c s : Option Nat) (e : Ending) (w' : World) : Prop := ∃ r i n, e = .returned (.complex .f64 r i) ∧ w' = w.drewN n ∧ Hid (ab r = c) ∧ Hid (ab i = s)
theorem DR.mk0 {w : World} {c s : Option Nat} {r i : Nat} (h1 : ab r = c) (h2 : ab i = s) : DR w c s (.returned (.complex .f64 r i)) w := ⟨r, i, 0, rfl, rfl, h1, h2⟩
theorem DR.mkN {w : World} {c s : Option Nat} {r i n : Nat} (h1 : ab r = c) (h2 : ab i = s) : DR w c s (.returned (.complex .f64 r i)) (w.drewN n) := ⟨r, i, n, rfl, rfl, h1, h2⟩
def mulR (a b c d : Option Nat) : Option Nat := bin .sub (bin .mul a c) (bin .mul b d)
def mulI (a b c d : Option Nat) : Option Nat := bin .add (bin .mul a d) (bin .mul b c)
theorem t93 (a b c d : Nat) (w : World) : Calls Tryz.prog 93 #[.complex .f64 a b, .complex .f64 c d] w (DR w (mulR (ab a) (ab b) (ab c) (ab d)) (mulI (ab a) (ab b) (ab c) (ab d))) := by
  go_enter Tryz.func93, Tryz.ntmps93
  go_wp2_with ((with_reducible refine upon_fl (by simp) ?_); intro r n hr)
  go_ret
  refine DR.mkN ?_ ?_ <;> simp_all [mulR, mulI, Hid]
theorem enters {f : FuncId} {fn : Func} (hf : Tryz.prog.funcs[f]? = some fn) (hn : (fn.name == "runtime.NumGoroutine") = false) (hb : fn.body.isSome = true) (args : Array Value) (w : World) : (callFunc f args).run Tryz.prog w = .ok (.enter f args) w := by
  have h1 : fn.name ≠ "runtime.NumGoroutine" := by simpa using hn
  obtain ⟨c, hc⟩ := Option.isSome_iff_exists.1 hb
  simp [callFunc, hf, h1, hc]
set_option maxHeartbeats 1000000 in
theorem t165 (g n : Nat) (c : Array Value) (F G : Nat → Option Nat) (w : World) (hn : n < 4611686018427387904) (eg : ∀ args w, (callFunc g args).run Tryz.prog w = .ok (.enter g args) w)
    (hat : ∀ i, i < n → ∀ k, Calls Tryz.prog g (#[.int .i64 i] ++ c) (w.drewN k) (DR (w.drewN k) (F i) (G i))) :
    Calls Tryz.prog 165 #[.int .i64 n, .func (.func g) #[] c] w (DR w (sumN F n) (sumN G n)) := by
  have HA : Hid (∀ i, i < n → ∀ k, Calls Tryz.prog g (#[.int .i64 i] ++ c) (w.drewN k) (DR (w.drewN k) (F i) (G i))) := hat
  clear hat
  rcases Nat.eq_zero_or_pos n with rfl | hp
  · go_enter Tryz.func165, Tryz.ntmps165
    go_wp2
    go_ret
    exact DR.mk0 rfl rfl
  · obtain ⟨m, rfl⟩ : ∃ m, n = m + 1 := ⟨n - 1, by omega⟩
    have A0 : Hid (Calls Tryz.prog g (#[.int .i64 0] ++ c) w (DR w (F 0) (G 0))) := HA.out 0 hp 0
    have A1 : Hid (∀ i, i < m → ∀ k, Calls Tryz.prog g (#[.int .i64 ((i : Int) + 1)] ++ c) (w.drewN k) (DR (w.drewN k) (F (i + 1)) (G (i + 1)))) := fun i hi k => HA.out (i + 1) (by omega) k
    clear HA
    have h0 : ((m : Int) + 1 == 0) = false := by rw [beq_eq_false_iff_ne]; omega
    go_enter Tryz.func165, Tryz.ntmps165
    go_wp2_with fail
    (with_reducible refine A0.out.mono ?_)
    rintro e w' ⟨r, s, k, rfl, rfl, hr, hs⟩
    go_wp2
    go_loopw [5, 6, 13] (fun vs _ vi wr => ∃ i r s k : Nat, i ≤ m ∧ vs = .complex .f64 r s ∧ vi = .int .i64 i ∧ wr = w.drewN k ∧ Hid (ab r = sumN F (i + 1)) ∧ Hid (ab s = sumN G (i + 1))) (fun _ _ vi _ => m - (intOf vi).toNat)
    case atStart => exact ⟨0, r, s, k, by omega, rfl, rfl, by simp, hr, hs⟩
    case round =>
      clear hr hs
      obtain ⟨i, r, s, k, hi, rfl, rfl, rfl, hr, hs⟩ := hrel
      by_cases hlt : i < m
      · go_wp2_with fail
        (with_reducible refine (A1.out i hlt _).mono ?_)
        rintro e w' ⟨r2, s2, k2, rfl, rfl, hr2, hs2⟩
        go_wp2_with ((with_reducible refine upon_cadd ?_); intro r3 s3 k3 hr3 hs3)
        go_roundw
        case rel =>
          refine ⟨i + 1, r3, s3, _, by omega, rfl, by go_num, by first | rfl | (simp only [World.drewN_drewN]; rfl), ?_, ?_⟩
          · show _ = _
            rw [sumN_step, ← hr.out, ← hr2.out, ← hr3.out]
          · show _ = _
            rw [sumN_step, ← hs.out, ← hs2.out, ← hs3.out]
        case measure => simp [intOf]; omega
      · obtain rfl : i = m := by omega
        go_wp2
        go_ret
        exact DR.mkN hr.out hs.out
/-- The cells of a slice hold these numbers. -/
def RD (w : World) (blk off n : Nat) (f : Nat → Nat × Nat) : Prop := ∀ j, j < n → w.cell? ⟨blk, off + j, none⟩ = some (ce (f j))
theorem RD.up {w w' : World} {blk off n : Nat} {f : Nat → Nat × Nat} (h : RD w blk off n f) (hu : Up w w') : RD w' blk off n f := fun j hj => cell_up (h j hj) hu
/-- The sums of a row's real and imaginary parts. -/
def sumR (f : Nat → Nat × Nat) (n : Nat) : Option Nat := sumN (fun i => ab (f i).1) n
def sumI (f : Nat → Nat × Nat) (n : Nat) : Option Nat := sumN (fun i => ab (f i).2) n
theorem t166 (b g o n c i : Nat) (f : Nat → Nat × Nat) (w : World) (hb : w.cell? ⟨b, 0, none⟩ = some (.slice (some ⟨g, o, none⟩) n c)) (hR : RD w g o n f) (hi : i < n) :
    Calls Tryz.prog 166 #[.int .i64 i, .pointer (some ⟨b, 0, none⟩)] w (DR w (ab (f i).1) (ab (f i).2)) := by
  obtain ⟨x, y, hx, hc⟩ : ∃ x y, f i = (x, y) ∧ w.cell? ⟨g, o + i, none⟩ = some (.complex .f64 x y) := ⟨_, _, rfl, hR i hi⟩
  rw [hx]
  clear hx hR
  have hi1 : (i : Int) < (n : Int) := by omega
  go_enter Tryz.func166, Tryz.ntmps166
  go_wp2
  go_ret
  exact DR.mk0 rfl rfl
theorem eg166 (args : Array Value) (w : World) : (callFunc 166 args).run Tryz.prog w = .ok (.enter 166 args) w := enters Tryz.func166 (by kernel_rfl) (by kernel_rfl) _ _
theorem box_cell (w : World) (v : Value) (t : TypeId) (k : Nat) : ((w.alloc (.cells #[v] t)).drewN k).cell? ⟨w.heap.size, 0, none⟩ = some v := World.cell?_alloc_at _ _ _ _ rfl
theorem up1 (w : World) (o : Obj) (k : Nat) : Up w ((w.alloc o).drewN k) := (Up.alloc _ _).trans (Up.drewN _ _)
theorem sum23 {w : World} {g o n c : Nat} {f : Nat → Nat × Nat} (HR : Hid (RD w g o n f)) (hn : n < 4611686018427387904) :
    Calls Tryz.prog 165 #[.int .i64 n, .func (.func 166) #[] #[.pointer (some ⟨w.heap.size, 0, none⟩)]] (w.alloc (.cells #[.slice (some ⟨g, o, none⟩) n c] 34)) (DR (w.alloc (.cells #[.slice (some ⟨g, o, none⟩) n c] 34)) (sumR f n) (sumI f n)) :=
  t165 166 n _ _ _ _ hn eg166 fun i hi _ => t166 w.heap.size g o n c i f _ (box_cell _ _ _ _) (HR.out.up (up1 _ _ _)) hi
theorem t138 (g o n c : Nat) (f : Nat → Nat × Nat) (w : World) (hR : RD w g o n f) (hn : n < 4611686018427387904) : Calls Tryz.prog 138 #[.slice (some ⟨g, o, none⟩) n c] w (CR w (sumR f n) (sumI f n)) := by
  have HR : Hid (RD w g o n f) := hR
  clear hR
  go_enter Tryz.func138, Tryz.ntmps138
  go_wp2_with (go_at_call 165; (with_reducible refine (sum23 HR hn).mono ?_); rintro e w' ⟨r, s, k, rfl, rfl, hr, hs⟩)
  go_ret
  exact CR.mk hr.out hs.out (up1 _ _ _)
end Go.Proofs.YtflngnnoibkkoaaGreat
/- Units, worked out once: the maker of the closure, and the closure. -/
namespace Go.Proofs.YtflngnnoibkkoaaGreat
open Go.ChangeShapes Go.WideShapes Go.ChangeAt Go.RowKit Go.Fl Ieee
set_option maxRecDepth 200000
set_option maxHeartbeats 8000000
/-- A number is stored where some value lies. -/
theorem run_store_c {P : Program} (w : World) (a : Addr) (m : Mode) (k : FloatKind) (x y : Nat) (h : (w.cell? a).isSome = true) (hf : w.frozen? a = false) : (store a (.complex k x y) m).run P w = .ok () (w.setCell a (.complex k x y)) := by
  obtain ⟨u, hu⟩ := Option.isSome_iff_exists.1 h
  rw [run_store_complex]
  simp [stored, hu, hf]
attribute [local go_sem] run_store_float run_store_c call34 call33 run_neg fold_eq fold_ne fold_lt fold_gt abs_eq

/-- What the closure that tells units holds: N points in a row, whose whole turn has S of them. -/
def Units (w : World) (c : Array Value) (N S : Nat) (f : Nat → Nat × Nat) : Prop :=
  ∃ bp bm g, c = #[.pointer (some ⟨bp, 0, none⟩), .pointer (some ⟨bm, 0, none⟩)] ∧ w.cell? ⟨bp, 0, none⟩ = some (.slice (some ⟨g, 0, none⟩) N N) ∧ w.cell? ⟨bm, 0, none⟩ = some (.int .i64 S) ∧ RD w g 0 N f
theorem Units.up {w w' : World} {c : Array Value} {N S : Nat} {f : Nat → Nat × Nat} (h : Units w c N S f) (hu : Up w w') : Units w' c N S f := by
  obtain ⟨bp, bm, g, rfl, h1, h2, h3⟩ := h
  exact ⟨bp, bm, g, rfl, cell_up h1 hu, cell_up h2 hu, h3.up hu⟩
theorem i64_id {x : Int} (h : -9223372036854775808 ≤ x ∧ x ≤ 9223372036854775807) : IntKind.i64.wrap x = x := by rw [IntKind.wrap_i64]; omega
theorem t164 {c : Array Value} {N S : Nat} {f : Nat → Nat × Nat} {w : World} (h : Units w c N S f) (j n q i : Nat) (hn : 0 < n) (hq : S / n = q) (hi : j * q = i) (hN : i < N) (hb : N < 4611686018427387904) (hS : S < 4611686018427387904) :
    Calls Tryz.prog 164 (#[.int .i64 j, .int .i64 n] ++ c) w (DR w (ab (f i).1) (ab (f i).2)) := by
  obtain ⟨bp, bm, g, rfl, h1, h2, h3⟩ := h
  obtain ⟨x, y, hx, hc⟩ : ∃ x y, f i = (x, y) ∧ w.cell? ⟨g, i, none⟩ = some (.complex .f64 x y) := ⟨(f i).1, (f i).2, rfl, by have := h3 i hN; rw [Nat.zero_add] at this; exact this⟩
  rw [hx]
  have e1 : (S : Int).tdiv (n : Int) = q := by rw [Int.tdiv_eq_ediv_of_nonneg (by omega), ← hq]; rfl
  have e2 : (j : Int) * (q : Int) = i := by rw [← hi]; exact (Int.natCast_mul _ _).symm
  have hqS : q ≤ S := by rw [← hq]; exact Nat.div_le_self _ _
  clear hx h3 hi
  have hn2 : ¬ n = 0 := by omega
  have wq : IntKind.i64.wrap (q : Int) = q := i64_id (by omega)
  have wi : IntKind.i64.wrap (i : Int) = i := i64_id (by omega)
  have hi1 : (i : Int) < (N : Int) := by omega
  have hn0 : ((n : Int) == 0) = false := by rw [beq_eq_false_iff_ne]; omega
  have hn1 : ¬ (n : Int) = 0 := by omega
  have hq0 : (0 : Int) ≤ (q : Int) := by omega
  have hi0 : (0 : Int) ≤ (i : Int) := by omega
  show Calls Tryz.prog 164 #[.int .i64 j, .int .i64 n, .pointer (some ⟨bp, 0, none⟩), .pointer (some ⟨bm, 0, none⟩)] w _
  go_enter Tryz.func164, Tryz.ntmps164
  go_wp2_with fail
  go_region_held3 (fun w' => w'.cell? ⟨bp, 0, none⟩ = some (.slice (some ⟨g, 0, none⟩) N N) ∧ w'.cell? ⟨bm, 0, none⟩ = some (.int .i64 S) ∧ w'.cell? ⟨g, i, none⟩ = some (.complex .f64 x y)) (go_keep) (fail)
  all_goals (try go_wp2)
  all_goals (go_ret; exact ⟨_, _, 1, rfl, rfl, rfl, rfl⟩)

/-- The point at j nths, there or back. -/
def unitF (way : Int) (S j : Nat) : Option Nat × Option Nat := (unitC (way * j) S, unitS (way * j) S)
def wayOf (b : Bool) : Int := if b then 1 else -1
/-- What the maker of units leaves. -/
def UR (w : World) (b : Bool) (N S : Nat) (e : Ending) (w' : World) : Prop :=
  ∃ bp bm q f, e = .returned (.func (.func 164) #[] #[.pointer (some ⟨bp, 0, none⟩), .pointer (some ⟨bm, 0, none⟩)]) ∧ Hid (w'.cell? ⟨bp, 0, none⟩ = some (.slice (some ⟨q, 0, none⟩) N N) ∧ w'.cell? ⟨bm, 0, none⟩ = some (.int .i64 S) ∧ RD w' q 0 N f) ∧
    Hid (w.heap.size ≤ bp ∧ w.heap.size ≤ bm ∧ w.heap.size ≤ q ∧ bp < w'.heap.size ∧ bm < w'.heap.size ∧ q < w'.heap.size) ∧ Hid (Up w w') ∧ Hid (∀ j, j < N → ab2 (f j) = unitF (wayOf b) S j)
theorem Fill.new' {w w' : World} {n g : Nat} (F : Nat → Option Nat × Option Nat) (hg : w.heap.size = g) (h : w'.ownsRow g 65 1 (.slice (some ⟨w.heap.size, 0, none⟩) n n) n (madeCells (Value.complex .f64 0 0).cells (n * 1)).toList) (hgr : w.grownBy w' none) : Fill w w' g n F 0 := by
  subst hg; exact Fill.new F h hgr
theorem kept_up {w w1 : World} {b1 b2 g k : Nat} {u v : Value} (h : w.cell? ⟨b1, 0, none⟩ = some u ∧ w.cell? ⟨b2, 0, none⟩ = some v ∧ (w.cell? ⟨g, k, none⟩).isSome = true ∧ w.frozen? ⟨g, k, none⟩ = false) (hu : Up w w1) :
    w1.cell? ⟨b1, 0, none⟩ = some u ∧ w1.cell? ⟨b2, 0, none⟩ = some v ∧ (w1.cell? ⟨g, k, none⟩).isSome = true ∧ w1.frozen? ⟨g, k, none⟩ = false := by
  obtain ⟨h1, h2, h3, h4⟩ := h
  obtain ⟨x, hx⟩ := Option.isSome_iff_exists.1 h3
  refine ⟨cell_up h1 hu, cell_up h2 hu, by rw [cell_up hx hu]; rfl, ?_⟩
  have e : w1.heap[g]? = w.heap[g]? := hu.block g (World.block_lt_of_cell? w _ hx)
  simp only [World.frozen?, e] at h4 ⊢
  exact h4
theorem kept_set {w : World} {b1 b2 g k : Nat} {u v x : Value} (n1 : g ≠ b1) (n2 : g ≠ b2) (h : w.cell? ⟨b1, 0, none⟩ = some u ∧ w.cell? ⟨b2, 0, none⟩ = some v ∧ (w.cell? ⟨g, k, none⟩).isSome = true ∧ w.frozen? ⟨g, k, none⟩ = false) :
    (w.setCell ⟨g, k, none⟩ x).cell? ⟨b1, 0, none⟩ = some u ∧ (w.setCell ⟨g, k, none⟩ x).cell? ⟨b2, 0, none⟩ = some v ∧ ((w.setCell ⟨g, k, none⟩ x).cell? ⟨g, k, none⟩).isSome = true ∧ (w.setCell ⟨g, k, none⟩ x).frozen? ⟨g, k, none⟩ = false := by
  obtain ⟨h1, h2, h3, h4⟩ := h
  refine ⟨by rw [World.cell?_setCell_far _ _ _ _ n1]; exact h1, by rw [World.cell?_setCell_far _ _ _ _ n2]; exact h2, ?_, by simpa using h4⟩
  rw [World.cell?_setCell_same' _ _ _ h3]; rfl
theorem units_done {w wr : World} {b : Bool} {o : Obj} {N S g bp bm : Nat} (hF : Fill (w.alloc o) wr g N (unitF (wayOf b) S) N) (hg : w.heap.size ≤ g) (hp : w.heap.size ≤ bp) (hm : w.heap.size ≤ bm) (h1 : wr.cell? ⟨bp, 0, none⟩ = some (.slice (some ⟨g, 0, none⟩) N N)) (h2 : wr.cell? ⟨bm, 0, none⟩ = some (.int .i64 S)) : UR w b N S (.returned (.func (.func 164) #[] #[.pointer (some ⟨bp, 0, none⟩), .pointer (some ⟨bm, 0, none⟩)])) wr := by
  obtain ⟨⟨d, rfl, r2, r3⟩, hu⟩ := hF
  refine ⟨bp, bm, g, fun j => d[j]!, rfl, ⟨h1, h2, fun j hj => ?_⟩, ⟨hp, hm, hg, World.block_lt_of_cell? wr _ h1, World.block_lt_of_cell? wr _ h2, (World.ownsRow.lt r2 _ rfl).2⟩, (Up.alloc _ _).trans hu, r3⟩
  rw [Nat.zero_add]; exact r2.cell hj
set_option maxHeartbeats 1000000 in
theorem t137 (b : Bool) (N S : Nat) (w : World) (hN : N ≤ 100000) (hS : S ≤ 100000) : Calls Tryz.prog 137 #[.int .i64 N, .int .i64 S, .bool b] w (UR w b N S) := by
  obtain ⟨i0, hi, hz0, hz1, hz2⟩ := info_parts info41
  cases b
  · go_enter Tryz.func137, Tryz.ntmps137
    go_wp2_with (first
      | (refine wpList_make_full _ rfl _ _ 34 rfl (w.heap.size + 1) 65 i0 (.complex .f64 0 0) 1 Tryz.underlying34 hi hz0 hz1 .i64 .i64 _ _ N rfl rfl rfl rfl (by rw [hz2]; omega) (by unfold maxLen; omega) (by simp) ?_; intro w1 hown hgr))
    have HF : Hid (Fill (w.alloc (.cells #[.int .i64 S] 3)) w1 (w.heap.size + 1) N (unitF (-1) S) 0) := Fill.new' _ (by simp) hown hgr
    clear hown hgr
    have lb : w.heap.size + 1 < w1.heap.size := by
      obtain ⟨d, _, h2, _⟩ := HF.out.row
      exact (World.ownsRow.lt h2 _ rfl).2
    have cb : w1.cell? ⟨w.heap.size, 0, none⟩ = some (.int .i64 S) := cell_up (box_cell w _ _ 0) HF.out.below
    have bb := box_cell w1 (.slice (some ⟨w.heap.size + 1, 0, none⟩) N N) 34 0
    have ba := cell_up cb (Up.alloc w1 (.cells #[.slice (some ⟨w.heap.size + 1, 0, none⟩) N N] 34))
    have bF : Hid (Fill (w.alloc (.cells #[.int .i64 S] 3)) (w1.alloc (.cells #[.slice (some ⟨w.heap.size + 1, 0, none⟩) N N] 34)) (w.heap.size + 1) N (unitF (-1) S) 0) := HF.out.up (Up.alloc _ _)
    clear HF cb
    generalize w1.heap.size = bp at *
    go_loopw [9, 15] (fun _ vi wr => ∃ k : Nat, k ≤ N ∧ vi = .int .i64 k ∧ Hid (Fill (w.alloc (.cells #[.int .i64 S] 3)) wr (w.heap.size + 1) N (unitF (-1) S) k) ∧ wr.cell? ⟨bp, 0, none⟩ = some (.slice (some ⟨w.heap.size + 1, 0, none⟩) N N) ∧ wr.cell? ⟨w.heap.size, 0, none⟩ = some (.int .i64 S)) (fun _ vi _ => N - (intOf vi).toNat)
    case atStart => exact ⟨0, by omega, rfl, bF, bb, ba⟩
    case round =>
      clear bF bb ba
      obtain ⟨k, hk, rfl, HF, h1, h2⟩ := hrel
      by_cases hlt : k < N
      · obtain ⟨⟨x0, y0, hc⟩, hf⟩ := HF.out.cell hlt
        have hs : (wr.cell? ⟨w.heap.size + 1, k, none⟩).isSome = true := by rw [hc]; rfl
        clear hc
        have hkz : (k : Int) < (N : Int) := by omega
        have hk0 : (0 : Int) ≤ (k : Int) := by omega
        have wk : IntKind.i64.wrap (-(k : Int)) = -k := i64_id (by omega)
        go_wp2_with fail
        go_region_held3 (fun w' => w'.cell? ⟨bp, 0, none⟩ = some (.slice (some ⟨w.heap.size + 1, 0, none⟩) N N) ∧ w'.cell? ⟨w.heap.size, 0, none⟩ = some (.int .i64 S) ∧ (w'.cell? ⟨w.heap.size + 1, k, none⟩).isSome = true ∧ w'.frozen? ⟨w.heap.size + 1, k, none⟩ = false)
          (first | (exact kept_up ‹_› hu) | (exact kept_set (by omega) (by omega) ‹_›) | go_keep)
          ((go_at_call 50; refine (t50 _ _ _ (by omega) (by omega)).mono ?_; rintro e w2 ⟨c, s, rfl, hc, hs, hu⟩))
        have HF2 : Hid (Fill (w.alloc (.cells #[.int .i64 S] 3)) w2 (w.heap.size + 1) N (unitF (-1) S) k) := HF.out.up (Up.trans (Up.drewN _ 1) hu)
        obtain ⟨g1, g2, _, _⟩ := ‹_ ∧ _ ∧ _ ∧ _›
        clear HF h1 h2
        go_wp2
        go_roundw
        case rel =>
          refine ⟨k + 1, by omega, by go_num, HF2.out.stored hlt ?_ ?_, g1, g2⟩ <;> (unfold unitF; rw [show (-1 : Int) * (k : Int) = -(k : Int) by omega]; first | exact hc.out | exact hs.out)
        case measure => simp [intOf]; omega
      · obtain rfl : N = k := by omega
        go_wp2
        go_ret
        exact units_done HF.out (by omega) (by omega) (by omega) h1 h2
  · go_enter Tryz.func137, Tryz.ntmps137
    go_wp2_with (first
      | (refine wpList_make_full _ rfl _ _ 34 rfl (w.heap.size + 1) 65 i0 (.complex .f64 0 0) 1 Tryz.underlying34 hi hz0 hz1 .i64 .i64 _ _ N rfl rfl rfl rfl (by rw [hz2]; omega) (by unfold maxLen; omega) (by simp) ?_; intro w1 hown hgr))
    have HF : Hid (Fill (w.alloc (.cells #[.int .i64 S] 3)) w1 (w.heap.size + 1) N (unitF (1) S) 0) := Fill.new' _ (by simp) hown hgr
    clear hown hgr
    have lb : w.heap.size + 1 < w1.heap.size := by
      obtain ⟨d, _, h2, _⟩ := HF.out.row
      exact (World.ownsRow.lt h2 _ rfl).2
    have cb : w1.cell? ⟨w.heap.size, 0, none⟩ = some (.int .i64 S) := cell_up (box_cell w _ _ 0) HF.out.below
    have bb := box_cell w1 (.slice (some ⟨w.heap.size + 1, 0, none⟩) N N) 34 0
    have ba := cell_up cb (Up.alloc w1 (.cells #[.slice (some ⟨w.heap.size + 1, 0, none⟩) N N] 34))
    have bF : Hid (Fill (w.alloc (.cells #[.int .i64 S] 3)) (w1.alloc (.cells #[.slice (some ⟨w.heap.size + 1, 0, none⟩) N N] 34)) (w.heap.size + 1) N (unitF (1) S) 0) := HF.out.up (Up.alloc _ _)
    clear HF cb
    generalize w1.heap.size = bp at *
    go_loopw [9, 15] (fun _ vi wr => ∃ k : Nat, k ≤ N ∧ vi = .int .i64 k ∧ Hid (Fill (w.alloc (.cells #[.int .i64 S] 3)) wr (w.heap.size + 1) N (unitF (1) S) k) ∧ wr.cell? ⟨bp, 0, none⟩ = some (.slice (some ⟨w.heap.size + 1, 0, none⟩) N N) ∧ wr.cell? ⟨w.heap.size, 0, none⟩ = some (.int .i64 S)) (fun _ vi _ => N - (intOf vi).toNat)
    case atStart => exact ⟨0, by omega, rfl, bF, bb, ba⟩
    case round =>
      clear bF bb ba
      obtain ⟨k, hk, rfl, HF, h1, h2⟩ := hrel
      by_cases hlt : k < N
      · obtain ⟨⟨x0, y0, hc⟩, hf⟩ := HF.out.cell hlt
        have hs : (wr.cell? ⟨w.heap.size + 1, k, none⟩).isSome = true := by rw [hc]; rfl
        clear hc
        have hkz : (k : Int) < (N : Int) := by omega
        have hk0 : (0 : Int) ≤ (k : Int) := by omega
        have wk : IntKind.i64.wrap (k : Int) = k := i64_id (by omega)
        go_wp2_with fail
        go_region_held3 (fun w' => w'.cell? ⟨bp, 0, none⟩ = some (.slice (some ⟨w.heap.size + 1, 0, none⟩) N N) ∧ w'.cell? ⟨w.heap.size, 0, none⟩ = some (.int .i64 S) ∧ (w'.cell? ⟨w.heap.size + 1, k, none⟩).isSome = true ∧ w'.frozen? ⟨w.heap.size + 1, k, none⟩ = false)
          (first | (exact kept_up ‹_› hu) | (exact kept_set (by omega) (by omega) ‹_›) | go_keep)
          ((go_at_call 50; refine (t50 _ _ _ (by omega) (by omega)).mono ?_; rintro e w2 ⟨c, s, rfl, hc, hs, hu⟩))
        have HF2 : Hid (Fill (w.alloc (.cells #[.int .i64 S] 3)) w2 (w.heap.size + 1) N (unitF (1) S) k) := HF.out.up (Up.trans (Up.drewN _ 1) hu)
        obtain ⟨g1, g2, _, _⟩ := ‹_ ∧ _ ∧ _ ∧ _›
        clear HF h1 h2
        go_wp2
        go_roundw
        case rel =>
          refine ⟨k + 1, by omega, by go_num, HF2.out.stored hlt ?_ ?_, g1, g2⟩ <;> (unfold unitF; rw [show (1 : Int) * (k : Int) = (k : Int) by omega]; first | exact hc.out | exact hs.out)
        case measure => simp [intOf]; omega
      · obtain rfl : N = k := by omega
        go_wp2
        go_ret
        exact units_done HF.out (by omega) (by omega) (by omega) h1 h2
end Go.Proofs.YtflngnnoibkkoaaGreat
/- Writing into a row of one's own, all else kept; the nth part of each number of a row. -/
namespace Go.Proofs.YtflngnnoibkkoaaGreat
open Go.ChangeShapes Go.WideShapes Go.ChangeAt Go.RowKit Go.Fl Ieee
set_option maxRecDepth 200000
set_option maxHeartbeats 8000000
attribute [local go_sem] run_store_float run_store_complex call34 call33 run_neg fold_eq fold_ne fold_lt fold_gt abs_eq

/-- But for one block nothing has turned. -/
def But (g : Nat) (w w' : World) : Prop := w.grownBy w' (some g)
theorem But.refl (g : Nat) (w : World) : But g w w := World.grownBy.refl _ _
theorem But.of_up {g : Nat} {w w' : World} (h : Up w w') : But g w w' := ⟨h.os, h.tape, h.output, h.size, fun k hk _ => h.block k hk⟩
theorem But.trans {g : Nat} {a b c : World} (h : But g a b) (k : But g b c) : But g a c := by
  obtain ⟨h1, h2, h3, h4, h5⟩ := h
  obtain ⟨k1, k2, k3, k4, k5⟩ := k
  exact ⟨k1.trans h1, k2.trans h2, k3.trans h3, Nat.le_trans h4 k4, fun j hj hn => (k5 j (Nat.lt_of_lt_of_le hj h4) hn).trans (h5 j hj hn)⟩
theorem But.cell {g : Nat} {w w' : World} {b o : Nat} {v : Value} (h : But g w w') (hb : b ≠ g) (hc : w.cell? ⟨b, o, none⟩ = some v) : w'.cell? ⟨b, o, none⟩ = some v := World.grownBy.cell h hc (by simpa using hb)
theorem But.up {g : Nat} {w0 w w' : World} (h : But g w w') (hu : Up w0 w) (hg : w0.heap.size ≤ g) : Up w0 w' := Below.grown hu h hu.size (fun k hk => by cases hk; exact hg)
theorem But.rd {g : Nat} {w w' : World} {blk off n : Nat} {f : Nat → Nat × Nat} (h : But g w w') (hb : blk ≠ g) (hR : RD w blk off n f) : RD w' blk off n f := fun j hj => h.cell hb (hR j hj)
theorem CRow.len {b g n cap : Nat} {w : World} {d : List (Nat × Nat)} (h : CRow b w (.slice (some ⟨g, 0, none⟩) n cap) d) : d.length = n := by
  obtain ⟨p, cap', he, _⟩ := own_form h
  simp only [Value.slice.injEq] at he
  exact he.2.1.symm
theorem CRow.put {b g n cap : Nat} {w : World} {d : List (Nat × Nat)} (h : CRow b w (.slice (some ⟨g, 0, none⟩) n cap) d) (k r s : Nat) :
    CRow b (w.setCell ⟨g, k, none⟩ (.complex .f64 r s)) (.slice (some ⟨g, 0, none⟩) n cap) (d.set k (r, s)) ∧ But g w (w.setCell ⟨g, k, none⟩ (.complex .f64 r s)) := by
  have hl := h.len
  subst hl
  obtain ⟨s1, s2⟩ := World.ownsRow.stored h k (.complex .f64 r s)
  refine ⟨?_, s2⟩
  unfold CRow
  rw [List.length_set, List.map_set]
  exact s1
theorem CRow.frz {b g n cap : Nat} {w : World} {d : List (Nat × Nat)} (h : CRow b w (.slice (some ⟨g, 0, none⟩) n cap) d) (i : Nat) : w.frozen? ⟨g, i, none⟩ = false := by
  have hl := h.len
  subst hl
  exact World.ownsRow.frozenAt h i
theorem set_at (d : List (Nat × Nat)) (k i : Nat) (v : Nat × Nat) (hk : k < d.length) : (d.set k v)[i]! = if i = k then v else d[i]! := by
  by_cases h : i < d.length
  · rw [getElem!_pos _ i (by simpa using h), List.getElem_set, getElem!_pos d i h]
    by_cases e : k = i
    · simp [e]
    · simp [e, Ne.symm e]
  · rw [if_neg (by omega), getElem!_neg _ i (by simpa using h), getElem!_neg d i h]
/-- A number's nth part, part by part. -/
def divF (n : Nat) (p : Option Nat × Option Nat) : Option Nat × Option Nat := (bin .quo p.1 (ab (floatOfInt .f64 n)), bin .quo p.2 (ab (floatOfInt .f64 n)))
/-- What a call leaves that writes a row of one's own anew. -/
def WR (b g n cap : Nat) (L : List (Option Nat × Option Nat)) (w : World) (e : Ending) (w' : World) : Prop :=
  ∃ d, e = .returned (.tuple #[]) ∧ Hid (CRow b w' (.slice (some ⟨g, 0, none⟩) n cap) d) ∧ Hid (But g w w') ∧ Hid (d.map ab2 = L)
theorem ab2_at {d : List (Nat × Nat)} {i : Nat} (hi : i < d.length) : (d.map ab2)[i]? = some (ab2 d[i]!) := by
  rw [List.getElem?_map, List.getElem?_eq_getElem hi, getElem!_pos d i hi]; rfl
set_option maxHeartbeats 1000000 in
theorem t139 {b g n cap : Nat} {w : World} {d : List (Nat × Nat)} (h : CRow b w (.slice (some ⟨g, 0, none⟩) n cap) d) (hd : d.length = n) (hn : n ≤ 100000) : Calls Tryz.prog 139 #[.slice (some ⟨g, 0, none⟩) n cap] w (WR b g n cap ((d.map ab2).map (divF n)) w) := by
  have HR : Hid (CRow b w (.slice (some ⟨g, 0, none⟩) n cap) d) := h
  have HD : Hid (d.length = n) := hd
  clear h hd
  go_enter Tryz.func139, Tryz.ntmps139
  go_wp2
  go_loopw [3, 4, 10] (fun _ _ vi wr => ∃ (k : Nat) (dk : List (Nat × Nat)), k ≤ n ∧ vi = .int .i64 k ∧ Hid (CRow b wr (.slice (some ⟨g, 0, none⟩) n cap) dk) ∧ Hid (But g w wr) ∧ Hid (dk.length = n ∧ (∀ i, i < k → ab2 dk[i]! = divF n (ab2 d[i]!)) ∧ ∀ i, k ≤ i → dk[i]! = d[i]!)) (fun _ _ vi _ => n - (intOf vi).toNat)
  case atStart => exact ⟨0, d, by omega, rfl, HR, But.refl _ _, HD.out, fun i hi => by omega, fun _ _ => rfl⟩
  case round =>
    clear HR
    obtain ⟨k, dk, hk, rfl, HK, HB, HE⟩ := hrel
    by_cases hlt : k < n
    · have hkd : k < dk.length := by rw [HE.out.1]; exact hlt
      obtain ⟨x, y, HX, hc⟩ : ∃ x y, Hid (dk[k]! = (x, y)) ∧ wr.cell? ⟨g, k, none⟩ = some (.complex .f64 x y) := ⟨_, _, rfl, HK.out.cell hkd⟩
      have hf := HK.out.frz k
      have hkz : (k : Int) < (n : Int) := by omega
      go_wp2_with (first | ((with_reducible refine upon_fl (by simp) ?_); intro q m hq; have HQ : Hid (_ = bin .quo _ _) := hq; clear hq))
      go_roundw
      case rel =>
        rename_i q1 m1 H1
        obtain ⟨r1, r2⟩ := CRow.put (HK.out.up (Up.drewN _ (m1 + m))) k q1 q
        refine ⟨k + 1, _, by omega, by go_num, r1, (HB.out.trans (But.of_up (Up.drewN _ (m1 + m)))).trans r2, by simp [HE.out.1], fun i hi => ?_, fun i hi => ?_⟩
        · rw [set_at _ _ _ _ hkd]
          by_cases e : i = k
          · subst e
            rw [if_pos rfl, ← HE.out.2.2 i (Nat.le_refl _), HX.out]
            exact Prod.ext H1.out HQ.out
          · rw [if_neg e]; exact HE.out.2.1 i (by omega)
        · rw [set_at _ _ _ _ hkd, if_neg (by omega)]; exact HE.out.2.2 i (by omega)
      case measure => simp [intOf]; omega
    · obtain rfl : n = k := by omega
      go_wp2
      go_end0
      refine ⟨dk, rfl, HK, HB, List.ext_getElem? fun i => ?_⟩
      have hl := HE.out.1
      have hl' := HD.out
      by_cases hi : i < n
      · rw [ab2_at (by omega), HE.out.2.1 i hi, List.getElem?_map, ab2_at (by omega)]; rfl
      · rw [List.getElem?_eq_none (by simp; omega), List.getElem?_eq_none (by simp; omega)]
end Go.Proofs.YtflngnnoibkkoaaGreat
/- The halves of a row of samples. -/
namespace Go.Proofs.YtflngnnoibkkoaaGreat
open Go.ChangeShapes Go.WideShapes Go.ChangeAt Go.RowKit Go.Fl Ieee
set_option maxRecDepth 200000
set_option maxHeartbeats 8000000
theorem isSome_set {w : World} {a b : Addr} {v : Value} (h : (w.cell? b).isSome = true) : ((w.setCell a v).cell? b).isSome = true := by
  obtain ⟨u, hu⟩ := Option.isSome_iff_exists.1 h
  by_cases e : a = b
  · subst e; rw [World.cell?_setCell_same' _ _ _ h]; rfl
  · rw [World.cell?_setCell_other _ _ _ _ e, hu]; rfl
attribute [local go_sem] run_store_float run_store_c isSome_set call34 call33 run_neg fold_eq fold_ne fold_lt fold_gt abs_eq

/-- The difference of two complex numbers: part by part. -/
theorem run_csub {P : Program} (t : TypeId) (a b c d : Nat) (w : World) :
    ∃ r i n, (binOp .sub t (.complex .f64 a b) (.complex .f64 c d)).run P w = .ok (.complex .f64 r i) (w.drewN n) ∧ ab r = bin .sub (ab a) (ab c) ∧ ab i = bin .sub (ab b) (ab d) := by
  obtain ⟨r, n, e1, h1⟩ := run_fl (P := P) .sub t a c w (by simp)
  obtain ⟨i, m, e2, h2⟩ := run_fl (P := P) .sub t b d (w.drewN n) (by simp)
  have f1 : (Op.floatArith .sub .f64 a c).run P w = .ok (.float .f64 r) (w.drewN n) := e1
  have f2 : (Op.floatArith .sub .f64 b d).run P (w.drewN n) = .ok (.float .f64 i) ((w.drewN n).drewN m) := e2
  refine ⟨r, i, n + m, ?_, h1, h2⟩
  rw [World.drewN_drewN] at f2
  simp [binOp, Op.complexOp, Op.Complex.arith, f1, f2]
theorem upon_csub {P : Program} {o : Oper} {a : Act} {next : Act → World → Prop} {Q : Exit → Act → World → Prop} {t : TypeId} {x y x' y' : Nat} {w : World}
    {F : Value → World → Result Next} (hk : ∀ r i n, Hid (ab r = bin .sub (ab x) (ab x')) → Hid (ab i = bin .sub (ab y) (ab y')) → o.upon P a next Q (F (.complex .f64 r i) (w.drewN n))) :
    o.upon P a next Q (((binOp .sub t (.complex .f64 x y) (.complex .f64 x' y')).run P w).andThen F) := by
  obtain ⟨r, i, n, e, h1, h2⟩ := run_csub (P := P) t x y x' y' w
  rw [e]
  exact hk r i n h1 h2

/-- Complex numbers, all NaN being one. -/
abbrev C2 := Option Nat × Option Nat
def mulC (a b : C2) : C2 := (mulR a.1 a.2 b.1 b.2, mulI a.1 a.2 b.1 b.2)
def addC (a b : C2) : C2 := (bin .add a.1 b.1, bin .add a.2 b.2)
def subC (a b : C2) : C2 := (bin .sub a.1 b.1, bin .sub a.2 b.2)
/-- The halves of 2^m samples; U tells the unit for j and the level's m. -/
def hv (U : Nat → Nat → C2) : Nat → (Nat → C2) → Nat → C2
  | 0, F, _ => F 0
  | m + 1, F, j =>
    if j < 2 ^ m then addC (hv U m (fun i => F (2 * i)) j) (mulC (hv U m (fun i => F (2 * i + 1)) j) (U j (m + 1)))
    else subC (hv U m (fun i => F (2 * i)) (j - 2 ^ m)) (mulC (hv U m (fun i => F (2 * i + 1)) (j - 2 ^ m)) (U (j - 2 ^ m) (m + 1)))
/-- What halves leaves: the row's stretch from off on is told anew, all else in it is as it was. -/
def HR (b g D cap off n : Nat) (G : Nat → C2) (d : List (Nat × Nat)) (w : World) (e : Ending) (w' : World) : Prop :=
  ∃ d', e = .returned (.tuple #[]) ∧ Hid (CRow b w' (.slice (some ⟨g, 0, none⟩) D cap) d') ∧ Hid (But g w w') ∧ Hid ((∀ i, i < n → ab2 d'[off + i]! = G i) ∧ ∀ i, (i < off ∨ off + n ≤ i) → d'[i]! = d[i]!)
/-- The closure of units, away from a block. -/
def UnitsAt (g : Nat) (w : World) (bp bm q N S : Nat) (f : Nat → Nat × Nat) : Prop := bp ≠ g ∧ bm ≠ g ∧ q ≠ g ∧ w.cell? ⟨bp, 0, none⟩ = some (.slice (some ⟨q, 0, none⟩) N N) ∧ w.cell? ⟨bm, 0, none⟩ = some (.int .i64 S) ∧ RD w q 0 N f
theorem UnitsAt.but {g : Nat} {w w' : World} {bp bm q N S : Nat} {f : Nat → Nat × Nat} (h : UnitsAt g w bp bm q N S f) (hb : But g w w') : UnitsAt g w' bp bm q N S f := by
  obtain ⟨n1, n2, n3, h1, h2, h3⟩ := h
  exact ⟨n1, n2, n3, hb.cell n1 h1, hb.cell n2 h2, hb.rd n3 h3⟩
theorem UnitsAt.units {g : Nat} {w : World} {bp bm q N S : Nat} {f : Nat → Nat × Nat} (h : UnitsAt g w bp bm q N S f) : Units w #[.pointer (some ⟨bp, 0, none⟩), .pointer (some ⟨bm, 0, none⟩)] N S f := ⟨bp, bm, q, rfl, h.2.2.2⟩
theorem Up.drew (w : World) : Up w w.drew := Up.drewN w 1
end Go.Proofs.YtflngnnoibkkoaaGreat
/- Fast. -/
namespace Go.Proofs.YtflngnnoibkkoaaGreat
open Go.ChangeShapes Go.WideShapes Go.ChangeAt Go.RowKit Go.Fl Ieee
set_option maxRecDepth 200000
set_option maxHeartbeats 8000000
attribute [local go_sem] run_store_float run_store_complex call34 call33 run_neg fold_eq fold_ne fold_lt fold_gt abs_eq

theorem CRow.made {w w1 : World} {n g : Nat} (hg : w.heap.size = g) (hown : w1.ownsRow w.heap.size 65 1 (.slice (some ⟨w.heap.size, 0, none⟩) n n) n (madeCells (Value.complex .f64 0 0).cells (n * 1)).toList) (hgr : w.grownBy w1 none) : CRow g w1 (.slice (some ⟨g, 0, none⟩) n n) (List.replicate n (0, 0)) ∧ Up w w1 := by
  subst hg
  refine ⟨?_, Below.grown (Below.refl _ _) hgr (Nat.le_refl _) (fun j hj => by cases hj)⟩
  unfold CRow
  have e : (madeCells (Value.complex .f64 0 0).cells (n * 1)).toList = List.replicate n (.complex .f64 0 0) := by
    rw [Nat.mul_one]; exact toList_madeCells_one _ _
  rw [e] at hown
  simpa [ce] using hown
end Go.Proofs.YtflngnnoibkkoaaGreat
