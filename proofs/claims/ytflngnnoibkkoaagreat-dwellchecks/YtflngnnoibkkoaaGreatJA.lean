/- The leaves: math's small functions, the order's, the reference's. -/
import Derived.Test.YtflngnnoibkkoaaGreatRows
import Derived.Test.YtflngnnoibkkoaaGreatM
import Derived.OpenShut
import Derived.Sort.Row
import Derived.Sort.LotA
import Derived.Deep.LoopGhost
import Derived.Deep.QuietTactic
import Derived.BigQuiet
import Derived.BigRegion
import Derived.WalkKit
import Derived.Deep.WholeRow
import Derived.Laws.CopyOwn
import Derived.Laws.Cover3
import Derived.Test.YtflngnnoibkkoaaGreatEd
import Derived.Deep.RegionHeld3
import Derived.Deep.CutRange
import Derived.Sort.Grow
import Derived.Deep.AppendLies
import Derived.Maps.AppendAt
import Derived.StillTailTactics
import Derived.Laws.Rows
namespace Go.Proofs.YtflngnnoibkkoaaGreat.Pl
open Go.ChangeShapes Go.WideShapes Go.ChangeAt Go.RowKit Go.Fl
set_option maxRecDepth 200000
set_option maxHeartbeats 8000000

theorem call34 (x : Nat) (w : World) : (callFunc 34 #[.float .f64 x]).run Tryz.prog w = .ok (.value (.int .u64 x)) w := by
  rw [run_callFunc_extern Tryz.func34 (by kernel_rfl) (by kernel_rfl) (by kernel_rfl) (e := Extern.MathFloatBits.float64bits) (by kernel_rfl)]; rfl
theorem call33 (x : Int) (w : World) : (callFunc 33 #[.int .u64 x]).run Tryz.prog w = .ok (.value (.float .f64 x.toNat)) w := by
  rw [run_callFunc_extern Tryz.func33 (by kernel_rfl) (by kernel_rfl) (by kernel_rfl) (e := Extern.MathFloatBits.float64frombits) (by kernel_rfl)]; rfl
attribute [local go_sem] call34 call33 run_neg fold_eq fold_ne fold_lt fold_gt abs_eq

theorem t14 (x : Nat) (w : World) : Calls Tryz.prog 14 #[.float .f64 x] w fun e w' => e = .returned (.float .f64 (abs x)) ∧ w' = w := by
  go_enter Tryz.func14, Tryz.ntmps14
  go_wp2
  go_ret
  exact ⟨rfl, rfl⟩
theorem t51 (x : Nat) (w : World) : Calls Tryz.prog 51 #[.float .f64 x] w fun e w' => e = .returned (.bool (isN x)) ∧ w' = w := by
  go_enter Tryz.func51, Tryz.ntmps51
  go_wp2
  go_ret
  exact ⟨by rw [eqF_self]; simp, rfl⟩
theorem t52 (x : Nat) (w : World) : Calls Tryz.prog 52 #[.float .f64 x, .int .i64 0] w fun e w' => e = .returned (.bool (gtF ((ab x).map abs) (ab 9218868437227405311))) ∧ w' = w := by
  go_enter Tryz.func52, Tryz.ntmps52
  go_wp2_with (go_at_call 14; refine (t14 _ _).mono ?_; rintro e w' ⟨rfl, rfl⟩)
  go_ret
  exact ⟨by rw [← ab_abs]; rfl, rfl⟩
theorem top_and (x : Nat) : x &&& 2 ^ 63 = if x.testBit 63 then 2 ^ 63 else 0 := by
  apply Nat.eq_of_testBit_eq
  intro i
  rw [Nat.testBit_and, Nat.testBit_two_pow]
  by_cases hi : 63 = i
  · subst hi
    cases hb : x.testBit 63
    · rfl
    · rfl
  · cases hb : x.testBit 63
    · simp [hi]
    · rw [if_pos rfl, Nat.testBit_two_pow]; simp [hi]
theorem top_bit (x : Nat) (h : x < 2 ^ 64) : x.testBit 63 = decide (2 ^ 63 ≤ x) := by
  rw [Nat.testBit_eq_decide_div_mod_eq]
  by_cases hc : 2 ^ 63 ≤ x
  · have e : x / 2 ^ 63 % 2 = 1 := by omega
    rw [e]; exact (decide_eq_true hc).symm
  · have e : x / 2 ^ 63 % 2 = 0 := by omega
    rw [e]; exact (decide_eq_false hc).symm
theorem and_top (x : Nat) (h : x < 2 ^ 64) : bits BinOp.and IntKind.u64 (x : Int) 9223372036854775808 = if x < 2 ^ 63 then 0 else 9223372036854775808 := by
  show IntKind.u64.wrap ((BitVec.ofInt 64 (x : Int) &&& BitVec.ofInt 64 ((9223372036854775808 : Nat) : Int)).toNat : Int) = _
  rw [BitVec.toNat_and, BitVec.ofInt_natCast, BitVec.ofInt_natCast, BitVec.toNat_ofNat, BitVec.toNat_ofNat, IntKind.wrap_u64]
  have e1 : x % 2 ^ 64 = x := by omega
  have e2 : (9223372036854775808 : Nat) % 2 ^ 64 = 2 ^ 63 := by omega
  rw [e1, e2, top_and, top_bit x h]
  by_cases hc : 2 ^ 63 ≤ x
  · rw [if_neg (by omega : ¬ x < 2 ^ 63), if_pos (decide_eq_true hc)]; rfl
  · rw [if_pos (by omega : x < 2 ^ 63), if_neg (by simp; omega)]; rfl
theorem xor_top (x : Nat) (h : x < 2 ^ 64) : bits BinOp.xor IntKind.u64 IntKind.u64.max (x : Int) = ((2 ^ 64 - 1 - x : Nat) : Int) := by
  show IntKind.u64.wrap ((BitVec.ofInt 64 ((18446744073709551615 : Nat) : Int) ^^^ BitVec.ofInt 64 (x : Int)).toNat : Int) = _
  rw [BitVec.ofInt_natCast, BitVec.ofInt_natCast, show BitVec.ofNat 64 18446744073709551615 = BitVec.allOnes 64 from rfl, BitVec.allOnes_xor, BitVec.toNat_not, BitVec.toNat_ofNat, IntKind.wrap_u64]
  omega
theorem or_top (x : Nat) (h : x < 2 ^ 63) : bits BinOp.or IntKind.u64 (x : Int) 9223372036854775808 = ((x + 2 ^ 63 : Nat) : Int) := by
  show IntKind.u64.wrap ((BitVec.ofInt 64 (x : Int) ||| BitVec.ofInt 64 ((9223372036854775808 : Nat) : Int)).toNat : Int) = _
  rw [BitVec.toNat_or, BitVec.ofInt_natCast, BitVec.ofInt_natCast, BitVec.toNat_ofNat, BitVec.toNat_ofNat, IntKind.wrap_u64]
  have e1 : x % 2 ^ 64 = x := by omega
  have e2 : (9223372036854775808 : Nat) % 2 ^ 64 = 2 ^ 63 * 1 := by omega
  rw [e1, e2, Nat.or_comm, ← Nat.two_pow_add_eq_or_of_lt h]
  omega

end Go.Proofs.YtflngnnoibkkoaaGreat.Pl
/- Rows of floats. -/
namespace Go.Proofs.YtflngnnoibkkoaaGreat.Pl
open Go.ChangeShapes Go.WideShapes Go.ChangeAt Go.RowKit Go.Fl Go.Sort
set_option maxRecDepth 200000
set_option maxHeartbeats 8000000
attribute [local go_sem] run_store_float call34 run_neg fold_eq fold_ne fold_lt fold_gt abs_eq

/-- Every float of the row is one of 64 bits. -/
def Fit (d : Array Nat) : Prop := ∀ i, i < d.size → d[i]! < 2 ^ 64
end Go.Proofs.YtflngnnoibkkoaaGreat.Pl
/- What was there is kept; slices of floats; rows of one's own. -/
namespace Go.Proofs.YtflngnnoibkkoaaGreat.Pl
open Go.ChangeShapes Go.WideShapes Go.ChangeAt Go.RowKit Go.Fl Go.Sort
set_option maxRecDepth 200000
set_option maxHeartbeats 8000000
attribute [local go_sem] run_store_float call34 run_neg fold_eq fold_ne fold_lt fold_gt abs_eq

/-- Of what was there nothing has turned. -/
def Up (w w' : World) : Prop := RowKit.Below w.heap.size w w'
theorem Up.trans {a b c : World} (h : Up a b) (k : Up b c) : Up a c := RowKit.Below.trans h (RowKit.Below.mono k (RowKit.Below.size h))
theorem Up.drewN (w : World) (n : Nat) : Up w (w.drewN n) := below_drewN (Below.refl _ _) n
theorem Up.alloc (w : World) (o : Obj) : Up w (w.alloc o) := (Below.refl _ _).alloc (Nat.le_refl _) _
theorem eql_nil (a : Option Addr) (l c : Nat) (w : World) : (binOp .eql 47 (.slice a l c) (.slice none 0 0)).run Tryz.prog w = .ok (.bool a.isNone) w := by
  have h := run_equal_slice_nil (P := Tryz.prog) w 47 22 a l c Tryz.underlying47
  simp [binOp, h]
attribute [local go_sem] eql_nil
end Go.Proofs.YtflngnnoibkkoaaGreat.Pl
/- Sums of floats, the first alone. -/
namespace Go.Proofs.YtflngnnoibkkoaaGreat.Pl
open Go.ChangeShapes Go.WideShapes Go.ChangeAt Go.RowKit Go.Fl Go.Sort
set_option maxRecDepth 200000
set_option maxHeartbeats 8000000
attribute [local go_sem] run_store_float run_store_complex call34 run_neg fold_eq fold_ne fold_lt fold_gt abs_eq

theorem enters {f : FuncId} {fn : Func} (hf : Tryz.prog.funcs[f]? = some fn) (hn : (fn.name == "runtime.NumGoroutine") = false) (hb : fn.body.isSome = true) (args : Array Value) (w : World) : (callFunc f args).run Tryz.prog w = .ok (.enter f args) w := by
  have h1 : fn.name ≠ "runtime.NumGoroutine" := by simpa using hn
  obtain ⟨c, hc⟩ := Option.isSome_iff_exists.1 hb
  simp [callFunc, hf, h1, hc]
end Go.Proofs.YtflngnnoibkkoaaGreat.Pl
/- The order of plots, without the program: a plot's rank as one number; places in order. -/
namespace Go.Proofs.YtflngnnoibkkoaaGreat.Pl
open Go.Fl
set_option maxRecDepth 200000
set_option maxHeartbeats 8000000

/-- A plot by its floats' bits: Range, Speed, Power, Bearing, Time. -/
structure Plt where
  r : Nat
  s : Nat
  p : Nat
  b : Nat
  t : Nat
def Plt.zero : Plt := ⟨0, 0, 0, 0, 0⟩
structure Plt.Fit (q : Plt) : Prop where
  r : q.r < 2 ^ 64
  s : q.s < 2 ^ 64
  p : q.p < 2 ^ 64
  b : q.b < 2 ^ 64
  t : q.t < 2 ^ 64
/-- Where a Power stands: the greater one ahead, NaN last. -/
def fall (x : Nat) : Nat := if isN x then 2 ^ 64 - 1 else 2 ^ 64 - 1 - key x
def cmpN (a b : Nat) : Int := if a < b then -1 else if b < a then 1 else 0
def orI (x y : Int) : Int := if x ≠ 0 then x else y
theorem cmpN_pair {a b c d : Nat} (hc : c < 2 ^ 64) (hd : d < 2 ^ 64) : orI (cmpN a b) (cmpN c d) = cmpN (a * 2 ^ 64 + c) (b * 2 ^ 64 + d) := by
  unfold orI cmpN
  repeat' split
  all_goals first | rfl | omega
theorem orI_assoc (x y z : Int) : orI (orI x y) z = orI x (orI y z) := by
  unfold orI
  repeat' split
  all_goals first | rfl | omega
/-- The five numbers of a plot's rank as one. -/
def rk (p : Plt) : Nat := (((fall p.p * 2 ^ 64 + key p.r) * 2 ^ 64 + key p.s) * 2 ^ 64 + key p.b) * 2 ^ 64 + key p.t
/-- How two plots stand to each other. -/
def cmp5 (p q : Plt) : Int := orI (cmpN (fall p.p) (fall q.p)) (orI (cmpN (key p.r) (key q.r)) (orI (cmpN (key p.s) (key q.s)) (orI (cmpN (key p.b) (key q.b)) (cmpN (key p.t) (key q.t)))))
theorem cmp5_rk {p q : Plt} (hp : p.Fit) (hq : q.Fit) : cmp5 p q = cmpN (rk p) (rk q) := by
  unfold cmp5 rk
  rw [← cmpN_pair (key_lt hp.t) (key_lt hq.t), ← cmpN_pair (key_lt hp.b) (key_lt hq.b), ← cmpN_pair (key_lt hp.s) (key_lt hq.s), ← cmpN_pair (key_lt hp.r) (key_lt hq.r)]
  simp only [orI_assoc]
/-- Where the plot at a place stands. -/
def kAt (P : Nat → Plt) (i : Nat) : Nat := rk (P i) * 2 ^ 64 + i
theorem kAt_inj {P : Nat → Plt} {i j : Nat} (hi : i < 2 ^ 64) (hj : j < 2 ^ 64) (h : kAt P i = kAt P j) : i = j := by
  unfold kAt at h
  omega
theorem cmp_at {P : Nat → Plt} {i j : Nat} (hp : (P i).Fit) (hq : (P j).Fit) (hi : i < 2 ^ 64) (hj : j < 2 ^ 64) : orI (cmp5 (P i) (P j)) (cmpN i j) = cmpN (kAt P i) (kAt P j) := by
  rw [cmp5_rk hp hq, cmpN_pair hi hj]
  rfl
/-- The places of n plots, in order. -/
structure InOrd (P : Nat → Plt) (n : Nat) (o : List Nat) : Prop where
  perm : o.Perm (List.range n)
  sorted : o.Pairwise fun i j => kAt P i < kAt P j
theorem InOrd.nil (P : Nat → Plt) : InOrd P 0 [] := ⟨by simp, by simp⟩
end Go.Proofs.YtflngnnoibkkoaaGreat.Pl
/- The order of cells; the leaves of it. -/
namespace Go.Proofs.YtflngnnoibkkoaaGreat.Pl
open Go.ChangeShapes Go.WideShapes Go.ChangeAt Go.RowKit Go.Fl Go.Sort
set_option maxRecDepth 200000
set_option maxHeartbeats 8000000
attribute [local go_sem] run_store_float run_neg fold_eq fold_ne fold_lt fold_gt abs_eq

/-- Nothing has turned; blocks may have been laid, answers drawn. -/
def Gr (w w' : World) : Prop := ∃ q os, w' = grow (w.drewN q) os
theorem Gr.refl (w : World) : Gr w w := ⟨0, #[], by rw [grow_empty]; rfl⟩
theorem Gr.drewN (w : World) (n : Nat) : Gr w (w.drewN n) := ⟨n, #[], by rw [grow_empty]⟩
theorem Gr.alloc (w : World) (o : Obj) : Gr w (w.alloc o) := ⟨0, #[o], alloc_eq_grow w o⟩
theorem Gr.trans {a b c : World} (h : Gr a b) (k : Gr b c) : Gr a c := by
  obtain ⟨q, os, rfl⟩ := h
  obtain ⟨q', os', rfl⟩ := k
  exact ⟨q + q', os ++ os', by rw [← grow_grow, ← World.drewN_drewN]; rfl⟩
theorem Gr.up {w w' : World} (h : Gr w w') : Up w w' := by
  obtain ⟨q, os, rfl⟩ := h
  exact ⟨rfl, rfl, rfl, by rw [size_grow]; exact Nat.le_add_right _ _, fun k hk => heap_grow_old _ os (by exact hk)⟩
/-- The order of two numbers: -1, 0, 1. -/
def cmpI (a b : Int) : Int := if a < b then -1 else if b < a then 1 else 0
theorem t207 (a : Int) (w : World) : Calls Tryz.prog 204 #[.int .i64 a] w fun e w' => e = .returned (.bool false) ∧ w' = w := by
  go_enter Tryz.func204, Tryz.ntmps204
  go_wp2
  go_ret
  exact ⟨by simp, rfl⟩
theorem t202 (a b : Int) (w : World) : Calls Tryz.prog 187 #[.int .i64 a, .int .i64 b] w fun e w' => e = .returned (.int .i64 (cmpI a b)) ∧ w' = w := by
  go_enter Tryz.func187, Tryz.ntmps187
  go_wp2_with (go_at_call 204; (with_reducible refine (t207 _ _).mono ?_); rintro e w' ⟨rfl, hw⟩; subst w')
  all_goals (go_ret; go_tidy; refine ⟨?_, rfl⟩; unfold cmpI)
  · rw [if_pos (by omega)]; rfl
  · rw [if_neg (by omega), if_pos (by omega)]; rfl
  · rw [if_neg (by omega), if_neg (by omega)]; rfl
/-- The first of two numbers that is not 0. -/
theorem t203 {w : World} {g : Nat} {x y : Int} {cap : Nat} (h0 : w.cell? ⟨g, 0, none⟩ = some (.int .i64 x)) (h1 : w.cell? ⟨g, 1, none⟩ = some (.int .i64 y)) : Calls Tryz.prog 186 #[.slice (some ⟨g, 0, none⟩) 2 cap] w fun e w' => e = .returned (.int .i64 (if x ≠ 0 then x else y)) ∧ w' = w := by
  go_enter Tryz.func186, Tryz.ntmps186
  go_wp2
  go_loopw [5, 8] (fun _ vi wr => ∃ i : Nat, i ≤ 2 ∧ vi = .int .i64 i ∧ Hid (wr = w ∧ (1 ≤ i → x = 0) ∧ (2 ≤ i → y = 0))) (fun _ vi _ => 2 - (intOf vi).toNat)
  case atStart => exact ⟨0, by omega, rfl, rfl, by omega, by omega⟩
  case round =>
    obtain ⟨i, hi, rfl, hw⟩ := hrel
    rename World => wr
    obtain ⟨hw, H1, H2⟩ := hw.out
    subst hw
    obtain rfl | rfl | rfl : i = 0 ∨ i = 1 ∨ i = 2 := by omega
    · clear H1 H2
      by_cases hx : x = 0
      · have HX : Hid (x = 0) := hx
        have b0 : (x == 0) = true := by simp [hx]
        clear hx
        go_wp2
        go_roundw
        case rel => exact ⟨1, by omega, by go_num, by first | trivial | rfl, fun _ => HX.out, by omega⟩
        case measure => simp [intOf]
      · have b0 : (x == 0) = false := by simp [hx]
        have HX : Hid (x ≠ 0) := hx
        clear hx
        go_wp2
        go_ret
        exact ⟨by first | rfl | (rw [if_pos HX.out]; rfl), rfl⟩
    · have HX : Hid (x = 0) := H1 (by omega)
      clear H1 H2
      by_cases hy : y = 0
      · have HY : Hid (y = 0) := hy
        have b0 : (y == 0) = true := by simp [hy]
        clear hy
        go_wp2
        go_roundw
        case rel => exact ⟨2, by omega, by go_num, by first | trivial | rfl, fun _ => HX.out, fun _ => HY.out⟩
        case measure => simp [intOf]
      · have b0 : (y == 0) = false := by simp [hy]
        clear hy
        go_wp2
        go_ret
        exact ⟨by first | rfl | (rw [if_neg (by simp [HX.out])]; rfl), rfl⟩
    · have HX : Hid (x = 0) := H1 (by omega)
      have HY : Hid (y = 0) := H2 (by omega)
      clear H1 H2
      go_wp2
      go_ret
      exact ⟨by first | rfl | (rw [if_neg (by simp [HX.out]), HY.out]; rfl) | (rw [HY.out]; rfl), rfl⟩
theorem two_cells (w : World) (a b : Value) (t : TypeId) : (w.alloc (.cells #[a, b] t)).cell? ⟨w.heap.size, 0, none⟩ = some a ∧ (w.alloc (.cells #[a, b] t)).cell? ⟨w.heap.size, 1, none⟩ = some b := by
  constructor <;> rw [World.cell?_alloc_at _ _ _ _ rfl] <;> rfl
theorem cell_up {w w' : World} {b k : Nat} {v : Value} (h : w.cell? ⟨b, k, none⟩ = some v) (hu : Up w w') : w'.cell? ⟨b, k, none⟩ = some v := by
  obtain ⟨c, e, fr, hb, _⟩ := cells_of_cell? h
  rw [RowKit.Below.cell hu (Array.getElem?_eq_some_iff.1 hb).1]; exact h
end Go.Proofs.YtflngnnoibkkoaaGreat.Pl
/- Rows beside each other; drawn regions. -/
namespace Go.Proofs.YtflngnnoibkkoaaGreat.Pl
open Go.ChangeShapes Go.WideShapes Go.ChangeAt Go.RowKit Go.Fl Go.Sort
set_option maxRecDepth 200000
set_option maxHeartbeats 8000000

/-- A call whose guard is met, in a region whose order is drawn. -/
theorem wpOp_callG {P : Program} {ops : Array Oper} {Q : Exit → Act → World → Prop} {K : Act → World → Prop} {a : Act} {w : World} {m f : Nat} {o : Oper} {args : Array Operand} {tys : Array TypeId} (d : Option Tmp) (ho : ops[m]? = some o) (hd : o.dst = d) (hw : Region.wanted o (yielded ops a.tmps) = true) (hop : o.op = .call { callee := .value (.func f), args := args, argTypes := tys }) (vs : Array Value) (hvs : args.map a.eval = vs) (hen : (callFunc f vs).run P w = .ok (.enter f vs) w)
    (h : Calls P f vs w (fun e w' => ∃ v, e = .returned v ∧ K (a.put d v) w')) : wpOp P ops Q m K a w := by
  subst hd
  unfold wpOp
  simp only [ho, hw, if_true]
  left
  unfold Oper.wp
  simp [execOp, hop, resolve, invoke, Act.eval, Oper.upon, Deferred.ofValue, hvs, hen]
  refine h.mono ?_
  rintro e w' ⟨v, rfl, hk⟩
  exact hk
/-- A region in an order of one's own, shut: what is behind is not looked into. -/
structure OrdS (P : Program) (ops : Array Oper) (Q : Exit → Act → World → Prop) (S0 : World → Prop) (K : Act → World → Prop) (l : List (Nat × Option Bool)) (a : Act) (w : World) : Prop where
  out : OrdW P ops Q S0 K l a w
theorem OrdS.reads {P : Program} {ops : Array Oper} {Q : Exit → Act → World → Prop} {S0 : World → Prop} {K : Act → World → Prop} {i : Nat} {l : List (Nat × Option Bool)} {a : Act} {w : World} (v : Value) (d : Option Tmp) (o : Oper) (h0 : ops[i]? = some o) (h1 : o.dst = d) (h2 : YieldsIf P ops S0 o v a) (h3 : OrdS P ops Q S0 K l (a.put d v) w) : OrdS P ops Q S0 K ((i, some false) :: l) a w := ⟨⟨o, v, d, h0, h1, h2, h3.out⟩⟩
theorem OrdS.looks {P : Program} {ops : Array Oper} {Q : Exit → Act → World → Prop} {S0 : World → Prop} {K : Act → World → Prop} {i : Nat} {l : List (Nat × Option Bool)} {a : Act} {w : World} (v : Value) (d : Option Tmp) (o : Oper) (h0 : ops[i]? = some o) (h1 : o.dst = d) (h2 : YieldsIf P ops (fun _ => True) o v a) (h3 : OrdS P ops Q S0 K l (a.put d v) w) : OrdS P ops Q S0 K ((i, none) :: l) a w := ⟨⟨o, v, d, h0, h1, h2, h3.out⟩⟩
theorem OrdS.does {P : Program} {ops : Array Oper} {Q : Exit → Act → World → Prop} {S0 : World → Prop} {K : Act → World → Prop} {i : Nat} {l : List (Nat × Option Bool)} {a : Act} {w : World} (h : wpOp P ops Q i (fun a' w' => S0 w' ∧ OrdS P ops Q S0 K l a' w') a w) : OrdS P ops Q S0 K ((i, some true) :: l) a w := ⟨wpOp_mono (fun _ _ k => ⟨k.1, k.2.out⟩) h⟩
theorem OrdS.ends {P : Program} {ops : Array Oper} {Q : Exit → Act → World → Prop} {S0 : World → Prop} {K : Act → World → Prop} {a : Act} {w : World} (h : K a w) : OrdS P ops Q S0 K [] a w := ⟨h⟩
theorem wp_region_shut {P : Program} {id : Nat} {Q : Exit → Act → World → Prop} {a : Act} {w : World} {l : List Oper} (n : Nat) (ord : List (Nat × Option Bool)) (S0 : World → Prop) (hm : P.follows .mixedOrders = true) (hlen : n < l.length) (hord : ord.length = n) (hB : regB l.toArray n (l.length - n) ord = true) (hQ : ∀ c a d v w, Q (.panic c) (a.put d v) w → Q (.panic c) a w)
    (hS : S0 w.drew) (h : OrdS P l.toArray Q S0 (fun a' w' => wpList P l.toArray Q (l.drop n) a' w') ord a w.drew) : (Code.region id l.toArray true).wp P Q a w := wp_region_ord n ord S0 hm hlen hord hB hQ hS h.out
theorem Up.drew (w : World) : Up w w.drew := Up.drewN w 1
end Go.Proofs.YtflngnnoibkkoaaGreat.Pl
/- A plot's rank, and how two plots stand to each other: the program's. -/
namespace Go.Proofs.YtflngnnoibkkoaaGreat.Pl
open Go.ChangeShapes Go.WideShapes Go.ChangeAt Go.RowKit Go.Fl Go.Sort
set_option maxRecDepth 200000
set_option maxHeartbeats 8000000
attribute [local go_sem] run_store_float call34 run_neg fold_eq fold_ne fold_lt fold_gt abs_eq

theorem t206 (x : Nat) (w : World) (hx : x < 2 ^ 64) : Calls Tryz.prog 206 #[.float .f64 x] w fun e w' => e = .returned (.int .u64 (key x)) ∧ w' = w := by
  cases hN : isN x
  · rcases Nat.lt_or_ge x (2 ^ 63) with hl | hg
    · have h1 := and_top x hx
      rw [if_pos hl] at h1
      have h2 := or_top x hl
      have hk : key x = x + 2 ^ 63 := by unfold key; rw [hN, if_pos hl]; rfl
      rw [hk]
      go_enter Tryz.func206, Tryz.ntmps206
      go_wp2_with (go_at_call 51; refine (t51 _ _).mono ?_; rintro e w' ⟨rfl, rfl⟩; rw [hN])
      go_ret
      exact ⟨rfl, rfl⟩
    · have h1 := and_top x hx
      rw [if_neg (by omega)] at h1
      have h2 := xor_top x hx
      have hk : key x = 2 ^ 64 - 1 - x := by unfold key; rw [hN, if_neg (by simp), if_neg (by omega)]
      rw [hk]
      go_enter Tryz.func206, Tryz.ntmps206
      go_wp2_with (go_at_call 51; refine (t51 _ _).mono ?_; rintro e w' ⟨rfl, rfl⟩; rw [hN])
      go_ret
      exact ⟨rfl, rfl⟩
  · have hk : key x = 18446744073709551615 := key_nan hN
    rw [hk]
    go_enter Tryz.func206, Tryz.ntmps206
    go_wp2_with (go_at_call 51; refine (t51 _ _).mono ?_; rintro e w' ⟨rfl, rfl⟩; rw [hN])
    go_ret
    exact ⟨rfl, rfl⟩
theorem t205 (x : Nat) (w : World) (hx : x < 2 ^ 64) : Calls Tryz.prog 205 #[.float .f64 x] w fun e w' => e = .returned (.int .u64 (fall x)) ∧ w' = w := by
  cases hN : isN x
  · have h2 := xor_top (key x) (key_lt hx)
    have hk : fall x = 2 ^ 64 - 1 - key x := by unfold fall; rw [hN]; rfl
    rw [hk]
    go_enter Tryz.func205, Tryz.ntmps205
    go_wp2_with (first | (go_at_call 51; refine (t51 _ _).mono ?_; rintro e w' ⟨rfl, rfl⟩; rw [hN]) | (go_at_call 206; refine (t206 _ _ hx).mono ?_; rintro e w' ⟨rfl, rfl⟩))
    go_ret
    exact ⟨rfl, rfl⟩
  · have hk : fall x = 18446744073709551615 := by unfold fall; rw [hN]; rfl
    rw [hk]
    go_enter Tryz.func205, Tryz.ntmps205
    go_wp2_with (go_at_call 51; refine (t51 _ _).mono ?_; rintro e w' ⟨rfl, rfl⟩; rw [hN])
    go_ret
    exact ⟨rfl, rfl⟩
theorem t236 (a : Int) (w : World) : Calls Tryz.prog 236 #[.int .u64 a] w fun e w' => e = .returned (.bool false) ∧ w' = w := by
  go_enter Tryz.func236, Tryz.ntmps236
  go_wp2
  go_ret
  exact ⟨by simp, rfl⟩
theorem t207u (a b : Nat) (w : World) : Calls Tryz.prog 207 #[.int .u64 a, .int .u64 b] w fun e w' => e = .returned (.int .i64 (cmpN a b)) ∧ w' = w := by
  go_enter Tryz.func207, Tryz.ntmps207
  go_wp2_with (go_at_call 236; (with_reducible refine (t236 _ _).mono ?_); rintro e w' ⟨rfl, hw⟩; subst w')
  all_goals (go_ret; go_tidy; refine ⟨?_, rfl⟩; unfold cmpN)
  · rw [if_pos (by omega)]; rfl
  · rw [if_neg (by omega), if_pos (by omega)]; rfl
  · rw [if_neg (by omega), if_neg (by omega)]; rfl
def pC (p : Plt) : Array Value := #[.float .f64 p.r, .float .f64 p.s, .float .f64 p.p, .float .f64 p.b, .float .f64 p.t]
def rC (p : Plt) : Array Value := #[.int .u64 (fall p.p), .int .u64 (key p.r), .int .u64 (key p.s), .int .u64 (key p.b), .int .u64 (key p.t)]
end Go.Proofs.YtflngnnoibkkoaaGreat.Pl
