/- What was there is kept; slices of floats; rows of one's own. -/
import Derived.Test.YtflngnnoibkkoaaGreatRows
import Derived.Test.YtflngnnoibkkoaaGreatM
import Derived.OpenShut
import Derived.Sort.Row
import Derived.Sort.LotA
import Derived.Deep.LoopGhost
import Derived.Deep.QuietTactic
import Derived.BigQuiet
import Derived.BigRegion
import Derived.WalkKit
import Derived.Deep.WholeRow
import Derived.Laws.CopyOwn
import Derived.Laws.Cover3
import Derived.Lib.AppendZeros
import Derived.Deep.Upon
import Derived.Deep.AppendLies
import Derived.Test.YtflngnnoibkkoaaGreatEd
import Derived.Deep.RegionHeld3
import Derived.Deep.CutRange
import Derived.Sort.Grow
import Derived.Laws.StructEq
namespace Go.Proofs.YtflngnnoibkkoaaGreat.Pk
open Go.ChangeShapes Go.WideShapes Go.ChangeAt Go.RowKit Go.Fl Go.Sort
set_option maxRecDepth 200000
set_option maxHeartbeats 8000000
attribute [local go_sem] run_store_float run_neg fold_eq fold_ne fold_lt fold_gt abs_eq

/-- Of what was there nothing has turned. -/
def Up (w w' : World) : Prop := RowKit.Below w.heap.size w w'
theorem Up.refl (w : World) : Up w w := Below.refl _ _
theorem Up.trans {a b c : World} (h : Up a b) (k : Up b c) : Up a c := RowKit.Below.trans h (RowKit.Below.mono k (RowKit.Below.size h))
theorem Up.drewN (w : World) (n : Nat) : Up w (w.drewN n) := below_drewN (Below.refl _ _) n
theorem Up.alloc (w : World) (o : Obj) : Up w (w.alloc o) := (Below.refl _ _).alloc (Nat.le_refl _) _
theorem eql_nil (a : Option Addr) (l c : Nat) (w : World) : (binOp .eql 47 (.slice a l c) (.slice none 0 0)).run Tryz.prog w = .ok (.bool a.isNone) w := by
  have h := run_equal_slice_nil (P := Tryz.prog) w 47 22 a l c Tryz.underlying47
  simp [binOp, h]
attribute [local go_sem] eql_nil
end Go.Proofs.YtflngnnoibkkoaaGreat.Pk
/- Sums of floats, the first alone. -/
namespace Go.Proofs.YtflngnnoibkkoaaGreat.Pk
open Go.ChangeShapes Go.WideShapes Go.ChangeAt Go.RowKit Go.Fl Go.Sort
set_option maxRecDepth 200000
set_option maxHeartbeats 8000000
attribute [local go_sem] run_store_float run_store_complex run_neg fold_eq fold_ne fold_lt fold_gt abs_eq

/-- The sum of n numbers, the first alone. -/
def sumN (F : Nat → Option Nat) : Nat → Option Nat
  | 0 => ab 0
  | 1 => F 0
  | n + 2 => bin .add (sumN F (n + 1)) (F (n + 1))
theorem sumN_step (F : Nat → Option Nat) (k : Nat) : sumN F (k + 1 + 1) = bin .add (sumN F (k + 1)) (F (k + 1)) := rfl
/-- What a call leaves that hands back one float. -/
def FU (w : World) (v : Option Nat) (e : Ending) (w' : World) : Prop := ∃ r, e = .returned (.float .f64 r) ∧ Hid (ab r = v) ∧ Hid (Up w w')
theorem FU.mk {w w' : World} {v : Option Nat} {r : Nat} (h : ab r = v) (hu : Up w w') : FU w v (.returned (.float .f64 r)) w' := ⟨r, rfl, h, hu⟩
theorem enters {f : FuncId} {fn : Func} (hf : Tryz.prog.funcs[f]? = some fn) (hn : (fn.name == "runtime.NumGoroutine") = false) (hb : fn.body.isSome = true) (args : Array Value) (w : World) : (callFunc f args).run Tryz.prog w = .ok (.enter f args) w := by
  have h1 : fn.name ≠ "runtime.NumGoroutine" := by simpa using hn
  obtain ⟨c, hc⟩ := Option.isSome_iff_exists.1 hb
  simp [callFunc, hf, h1, hc]
end Go.Proofs.YtflngnnoibkkoaaGreat.Pk
/- The numbers that a list is looked through with: which may be. -/
namespace Go.Proofs.YtflngnnoibkkoaaGreat.Pk
open Go.ChangeShapes Go.WideShapes Go.ChangeAt Go.RowKit Go.Fl Go.Sort
set_option maxRecDepth 200000
set_option maxHeartbeats 8000000
attribute [local go_sem] run_store_float run_neg fold_eq fold_ne fold_lt fold_gt abs_eq

theorem fin_is (x : Nat) : (eqF (ab x) (ab x) && (ltF (ab x) (ab 9218868437227405311) || eqF (ab x) (ab 9218868437227405311)) && (gtF (ab x) (ab 18442240474082181119) || eqF (ab x) (ab 18442240474082181119))) = fin (ab x) := by
  cases hN : isN x with
  | true => simp [fin, ab_none hN, eqF, ord]
  | false =>
    have hA : isN (abs x) = false := by rw [isN_abs]; exact hN
    have e1 : ord (ab x) (ab 9218868437227405311) = some (compare (lin x) (lin 9218868437227405311)) := by
      rw [← order_ab]; exact order_lin hN (by decide +kernel)
    have e2 : ord (ab x) (ab 18442240474082181119) = some (compare (lin x) (lin 18442240474082181119)) := by
      rw [← order_ab]; exact order_lin hN (by decide +kernel)
    have e3 : ord ((ab x).map abs) (ab 9218868437227405311) = some (compare (lin (abs x)) (lin 9218868437227405311)) := by
      rw [← ab_abs, ← order_ab]; exact order_lin hA (by decide +kernel)
    have l1 : lin 9218868437227405311 = 9218868437227405311 := by decide +kernel
    have l2 : lin 18442240474082181119 = -9218868437227405311 := by decide +kernel
    have l3 : lin (abs x) = ((x % 2 ^ 63 : Nat) : Int) := by
      have : abs x < 2 ^ 63 := Nat.mod_lt _ (by decide)
      rw [lin_low this]; rfl
    have l4 : lin x = ((x % 2 ^ 63 : Nat) : Int) ∨ lin x = -((x % 2 ^ 63 : Nat) : Int) := by
      unfold lin sgn; split <;> simp
    unfold fin
    rw [eqF_self, hN]
    unfold ltF eqF gtF
    rw [e1, e2, e3, l1, l2, l3]
    generalize x % 2 ^ 63 = m at *
    rw [Bool.eq_iff_iff]
    rcases l4 with l4 | l4 <;> rw [l4] <;> simp only [Int.compare_eq_ite_lt, Bool.not_false, Bool.true_and, Bool.and_eq_true, Bool.or_eq_true, Bool.not_eq_true', beq_iff_eq, Option.some.injEq] <;> (repeat' split) <;> simp <;> omega
theorem t50 (x : Nat) (w : World) : Calls Tryz.prog 23 #[.float .f64 x] w fun e w' => e = .returned (.bool (fin (ab x))) ∧ w' = w := by
  go_enter Tryz.func23, Tryz.ntmps23
  go_wp2
  all_goals (go_ret; go_tidy; refine ⟨?_, rfl⟩; rw [← fin_is])
  all_goals simp_all
end Go.Proofs.YtflngnnoibkkoaaGreat.Pk
/- slices.Grow of none, a row of floats appended to one's own, slices.Concat of two. -/
namespace Go.Proofs.YtflngnnoibkkoaaGreat.Pk
open Go.ChangeShapes Go.WideShapes Go.ChangeAt Go.RowKit Go.Fl Go.Sort
set_option maxRecDepth 200000
set_option maxHeartbeats 8000000
attribute [local go_sem] run_store_float run_neg fold_eq fold_ne fold_lt fold_gt abs_eq

theorem cell_up {w w' : World} {b k : Nat} {v : Value} (h : w.cell? ⟨b, k, none⟩ = some v) (hu : Up w w') : w'.cell? ⟨b, k, none⟩ = some v := by
  obtain ⟨c, e, fr, hb, _⟩ := cells_of_cell? h
  rw [RowKit.Below.cell hu (Array.getElem?_eq_some_iff.1 hb).1]; exact h
end Go.Proofs.YtflngnnoibkkoaaGreat.Pk
/- The order of cells; the leaves of it. -/
namespace Go.Proofs.YtflngnnoibkkoaaGreat.Pk
open Go.ChangeShapes Go.WideShapes Go.ChangeAt Go.RowKit Go.Fl Go.Sort
set_option maxRecDepth 200000
set_option maxHeartbeats 8000000
attribute [local go_sem] run_store_float run_neg fold_eq fold_ne fold_lt fold_gt abs_eq

/-- Nothing has turned; blocks may have been laid, answers drawn. -/
def Gr (w w' : World) : Prop := ∃ q os, w' = grow (w.drewN q) os
theorem Gr.refl (w : World) : Gr w w := ⟨0, #[], by rw [grow_empty]; rfl⟩
theorem Gr.drewN (w : World) (n : Nat) : Gr w (w.drewN n) := ⟨n, #[], by rw [grow_empty]⟩
theorem Gr.alloc (w : World) (o : Obj) : Gr w (w.alloc o) := ⟨0, #[o], alloc_eq_grow w o⟩
theorem Gr.trans {a b c : World} (h : Gr a b) (k : Gr b c) : Gr a c := by
  obtain ⟨q, os, rfl⟩ := h
  obtain ⟨q', os', rfl⟩ := k
  exact ⟨q + q', os ++ os', by rw [← grow_grow, ← World.drewN_drewN]; rfl⟩
theorem Gr.up {w w' : World} (h : Gr w w') : Up w w' := by
  obtain ⟨q, os, rfl⟩ := h
  exact ⟨rfl, rfl, rfl, by rw [size_grow]; exact Nat.le_add_right _ _, fun k hk => heap_grow_old _ os (by exact hk)⟩
/-- The order of two numbers: -1, 0, 1. -/
def cmpI (a b : Int) : Int := if a < b then -1 else if b < a then 1 else 0
/-- The first of two numbers that is not 0. -/
def orI (x y : Int) : Int := if x ≠ 0 then x else y
/-- .. of two cells. -/
def ordC (a b c d : Int) : Int := orI (cmpI a c) (cmpI b d)
theorem t73 (a : Int) (w : World) : Calls Tryz.prog 204 #[.int .i64 a] w fun e w' => e = .returned (.bool false) ∧ w' = w := by
  go_enter Tryz.func204, Tryz.ntmps204
  go_wp2
  go_ret
  exact ⟨by simp, rfl⟩
theorem t69 (a b : Int) (w : World) : Calls Tryz.prog 187 #[.int .i64 a, .int .i64 b] w fun e w' => e = .returned (.int .i64 (cmpI a b)) ∧ w' = w := by
  go_enter Tryz.func187, Tryz.ntmps187
  go_wp2_with (go_at_call 204; (with_reducible refine (t73 _ _).mono ?_); rintro e w' ⟨rfl, hw⟩; subst w')
  all_goals (go_ret; go_tidy; refine ⟨?_, rfl⟩; unfold cmpI)
  · rw [if_pos (by omega)]; rfl
  · rw [if_neg (by omega), if_pos (by omega)]; rfl
  · rw [if_neg (by omega), if_neg (by omega)]; rfl
/-- The first of two numbers that is not 0. -/
theorem t68 {w : World} {g : Nat} {x y : Int} {cap : Nat} (h0 : w.cell? ⟨g, 0, none⟩ = some (.int .i64 x)) (h1 : w.cell? ⟨g, 1, none⟩ = some (.int .i64 y)) : Calls Tryz.prog 186 #[.slice (some ⟨g, 0, none⟩) 2 cap] w fun e w' => e = .returned (.int .i64 (if x ≠ 0 then x else y)) ∧ w' = w := by
  go_enter Tryz.func186, Tryz.ntmps186
  go_wp2
  go_loopw [5, 8] (fun _ vi wr => ∃ i : Nat, i ≤ 2 ∧ vi = .int .i64 i ∧ Hid (wr = w ∧ (1 ≤ i → x = 0) ∧ (2 ≤ i → y = 0))) (fun _ vi _ => 2 - (intOf vi).toNat)
  case atStart => exact ⟨0, by omega, rfl, rfl, by omega, by omega⟩
  case round =>
    obtain ⟨i, hi, rfl, hw⟩ := hrel
    rename World => wr
    obtain ⟨hw, H1, H2⟩ := hw.out
    subst hw
    obtain rfl | rfl | rfl : i = 0 ∨ i = 1 ∨ i = 2 := by omega
    · clear H1 H2
      by_cases hx : x = 0
      · have HX : Hid (x = 0) := hx
        have b0 : (x == 0) = true := by simp [hx]
        clear hx
        go_wp2
        go_roundw
        case rel => exact ⟨1, by omega, by go_num, by first | trivial | rfl, fun _ => HX.out, by omega⟩
        case measure => simp [intOf]
      · have b0 : (x == 0) = false := by simp [hx]
        have HX : Hid (x ≠ 0) := hx
        clear hx
        go_wp2
        go_ret
        exact ⟨by first | rfl | (rw [if_pos HX.out]; rfl), rfl⟩
    · have HX : Hid (x = 0) := H1 (by omega)
      clear H1 H2
      by_cases hy : y = 0
      · have HY : Hid (y = 0) := hy
        have b0 : (y == 0) = true := by simp [hy]
        clear hy
        go_wp2
        go_roundw
        case rel => exact ⟨2, by omega, by go_num, by first | trivial | rfl, fun _ => HX.out, fun _ => HY.out⟩
        case measure => simp [intOf]
      · have b0 : (y == 0) = false := by simp [hy]
        clear hy
        go_wp2
        go_ret
        exact ⟨by first | rfl | (rw [if_neg (by simp [HX.out])]; rfl), rfl⟩
    · have HX : Hid (x = 0) := H1 (by omega)
      have HY : Hid (y = 0) := H2 (by omega)
      clear H1 H2
      go_wp2
      go_ret
      exact ⟨by first | rfl | (rw [if_neg (by simp [HX.out]), HY.out]; rfl) | (rw [HY.out]; rfl), rfl⟩
theorem two_cells (w : World) (a b : Value) (t : TypeId) : (w.alloc (.cells #[a, b] t)).cell? ⟨w.heap.size, 0, none⟩ = some a ∧ (w.alloc (.cells #[a, b] t)).cell? ⟨w.heap.size, 1, none⟩ = some b := by
  constructor <;> rw [World.cell?_alloc_at _ _ _ _ rfl] <;> rfl
theorem four_cells (w : World) (a b c d : Value) (t t' : TypeId) : ((w.alloc (.cells #[a, b] t)).alloc (.cells #[c, d] t')).cell? ⟨w.heap.size, 0, none⟩ = some a ∧ ((w.alloc (.cells #[a, b] t)).alloc (.cells #[c, d] t')).cell? ⟨w.heap.size, 1, none⟩ = some b ∧
    ((w.alloc (.cells #[a, b] t)).alloc (.cells #[c, d] t')).cell? ⟨w.heap.size + 1, 0, none⟩ = some c ∧ ((w.alloc (.cells #[a, b] t)).alloc (.cells #[c, d] t')).cell? ⟨w.heap.size + 1, 1, none⟩ = some d := by
  obtain ⟨h1, h2⟩ := two_cells w a b t
  obtain ⟨h3, h4⟩ := two_cells (w.alloc (.cells #[a, b] t)) c d t'
  have e : (w.alloc (.cells #[a, b] t)).heap.size = w.heap.size + 1 := by simp
  rw [e] at h3 h4
  exact ⟨cell_up h1 (Up.alloc _ _), cell_up h2 (Up.alloc _ _), h3, h4⟩
theorem t68d (w : World) (x y : Int) : Calls Tryz.prog 186 #[.slice (some ⟨w.heap.size, 0, none⟩) 2 2] (w.alloc (.cells #[.int .i64 x, .int .i64 y] 3)).drew fun e w' => e = .returned (.int .i64 (orI x y)) ∧ w' = (w.alloc (.cells #[.int .i64 x, .int .i64 y] 3)).drew :=
  t68 (two_cells w _ _ 3).1 (two_cells w _ _ 3).2
/-- The order of two cells. -/
theorem t55 (a b c d : Int) (w : World) : Calls Tryz.prog 199 #[.agg #[.int .i64 a, .int .i64 b], .agg #[.int .i64 c, .int .i64 d]] w fun e w' => e = .returned (.int .i64 (ordC a b c d)) ∧ Hid (Gr w w') := by
  obtain ⟨k1, k2, k3, k4⟩ := four_cells w (.int .i64 a) (.int .i64 b) (.int .i64 c) (.int .i64 d) 178 178
  have HU : Hid (Gr w ((w.alloc (.cells #[.int .i64 a, .int .i64 b] 178)).alloc (.cells #[.int .i64 c, .int .i64 d] 178))) := (Gr.alloc _ _).trans (Gr.alloc _ _)
  go_enter Tryz.func199, Tryz.ntmps199
  go_wp2
  generalize (w.alloc (.cells #[.int .i64 a, .int .i64 b] 178)).alloc (.cells #[.int .i64 c, .int .i64 d] 178) = W at *
  generalize w.heap.size = g at *
  go_region_held3 (fun w' => w'.cell? ⟨g, 0, none⟩ = some (.int .i64 a) ∧ w'.cell? ⟨g, 1, none⟩ = some (.int .i64 b) ∧ w'.cell? ⟨g + 1, 0, none⟩ = some (.int .i64 c) ∧ w'.cell? ⟨g + 1, 1, none⟩ = some (.int .i64 d)) (first | go_keep | exact ⟨cell_up k1 (Up.alloc _ _), cell_up k2 (Up.alloc _ _), cell_up k3 (Up.alloc _ _), cell_up k4 (Up.alloc _ _)⟩) (first
    | (go_at_call 187; (with_reducible refine (t69 _ _ _).mono ?_); rintro e w' ⟨rfl, hw⟩; subst w')
    | (go_at_call 186; (with_reducible refine (t68d _ _ _).mono ?_); rintro e w' ⟨rfl, hw⟩; subst w'))
  all_goals
    go_wp2
    go_ret
    exact ⟨rfl, (HU.out.trans (Gr.alloc _ _)).trans (Gr.drewN _ 1)⟩
end Go.Proofs.YtflngnnoibkkoaaGreat.Pk
/- Cells of spots; the bins about one. -/
namespace Go.Proofs.YtflngnnoibkkoaaGreat.Pk
open Go.ChangeShapes Go.WideShapes Go.ChangeAt Go.RowKit Go.Fl Go.Sort
set_option maxRecDepth 200000
set_option maxHeartbeats 8000000
attribute [local go_sem] run_store_float run_neg fold_eq fold_ne fold_lt fold_gt abs_eq

/-- What a call leaves that hands back one value and keeps all that was there. -/
def VU (w : World) (v : Value) (e : Ending) (w' : World) : Prop := e = .returned v ∧ Hid (Gr w w')
theorem last_two (w : World) (o o' : Obj) : ((w.alloc o).alloc o').heap[w.heap.size + 1]? = some o' := by
  have := heap_alloc_last (w.alloc o) o'
  simpa using this
theorem two_boxes (w : World) (c d : Array Value) (t t' : TypeId) : ((w.alloc (.cells c t)).alloc (.cells d t')).heap[w.heap.size]? = some (.cells c t (0, 0)) ∧ ((w.alloc (.cells c t)).alloc (.cells d t')).heap[w.heap.size + 1]? = some (.cells d t' (0, 0)) :=
  ⟨by rw [RowKit.Below.block (Up.alloc (w.alloc (.cells c t)) (.cells d t')) _ (by simp)]; exact heap_alloc_last _ _, last_two _ _ _⟩
theorem t35 (a b : Int) (c : Nat) (w : World) : Calls Tryz.prog 147 #[.agg #[.int .i64 a, .int .i64 b, .float .f64 c]] w (VU w (.agg #[.int .i64 a, .int .i64 b])) := by
  go_enter Tryz.func147, Tryz.ntmps147
  go_wp2
  exact bodyPost_ret (results_cell_row Tryz.results147 _ _ _ 178 #[.int .i64 a, .int .i64 b] (0, 0) _ rfl (last_two _ _ _) Tryz.underlying178 rfl (by kernel_rfl)) rfl ⟨rfl, (Gr.alloc _ _).trans (Gr.alloc _ _)⟩
theorem t62 (a : Int) (w : World) : Calls Tryz.prog 180 #[.int .i64 a] w (VU w (.agg #[.int .i64 a, .int .i64 9223372036854775807])) := by
  go_enter Tryz.func180, Tryz.ntmps180
  go_wp2
  exact bodyPost_ret (results_cell_row Tryz.results180 _ _ _ 202 #[.int .i64 a, .int .i64 9223372036854775807] (0, 0) _ rfl (heap_alloc_last _ _) Tryz.underlying202 rfl (by kernel_rfl)) rfl ⟨rfl, Gr.alloc _ _⟩
theorem six_cells (w : World) (a b c d e f : Value) (t t' : TypeId) : let W := (w.alloc (.cells #[a, b, c] t)).alloc (.cells #[d, e, f] t')
    W.cell? ⟨w.heap.size, 0, none⟩ = some a ∧ W.cell? ⟨w.heap.size, 1, none⟩ = some b ∧ W.cell? ⟨w.heap.size, 2, none⟩ = some c ∧ W.cell? ⟨w.heap.size + 1, 0, none⟩ = some d ∧ W.cell? ⟨w.heap.size + 1, 1, none⟩ = some e ∧ W.cell? ⟨w.heap.size + 1, 2, none⟩ = some f := by
  intro W
  obtain ⟨k1, k2⟩ := two_boxes w #[a, b, c] #[d, e, f] t t'
  refine ⟨?_, ?_, ?_, ?_, ?_, ?_⟩ <;> first | (rw [cell_of_row _ _ _ _ _ _ k1]; rfl) | (rw [cell_of_row _ _ _ _ _ _ k2]; rfl)
theorem six_up {w w' : World} {g g' : Nat} {a b c d e f : Value} (h : w.cell? ⟨g, 0, none⟩ = some a ∧ w.cell? ⟨g, 1, none⟩ = some b ∧ w.cell? ⟨g, 2, none⟩ = some c ∧ w.cell? ⟨g', 0, none⟩ = some d ∧ w.cell? ⟨g', 1, none⟩ = some e ∧ w.cell? ⟨g', 2, none⟩ = some f) (hu : Up w w') :
    w'.cell? ⟨g, 0, none⟩ = some a ∧ w'.cell? ⟨g, 1, none⟩ = some b ∧ w'.cell? ⟨g, 2, none⟩ = some c ∧ w'.cell? ⟨g', 0, none⟩ = some d ∧ w'.cell? ⟨g', 1, none⟩ = some e ∧ w'.cell? ⟨g', 2, none⟩ = some f :=
  ⟨cell_up h.1 hu, cell_up h.2.1 hu, cell_up h.2.2.1 hu, cell_up h.2.2.2.1 hu, cell_up h.2.2.2.2.1 hu, cell_up h.2.2.2.2.2 hu⟩
/-- The order of two spots. -/
theorem t58 (a b : Int) (c : Nat) (x y : Int) (z : Nat) (w : World) : Calls Tryz.prog 176 #[.agg #[.int .i64 a, .int .i64 b, .float .f64 c], .agg #[.int .i64 x, .int .i64 y, .float .f64 z]] w (VU w (.int .i64 (ordC a b x y))) := by
  obtain ⟨k1, k2, k3, k4, k5, k6⟩ := six_cells w (.int .i64 a) (.int .i64 b) (.float .f64 c) (.int .i64 x) (.int .i64 y) (.float .f64 z) 151 151
  have HU : Hid (Gr w ((w.alloc (.cells #[.int .i64 a, .int .i64 b, .float .f64 c] 151)).alloc (.cells #[.int .i64 x, .int .i64 y, .float .f64 z] 151))) := (Gr.alloc _ _).trans (Gr.alloc _ _)
  go_enter Tryz.func176, Tryz.ntmps176
  go_wp2
  generalize (w.alloc (.cells #[.int .i64 a, .int .i64 b, .float .f64 c] 151)).alloc (.cells #[.int .i64 x, .int .i64 y, .float .f64 z] 151) = W at *
  generalize w.heap.size = g at *
  go_region_held3 (fun w' => w'.cell? ⟨g, 0, none⟩ = some (.int .i64 a) ∧ w'.cell? ⟨g, 1, none⟩ = some (.int .i64 b) ∧ w'.cell? ⟨g, 2, none⟩ = some (.float .f64 c) ∧ w'.cell? ⟨g + 1, 0, none⟩ = some (.int .i64 x) ∧ w'.cell? ⟨g + 1, 1, none⟩ = some (.int .i64 y) ∧ w'.cell? ⟨g + 1, 2, none⟩ = some (.float .f64 z)) (first | exact ⟨k1, k2, k3, k4, k5, k6⟩ | exact six_up (by assumption) HU1.out.up | exact six_up (by assumption) HU3.out.up | exact six_up (by assumption) HU2.out.up | exact six_up (w := W.drew) ⟨k1, k2, k3, k4, k5, k6⟩ HU1.out.up) (first
    | ((fail_if_success have := HU1); go_at_call 147; (with_reducible refine (t35 _ _ _ _).mono ?_); rintro e w1 ⟨rfl, HU1⟩)
    | (go_at_call 147; (with_reducible refine (t35 _ _ _ _).mono ?_); rintro e w3 ⟨rfl, HU3⟩)
    | (go_at_call 199; (with_reducible refine (t55 _ _ _ _ _).mono ?_); rintro e w2 ⟨rfl, HU2⟩))
  all_goals
    go_wp2
    go_ret
    exact ⟨rfl, (((HU.out.trans (Gr.drewN _ 1)).trans HU1.out).trans HU3.out).trans HU2.out⟩
theorem fields57 : Tryz.prog.underlying 178 = some (.struct (Tryz.prog.fieldsOf 178)) := by kernel_rfl
theorem held57 : Tryz.prog.stoodInHeld 178 = false := by kernel_rfl
theorem guard57 : Tryz.prog.eqGuardType Tryz.prog.depth 178 = false := by kernel_rfl
/-- Are two cells the same? -/
def sameC (a b x y : Int) : Bool := decide (a = x) && decide (b = y)
theorem eq_fields57 (a b x y : Int) (w : World) : (Op.equalIn 10000 178 (.agg #[.int .i64 a, .int .i64 b]) (.agg #[.int .i64 x, .int .i64 y])).run Tryz.prog w = .ok (sameC a b x y) w := by
  have u3 := Tryz.underlying3
  have a3 := Tryz.isAgg3
  have z3 := Tryz.sizeOf3
  rw [show (10000 : Nat) = 9999 + 1 from rfl, run_equalIn_agg w 9999 178 _ _ fields57 held57]
  simp only [Program.fieldsOf, Tryz.underlying178]
  go_simp
  by_cases h1 : a = x <;> by_cases h2 : b = y <;> simp [h1, h2, sameC]
theorem eql57 (a b x y : Int) (w : World) : (binOp .eql 178 (.agg #[.int .i64 a, .int .i64 b]) (.agg #[.int .i64 x, .int .i64 y])).run Tryz.prog w = .ok (.bool (sameC a b x y)) w := by
  rw [run_eql_struct, eq_fields57]; rfl
theorem neq57 (a b x y : Int) (w : World) : (binOp .neq 178 (.agg #[.int .i64 a, .int .i64 b]) (.agg #[.int .i64 x, .int .i64 y])).run Tryz.prog w = .ok (.bool (!sameC a b x y)) w := by
  rw [run_neq_struct, eq_fields57]; rfl
theorem eqg57 (op : BinOp) (x y : Operand) (xs ys : Array Value) (w : World) : (eqGuard op 178 x y (.agg xs) (.agg ys)).run Tryz.prog w = .ok () w := run_eqGuard_agg w op 178 x y xs ys guard57
attribute [local go_sem] eqg57
theorem mid_three (w : World) (o o' o'' : Obj) : (((w.alloc o).alloc o').alloc o'').heap[w.heap.size + 1]? = some o' := by
  rw [RowKit.Below.block (Up.alloc ((w.alloc o).alloc o') o'') _ (by simp)]; exact last_two _ _ _
theorem t60 (a b : Int) (c : Nat) (x y : Int) (z : Nat) (w : World) : Calls Tryz.prog 178 #[.agg #[.int .i64 a, .int .i64 b, .float .f64 c], .agg #[.int .i64 x, .int .i64 y, .float .f64 z]] w (VU w (.bool (sameC a b x y))) := by
  obtain ⟨k1, k2, k3, k4, k5, k6⟩ := six_cells w (.int .i64 a) (.int .i64 b) (.float .f64 c) (.int .i64 x) (.int .i64 y) (.float .f64 z) 151 151
  have HU : Hid (Gr w ((w.alloc (.cells #[.int .i64 a, .int .i64 b, .float .f64 c] 151)).alloc (.cells #[.int .i64 x, .int .i64 y, .float .f64 z] 151))) := (Gr.alloc _ _).trans (Gr.alloc _ _)
  have hEq := eql57 a b x y
  generalize sameC a b x y = s at *
  go_enter Tryz.func178, Tryz.ntmps178
  go_wp2
  generalize (w.alloc (.cells #[.int .i64 a, .int .i64 b, .float .f64 c] 151)).alloc (.cells #[.int .i64 x, .int .i64 y, .float .f64 z] 151) = W at *
  generalize w.heap.size = g at *
  go_region_held3 (fun w' => w'.cell? ⟨g, 0, none⟩ = some (.int .i64 a) ∧ w'.cell? ⟨g, 1, none⟩ = some (.int .i64 b) ∧ w'.cell? ⟨g, 2, none⟩ = some (.float .f64 c) ∧ w'.cell? ⟨g + 1, 0, none⟩ = some (.int .i64 x) ∧ w'.cell? ⟨g + 1, 1, none⟩ = some (.int .i64 y) ∧ w'.cell? ⟨g + 1, 2, none⟩ = some (.float .f64 z)) (first | exact ⟨k1, k2, k3, k4, k5, k6⟩ | exact six_up (by assumption) HU1.out.up | exact six_up (by assumption) HU3.out.up | exact six_up (w := W.drew) ⟨k1, k2, k3, k4, k5, k6⟩ HU1.out.up | assumption) (first
    | ((fail_if_success have := HU1); go_at_call 147; (with_reducible refine (t35 _ _ _ _).mono ?_); rintro e w1 ⟨rfl, HU1⟩)
    | (go_at_call 147; (with_reducible refine (t35 _ _ _ _).mono ?_); rintro e w3 ⟨rfl, HU3⟩))
  all_goals
    go_wp2
    go_ret
    exact ⟨rfl, ((HU.out.trans (Gr.drewN _ 1)).trans HU1.out).trans HU3.out⟩
/-- The bins about one. -/
def belowB (bins b : Int) : Int := if b = 0 then bins - 1 else b - 1
def aboveB (bins b : Int) : Int := if b = bins - 1 then 0 else b + 1
theorem about_is {bins b x y : Int} (hx : belowB bins b = x) (hy : aboveB bins b = y) : Value.agg #[.int .i64 b, .int .i64 x, .int .i64 y] = .agg #[.int .i64 b, .int .i64 (belowB bins b), .int .i64 (aboveB bins b)] := by rw [hx, hy]
theorem t67 (bins l b : Int) (w : World) (h0 : 0 ≤ b) (h1 : b < bins) (h2 : bins ≤ 9223372036854775807) : Calls Tryz.prog 200 #[.agg #[.int .i64 bins, .int .i64 l], .int .i64 b] w (VU w (.agg #[.int .i64 b, .int .i64 (belowB bins b), .int .i64 (aboveB bins b)])) := by
  go_enter Tryz.func200, Tryz.ntmps200
  go_wp2
  all_goals
    refine bodyPost_ret (results_cell_row Tryz.results200 _ _ _ 220 _ (0, 0) _ rfl (mid_three _ _ _ _) Tryz.underlying220 rfl (by kernel_rfl)) rfl ⟨?_, ((Gr.alloc _ _).trans (Gr.alloc _ _)).trans (Gr.alloc _ _)⟩
    refine congrArg Ending.returned (about_is ?_ ?_)
    all_goals (first | unfold belowB | unfold aboveB)
    all_goals (split <;> simp_all <;> omega)
end Go.Proofs.YtflngnnoibkkoaaGreat.Pk
/- The cells about a cell, gone over by a function. -/
namespace Go.Proofs.YtflngnnoibkkoaaGreat.Pk
open Go.ChangeShapes Go.WideShapes Go.ChangeAt Go.RowKit Go.Fl Go.Sort
set_option maxRecDepth 200000
set_option maxHeartbeats 8000000
attribute [local go_sem] run_store_float run_neg fold_eq fold_ne fold_lt fold_gt abs_eq eqg57

/-- The blocks of which F speaks are kept. -/
structure Kp (F : Nat → Prop) (w w' : World) : Prop where
  os : w'.os = w.os
  tape : w'.tape = w.tape
  output : w'.output = w.output
  size : w.heap.size ≤ w'.heap.size
  block : ∀ k, F k → k < w.heap.size → w'.heap[k]? = w.heap[k]?
theorem Kp.refl (F : Nat → Prop) (w : World) : Kp F w w := ⟨rfl, rfl, rfl, Nat.le_refl _, fun _ _ _ => rfl⟩
theorem Kp.of_up {F : Nat → Prop} {w w' : World} (h : Up w w') : Kp F w w' := ⟨RowKit.Below.os h, RowKit.Below.tape h, RowKit.Below.output h, RowKit.Below.size h, fun k _ hk => RowKit.Below.block h k hk⟩
theorem Kp.trans {F : Nat → Prop} {a b c : World} (h : Kp F a b) (k : Kp F b c) : Kp F a c :=
  ⟨k.os.trans h.os, k.tape.trans h.tape, k.output.trans h.output, Nat.le_trans h.size k.size, fun i hi hl => (k.block i hi (Nat.lt_of_lt_of_le hl h.size)).trans (h.block i hi hl)⟩
theorem Kp.mono {F G : Nat → Prop} {a b : World} (h : Kp F a b) (hG : ∀ k, G k → F k) : Kp G a b := ⟨h.os, h.tape, h.output, h.size, fun k hk hl => h.block k (hG k hk) hl⟩
theorem Kp.cell {F : Nat → Prop} {w w' : World} {b k : Nat} {v : Value} (h : Kp F w w') (hF : F b) (hc : w.cell? ⟨b, k, none⟩ = some v) : w'.cell? ⟨b, k, none⟩ = some v := by
  obtain ⟨c, e, fr, hb, _⟩ := cells_of_cell? hc
  rw [World.cell?_of_block (h.block b hF (Array.getElem?_eq_some_iff.1 hb).1)]; exact hc
theorem Kp.up {w w' : World} {F : Nat → Prop} (h : Kp F w w') (hF : ∀ k, k < w.heap.size → F k) : Up w w' := ⟨h.os, h.tape, h.output, h.size, fun k hk => h.block k (hF k hk) hk⟩
/-- F, and the blocks that have come since. -/
def More (F : Nat → Prop) (w w' : World) (k : Nat) : Prop := F k ∨ (w.heap.size ≤ k ∧ k < w'.heap.size)
/-- What a function does that is handed a cell: I tells how far it has come, and keeps out of F. -/
structure Visits (fg : Nat) (cb : Array Value) (C : Int × Int → Prop) (I : (Nat → Prop) → List (Int × Int) → World → Prop) : Prop where
  up : ∀ {F l w w'}, I F l w → Up w w' → I (More F w w') l w'
  step : ∀ {F l w x y}, C (x, y) → I F l w → Calls Tryz.prog fg (#[.agg #[.int .i64 x, .int .i64 y]] ++ cb) w fun e w' => e = .returned (.tuple #[]) ∧ Hid (I F (l ++ [(x, y)]) w') ∧ Hid (Kp F w w')
/-- The cells of one bin that are gone over, of m gates; of j bins. -/
def rowN (b g y fr : Int) : Nat → List (Int × Int)
  | 0 => []
  | k + 1 => rowN b g y fr k ++ (if sameC y (fr + k) b g = true then [] else [(y, fr + k)])
def binsN (f : Nat → Int) (b g fr : Int) (m : Nat) : Nat → List (Int × Int)
  | 0 => []
  | j + 1 => binsN f b g fr m j ++ rowN b g (f j) fr m
def binA (bins b : Int) (j : Nat) : Int := if j = 0 then b else if j = 1 then belowB bins b else aboveB bins b
def frG (g : Int) : Int := max g 1 - 1
def toG (last g : Int) : Int := min g (last - 1) + 1
/-- The neighbours of a cell, in the order in which they are gone over. -/
def nbL (bins last b g : Int) : List (Int × Int) := binsN (binA bins b) b g (frG g) (toG last g - frG g + 1).toNat (min bins 3).toNat
/-- The two boxes. -/
def ABx (N : Nat) (bins last b g : Int) (w : World) : Prop := w.cell? ⟨N, 0, none⟩ = some (.int .i64 bins) ∧ w.cell? ⟨N, 1, none⟩ = some (.int .i64 last) ∧ w.cell? ⟨N + 1, 0, none⟩ = some (.int .i64 b) ∧ w.cell? ⟨N + 1, 1, none⟩ = some (.int .i64 g)
theorem ABx.kp {F : Nat → Prop} {N : Nat} {bins last b g : Int} {w w' : World} (h : ABx N bins last b g w) (hk : Kp F w w') (h0 : F N) (h1 : F (N + 1)) : ABx N bins last b g w' :=
  ⟨hk.cell h0 h.1, hk.cell h0 h.2.1, hk.cell h1 h.2.2.1, hk.cell h1 h.2.2.2⟩
theorem rowN_mem {b g y fr : Int} {m k : Nat} (hk : k < m) (hs : sameC y (fr + k) b g = false) : (y, fr + k) ∈ rowN b g y fr m := by
  induction m with
  | zero => omega
  | succ m ih =>
    unfold rowN
    rcases Nat.lt_succ_iff_lt_or_eq.1 hk with h | h
    · exact List.mem_append_left _ (ih h)
    · subst h; rw [hs]; simp
theorem binsN_mem {f : Nat → Int} {b g fr : Int} {m n j : Nat} (hj : j < n) {c : Int × Int} (hc : c ∈ rowN b g (f j) fr m) : c ∈ binsN f b g fr m n := by
  induction n with
  | zero => omega
  | succ n ih =>
    unfold binsN
    rcases Nat.lt_succ_iff_lt_or_eq.1 hj with h | h
    · exact List.mem_append_left _ (ih h)
    · subst h; exact List.mem_append_right _ hc
/-- What stands behind a round. -/
structure AW (I : (Nat → Prop) → List (Int × Int) → World → Prop) (F0 : Nat → Prop) (w : World) (N A : Nat) (bins last b g : Int) (l : List (Int × Int)) (wr : World) : Prop where
  ex : ∃ F : Nat → Prop, (∀ k, F0 k → F k) ∧ (∀ k, N ≤ k → k ≤ A → F k) ∧ I F l wr
  box : ABx N bins last b g wr
  arr : wr.cell? ⟨A, 0, none⟩ = some (.int .i64 b) ∧ wr.cell? ⟨A, 1, none⟩ = some (.int .i64 (belowB bins b)) ∧ wr.cell? ⟨A, 2, none⟩ = some (.int .i64 (aboveB bins b))
  kp : Kp F0 w wr
theorem AW.up {I : (Nat → Prop) → List (Int × Int) → World → Prop} {fg : Nat} {cb : Array Value} {C : Int × Int → Prop} (V : Visits fg cb C I) {F0 : Nat → Prop} {w : World} {N A : Nat} {bins last b g : Int} {l : List (Int × Int)} {wr w' : World} (h : AW I F0 w N A bins last b g l wr) (hu : Up wr w') : AW I F0 w N A bins last b g l w' := by
  obtain ⟨F, h1, h2, h3⟩ := h.ex
  exact ⟨⟨More F wr w', fun k hk => Or.inl (h1 k hk), fun k hk hk' => Or.inl (h2 k hk hk'), V.up h3 hu⟩, h.box.kp (F := fun _ => True) (Kp.of_up hu) trivial trivial, ⟨cell_up h.arr.1 hu, cell_up h.arr.2.1 hu, cell_up h.arr.2.2 hu⟩, h.kp.trans (Kp.of_up hu)⟩
theorem AW.step {I : (Nat → Prop) → List (Int × Int) → World → Prop} {fg : Nat} {cb : Array Value} {C : Int × Int → Prop} (V : Visits fg cb C I) {F0 : Nat → Prop} {w : World} {N A : Nat} {bins last b g : Int} {l : List (Int × Int)} {wr : World} (hA : N + 1 ≤ A) (h : AW I F0 w N A bins last b g l wr) {x y : Int} (hc : C (x, y)) :
    Calls Tryz.prog fg (#[.agg #[.int .i64 x, .int .i64 y]] ++ cb) wr fun e w' => e = .returned (.tuple #[]) ∧ Hid (AW I F0 w N A bins last b g (l ++ [(x, y)]) w') := by
  obtain ⟨F, h1, h2, h3⟩ := h.ex
  refine (V.step hc h3).mono ?_
  rintro e w' ⟨rfl, HI, HK⟩
  exact ⟨rfl, ⟨F, h1, h2, HI.out⟩, h.box.kp HK.out (h2 _ (by omega) (by omega)) (h2 _ (by omega) (by omega)), ⟨HK.out.cell (h2 _ (by omega) (by omega)) h.arr.1, HK.out.cell (h2 _ (by omega) (by omega)) h.arr.2.1, HK.out.cell (h2 _ (by omega) (by omega)) h.arr.2.2⟩, h.kp.trans (HK.out.mono h1)⟩
theorem box2_new (w : World) (bins last b g : Int) : ABx w.heap.size bins last b g ((w.alloc (.cells #[.int .i64 bins, .int .i64 last] 202)).alloc (.cells #[.int .i64 b, .int .i64 g] 178)) := four_cells w _ _ _ _ 202 178
set_option maxHeartbeats 2000000 in
theorem t53 {fg : Nat} {cb : Array Value} {I : (Nat → Prop) → List (Int × Int) → World → Prop} {bins last b g : Int} (V : Visits fg cb (fun c => c ∈ nbL bins last b g) I) (eg : ∀ args w, (callFunc fg args).run Tryz.prog w = .ok (.enter fg args) w)
    {F0 : Nat → Prop} {w : World} (h0 : I F0 [] w) (b0 : 0 ≤ b) (b1 : b < bins) (b2 : bins ≤ 9223372036854775807) (g0 : 0 ≤ g) (g1 : g ≤ last) (g2 : last ≤ 9223372036854775807) :
    Calls Tryz.prog 181 #[.agg #[.int .i64 bins, .int .i64 last], .agg #[.int .i64 b, .int .i64 g], .func (.func fg) #[] cb] w fun e w' => e = .returned (.tuple #[]) ∧ ∃ F, Hid ((∀ k, F0 k → F k) ∧ I F (nbL bins last b g) w' ∧ Kp F0 w w') := by
  have HI : Hid (I F0 [] w) := h0
  have HV : Hid (Visits fg cb (fun c => c ∈ nbL bins last b g) I) := V
  clear h0 V
  obtain ⟨fr, hfr⟩ : ∃ fr, frG g = fr := ⟨_, rfl⟩
  obtain ⟨tt, hto⟩ : ∃ tt, toG last g = tt := ⟨_, rfl⟩
  have HF : Hid (frG g = fr ∧ toG last g = tt) := ⟨hfr, hto⟩
  have f1 : max g 1 - 1 = fr := hfr
  have f2 : min g (last - 1) + 1 = tt := hto
  clear hfr hto
  have HB : Hid (ABx w.heap.size bins last b g ((w.alloc (.cells #[.int .i64 bins, .int .i64 last] 202)).alloc (.cells #[.int .i64 b, .int .i64 g] 178))) := box2_new w bins last b g
  have HU : Hid (Up w ((w.alloc (.cells #[.int .i64 bins, .int .i64 last] 202)).alloc (.cells #[.int .i64 b, .int .i64 g] 178))) := (Up.alloc _ _).trans (Up.alloc _ _)
  have HS : Hid (((w.alloc (.cells #[.int .i64 bins, .int .i64 last] 202)).alloc (.cells #[.int .i64 b, .int .i64 g] 178)).heap.size = w.heap.size + 2) := by show _ = _; simp
  obtain ⟨c1, c2, c3, c4⟩ := HB.out
  go_enter Tryz.func181, Tryz.ntmps181
  go_wp2_with fail
  generalize hN : w.heap.size = N at *
  generalize (w.alloc (.cells #[.int .i64 bins, .int .i64 last] 202)).alloc (.cells #[.int .i64 b, .int .i64 g] 178) = W at *
  refine wp_region_ord 12 [(0, none), (1, some false), (2, none), (3, none), (4, none), (5, some false), (6, none), (7, some false), (8, none), (9, none), (10, none), (11, none)] (ABx N bins last b g) (by kernel_rfl) (by decide) rfl (by kernel_rfl) (fun _ _ d _ _ h => by cases d <;> exact h) (HB.out) ?_
  refine ⟨_, .pointer (some ⟨N + 1, 1, none⟩), some 13, rfl, rfl, Or.inl ⟨rfl, fun w' hS => ?_⟩, ?_⟩
  · go_simp
  refine ⟨_, .int .i64 g, some 14, rfl, rfl, Or.inl ⟨rfl, fun w' hS => ?_⟩, ?_⟩
  · have l1 := (hS : ABx N bins last b g w').2.2.2
    go_simp
  refine ⟨_, .int .i64 (max g 1), some 15, rfl, rfl, Or.inl ⟨rfl, fun w' hS => ?_⟩, ?_⟩
  · go_simp
    (split <;> omega)
  refine ⟨_, .int .i64 fr, some 16, rfl, rfl, Or.inl ⟨rfl, fun w' hS => ?_⟩, ?_⟩
  · go_simp
    rw [IntKind.wrap_i64]; omega
  refine ⟨_, .pointer (some ⟨N + 1, 1, none⟩), some 17, rfl, rfl, Or.inl ⟨rfl, fun w' hS => ?_⟩, ?_⟩
  · go_simp
  refine ⟨_, .int .i64 g, some 18, rfl, rfl, Or.inl ⟨rfl, fun w' hS => ?_⟩, ?_⟩
  · have l1 := (hS : ABx N bins last b g w').2.2.2
    go_simp
  refine ⟨_, .pointer (some ⟨N, 1, none⟩), some 19, rfl, rfl, Or.inl ⟨rfl, fun w' hS => ?_⟩, ?_⟩
  · go_simp
  refine ⟨_, .int .i64 last, some 20, rfl, rfl, Or.inl ⟨rfl, fun w' hS => ?_⟩, ?_⟩
  · have l1 := (hS : ABx N bins last b g w').2.1
    go_simp
  refine ⟨_, .int .i64 (last - 1), some 21, rfl, rfl, Or.inl ⟨rfl, fun w' hS => ?_⟩, ?_⟩
  · go_simp
    rw [IntKind.wrap_i64]; omega
  refine ⟨_, .int .i64 (min g (last - 1)), some 22, rfl, rfl, Or.inl ⟨rfl, fun w' hS => ?_⟩, ?_⟩
  · go_simp
    (split <;> omega)
  refine ⟨_, .int .i64 tt, some 23, rfl, rfl, Or.inl ⟨rfl, fun w' hS => ?_⟩, ?_⟩
  · go_simp
    rw [IntKind.wrap_i64]; omega
  refine ⟨_, .int .i64 fr, some 6, rfl, rfl, Or.inl ⟨rfl, fun w' hS => ?_⟩, ?_⟩
  · go_simp
  simp only [OrdW, List.drop_succ_cons, List.drop_zero, Act.put, List.setIfInBounds_toArray, List.set_cons_succ, List.set_cons_zero]
  have HB1 : Hid (ABx N bins last b g W.drew) := HB.out
  have HU1 : Hid (Up w W.drew) := HU.out.trans (Up.drewN _ 1)
  have HS1 : Hid (W.drew.heap.size = N + 2) := HS.out
  have d1 : W.drew.cell? ⟨N, 0, none⟩ = some (.int .i64 bins) := c1
  have d2 : W.drew.cell? ⟨N, 1, none⟩ = some (.int .i64 last) := c2
  have d3 : W.drew.cell? ⟨N + 1, 0, none⟩ = some (.int .i64 b) := c3
  have d4 : W.drew.cell? ⟨N + 1, 1, none⟩ = some (.int .i64 g) := c4
  clear HB HU HS c1 c2 c3 c4
  generalize W.drew = W1 at *
  clear W
  obtain ⟨nb, hnb⟩ : ∃ nb : Nat, (min bins 3).toNat = nb := ⟨_, rfl⟩
  have HNB : Hid ((min bins 3).toNat = nb) := hnb
  have e1 : (if (3 : Int) < bins then (3 : Int) else bins) = (nb : Int) := by split <;> omega
  have e2 : nb ≤ 3 := by omega
  have e3 : 1 ≤ nb := by omega
  have e4 : (nb : Int) ≤ 3 := by omega
  clear hnb
  go_wp2_with (first
    | (go_at_call 200; (with_reducible refine (t67 bins last b _ b0 b1 b2).mono ?_); rintro e w1 ⟨rfl, HG⟩; (have x1 := cell_up (cell_up d1 HG.out.up) (Up.alloc w1 (.cells #[.int .i64 b, .int .i64 (belowB bins b), .int .i64 (aboveB bins b)] 220)))))
  have HA : Hid (AW I F0 w N w1.heap.size bins last b g [] (w1.alloc (.cells #[.int .i64 b, .int .i64 (belowB bins b), .int .i64 (aboveB bins b)] 220))) := by
    have hu : Up w (w1.alloc (.cells #[.int .i64 b, .int .i64 (belowB bins b), .int .i64 (aboveB bins b)] 220)) := (HU1.out.trans HG.out.up).trans (Up.alloc _ _)
    refine ⟨⟨_, fun k hk => Or.inl hk, fun k hk hk' => Or.inr ⟨by omega, by simp; omega⟩, HV.out.up HI.out hu⟩, ?_, ?_, Kp.of_up hu⟩
    · exact HB1.out.kp (F := fun _ => True) (Kp.of_up (HG.out.up.trans (Up.alloc _ _))) trivial trivial
    · refine ⟨?_, ?_, ?_⟩ <;> rw [World.cell?_alloc_at _ _ _ _ rfl] <;> rfl
  have HN : Hid (N + 1 ≤ w1.heap.size) := by
    have h1 := HS1.out
    have h2 := RowKit.Below.size HG.out.up
    show _ ≤ _
    omega
  generalize w1.alloc (.cells #[.int .i64 b, .int .i64 (belowB bins b), .int .i64 (aboveB bins b)] 220) = W2 at *
  generalize w1.heap.size = A at *
  obtain ⟨m, hm⟩ : ∃ m : Nat, (tt - fr + 1).toNat = m := ⟨_, rfl⟩
  have HM : Hid ((tt - fr + 1).toNat = m) := hm
  have m1 : tt - fr + 1 = (m : Int) := by omega
  have m2 : m ≤ 3 := by omega
  have fr0 : 0 ≤ fr := by omega
  have fr1 : fr + (m : Int) ≤ 9223372036854775807 + 1 := by omega
  have fr2 : tt ≤ 9223372036854775807 := by omega
  have HNL : Hid (∀ j k : Nat, j < nb → k < m → sameC (binA bins b j) (fr + k) b g = false → (binA bins b j, fr + (k : Int)) ∈ nbL bins last b g) := by
    intro j k hj hk hs
    unfold nbL
    rw [HF.out.1, HF.out.2, HM.out, HNB.out]
    exact binsN_mem hj (rowN_mem hk hs)
  clear hm HU1 HS1 HG HB1 HI d1 d2 d3 d4 x1 f1 f2
  go_loopw [10, 11, 12, 33] (fun _ _ _ vi wr => ∃ j : Nat, j ≤ nb ∧ vi = .int .i64 j ∧ Hid (AW I F0 w N A bins last b g (binsN (binA bins b) b g fr m j) wr)) (fun _ _ _ vi _ => nb - (intOf vi).toNat)
  case atStart => exact ⟨0, by omega, rfl, HA⟩
  case round =>
    clear HA
    obtain ⟨j, hj, rfl, HA⟩ := hrel
    rename World => wr
    by_cases hlt : j < nb
    · have z1 : (j : Int) < (nb : Int) := by omega
      have z2 : (0 : Int) ≤ (j : Int) := by omega
      have cj : wr.cell? ⟨A, j, none⟩ = some (.int .i64 (binA bins b j)) := by
        obtain ⟨q0, q1, q2⟩ := HA.out.arr
        unfold binA
        rcases (show j = 0 ∨ j = 1 ∨ j = 2 by omega) with rfl | rfl | rfl
        · exact q0
        · exact q1
        · exact q2
      obtain ⟨y, hy⟩ : ∃ y, binA bins b j = y := ⟨_, rfl⟩
      rw [hy] at cj
      have HY : Hid (binA bins b j = y) := hy
      clear hy
      go_wp2
      go_loopw [11, 12, 41] (fun _ _ vk wr => ∃ k : Nat, k ≤ m ∧ vk = .int .i64 k ∧ Hid (AW I F0 w N A bins last b g (binsN (binA bins b) b g fr m j ++ rowN b g y fr k) wr)) (fun _ _ vk _ => m - (intOf vk).toNat)
      case atStart => exact ⟨0, by omega, rfl, by show AW _ _ _ _ _ _ _ _ _ _ _; rw [rowN, List.append_nil]; exact HA.out⟩
      case round =>
        clear HA cj
        obtain ⟨k, hk, rfl, HA⟩ := hrel
        rename World => wr
        by_cases hlk : k < m
        · have y1 : (k : Int) < (m : Int) := by omega
          have y2 : (0 : Int) ≤ (k : Int) := by omega
          obtain ⟨z, hz⟩ : ∃ z, fr + (k : Int) = z := ⟨_, rfl⟩
          have HZ : Hid (fr + (k : Int) = z) := hz
          have y3 : IntKind.i64.wrap z = z := by rw [IntKind.wrap_i64]; omega
          have HA1 : Hid (AW I F0 w N A bins last b g (binsN (binA bins b) b g fr m j ++ rowN b g y fr k) (wr.alloc (.cells #[.int .i64 y, .int .i64 z] 178))) := HA.out.up HV.out (Up.alloc _ _)
          have q3 := HA1.out.box.2.2.1
          have q4 := HA1.out.box.2.2.2
          obtain ⟨s, hs⟩ : ∃ s, sameC y z b g = s := ⟨_, rfl⟩
          have hne := neq57 y z b g
          rw [hs] at hne
          have HSM : Hid (sameC y z b g = s) := hs
          clear hs HA
          cases s
          · have hin : (y, z) ∈ nbL bins last b g := by
              have := HNL.out j k hlt hlk (by rw [HY.out, HZ.out]; exact HSM.out)
              rwa [HY.out, HZ.out] at this
            have HIN : Hid ((y, z) ∈ nbL bins last b g) := hin
            clear hin
            have HC : Hid (Calls Tryz.prog fg (#[.agg #[.int .i64 y, .int .i64 z]] ++ cb) (wr.alloc (.cells #[.int .i64 y, .int .i64 z] 178)) fun e w' => e = .returned (.tuple #[]) ∧ Hid (AW I F0 w N A bins last b g (binsN (binA bins b) b g fr m j ++ rowN b g y fr k ++ [(y, z)]) w')) := AW.step HV.out HN.out HA1.out HIN.out
            go_wp2_with fail
            with_reducible refine HC.out.mono ?_
            rintro e w4 ⟨rfl, HA2⟩
            clear HC
            go_wp2
            go_roundw
            case rel => exact ⟨k + 1, by omega, by go_num, by
              show AW _ _ _ _ _ _ _ _ _ _ _
              rw [rowN, HZ.out, HSM.out, ← List.append_assoc]; exact HA2.out⟩
            case measure => simp [intOf]; omega
          · go_wp2
            go_roundw
            case rel => exact ⟨k + 1, by omega, by go_num, by
              show AW _ _ _ _ _ _ _ _ _ _ _
              rw [rowN, HZ.out, HSM.out, if_pos rfl, List.append_nil]; exact HA1.out⟩
            case measure => simp [intOf]; omega
        · obtain rfl : k = m := by omega
          go_wp2
          go_roundw
          case rel => exact ⟨j + 1, by omega, by go_num, by
            show AW _ _ _ _ _ _ _ _ _ _ _
            rw [binsN, HY.out]; exact HA.out⟩
          case measure => simp [intOf]; omega
    · obtain rfl : j = nb := by omega
      go_wp2
      go_end0
      obtain ⟨F, r1, r2, r3⟩ := HA.out.ex
      refine ⟨rfl, F, r1, ?_, HA.out.kp⟩
      unfold nbL
      rw [HF.out.1, HF.out.2, HM.out, HNB.out]
      exact r3
end Go.Proofs.YtflngnnoibkkoaaGreat.Pk
