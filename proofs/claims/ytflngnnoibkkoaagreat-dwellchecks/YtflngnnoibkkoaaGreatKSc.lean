/- Centre: what is summed. -/
import Derived.Test.YtflngnnoibkkoaaGreatKSb
import Derived.Test.YtflngnnoibkkoaaGreatKQg
import Derived.Test.YtflngnnoibkkoaaGreatEd
import Derived.Test.YtflngnnoibkkoaaGreatKQc
namespace Go.Proofs.YtflngnnoibkkoaaGreat.Pk
open Go.ChangeShapes Go.WideShapes Go.ChangeAt Go.RowKit Go.Fl Go.Sort
set_option maxRecDepth 200000
set_option maxHeartbeats 8000000
attribute [local go_sem] run_store_float run_neg fold_eq fold_ne fold_lt fold_gt abs_eq
set_option maxRecDepth 20000
theorem three_box (w : World) (a b c : Value) (t : TypeId) : (w.alloc (.cells #[a, b, c] t)).cell? ⟨w.heap.size, 0, none⟩ = some a ∧ (w.alloc (.cells #[a, b, c] t)).cell? ⟨w.heap.size, 1, none⟩ = some b ∧ (w.alloc (.cells #[a, b, c] t)).cell? ⟨w.heap.size, 2, none⟩ = some c := by
  refine ⟨?_, ?_, ?_⟩ <;> rw [World.cell?_alloc_at _ _ _ _ rfl] <;> rfl
theorem field57_0 (x y : Int) (w : World) : (Instr.field 178 (.agg #[.int .i64 x, .int .i64 y]) 0).run Tryz.prog w = .ok (.int .i64 x) w := by kernel_rfl
theorem field57_1 (x y : Int) (w : World) : (Instr.field 178 (.agg #[.int .i64 x, .int .i64 y]) 1).run Tryz.prog w = .ok (.int .i64 y) w := by kernel_rfl
theorem eg39 (args : Array Value) (w : World) : (callFunc 150 args).run Tryz.prog w = .ok (.enter 150 args) w := enters Tryz.func150 (by kernel_rfl) (by kernel_rfl) _ _
theorem eg44 (args : Array Value) (w : World) : (callFunc 155 args).run Tryz.prog w = .ok (.enter 155 args) w := enters Tryz.func155 (by kernel_rfl) (by kernel_rfl) _ _
theorem t42 (a b : Int) (c : Nat) (w : World) : Calls Tryz.prog 153 #[.agg #[.int .i64 a, .int .i64 b, .float .f64 c]] w (FU w (ab c)) := by
  go_enter Tryz.func153, Tryz.ntmps153
  go_wp2
  go_ret
  exact FU.mk rfl (Up.alloc _ _)
theorem t43 {w : World} (a b : Int) (c : Nat) {t q : Nat} {tb bins : Int} (ht : w.cell? ⟨t, 0, none⟩ = some (.int .i64 tb)) (hq : w.cell? ⟨q, 0, none⟩ = some (.int .i64 bins)) (h0 : 0 ≤ bins) (h1 : bins ≤ 1073741824) (h2 : -1073741824 ≤ tb) (h3 : tb ≤ 1073741824) :
    Calls Tryz.prog 154 #[.agg #[.int .i64 a, .int .i64 b, .float .f64 c], .pointer (some ⟨t, 0, none⟩), .pointer (some ⟨q, 0, none⟩)] w (FU w (bin .mul (ab c) (ab (floatOfInt .f64 (nearF (clI a - tb) bins))))) := by
  obtain ⟨k1, k2, k3⟩ := three_box w (.int .i64 a) (.int .i64 b) (.float .f64 c) 151
  have k4 := cell_up ht (Up.alloc w (.cells #[.int .i64 a, .int .i64 b, .float .f64 c] 151))
  have k5 := cell_up hq (Up.alloc w (.cells #[.int .i64 a, .int .i64 b, .float .f64 c] 151))
  have HU : Hid (Up w (w.alloc (.cells #[.int .i64 a, .int .i64 b, .float .f64 c] 151))) := Up.alloc _ _
  obtain ⟨c1, c2⟩ := clI_in a
  clear ht hq
  have hfd := field57_0 (clI a) (clI b)
  have C39 : Hid (∀ w, Calls Tryz.prog 150 #[.agg #[.int .i64 a, .int .i64 b, .float .f64 c]] w (VU w (.agg #[.int .i64 (clI a), .int .i64 (clI b)]))) := fun w => t39 _ _ _ w
  have hwr : IntKind.i64.wrap (clI a - tb) = clI a - tb := by rw [IntKind.wrap_i64]; omega
  have C44 : Hid (∀ w, Calls Tryz.prog 155 #[.int .i64 (clI a - tb), .int .i64 bins] w fun e w' => e = .returned (.int .i64 (nearF (clI a - tb) bins)) ∧ w' = w) := fun w => t44 _ _ w h0 h1 (by omega) (by omega)
  go_enter Tryz.func154, Tryz.ntmps154
  go_wp2
  generalize w.alloc (.cells #[.int .i64 a, .int .i64 b, .float .f64 c] 151) = W at *
  generalize w.heap.size = g at *
  generalize clI a = x at *
  generalize clI b = y at *
  refine wp_region_ord 11 [(0, none), (1, some false), (2, some false), (5, none), (6, some false), (8, some false), (3, some true), (4, none), (7, none), (9, some true), (10, none)] (fun w' => Up W w') (by kernel_rfl) (by decide) rfl (by kernel_rfl) (fun _ _ d _ _ h => by cases d <;> exact h) (Up.drewN W 1) ?_
  refine ⟨_, .pointer (some ⟨g, 2, none⟩), some 5, rfl, rfl, Or.inl ⟨rfl, fun w' hS => ?_⟩, ?_⟩
  · go_simp
  refine ⟨_, .float .f64 c, some 6, rfl, rfl, Or.inl ⟨rfl, fun w' hS => ?_⟩, ?_⟩
  · have l1 := cell_up k1 hS
    have l2 := cell_up k2 hS
    have l3 := cell_up k3 hS
    have l4 := cell_up k4 hS
    have l5 := cell_up k5 hS
    go_simp
  refine ⟨_, .agg #[.int .i64 a, .int .i64 b, .float .f64 c], some 7, rfl, rfl, Or.inl ⟨rfl, fun w' hS => ?_⟩, ?_⟩
  · have l1 := cell_up k1 hS
    have l2 := cell_up k2 hS
    have l3 := cell_up k3 hS
    have l4 := cell_up k4 hS
    have l5 := cell_up k5 hS
    go_simp
  refine ⟨_, .pointer (some ⟨t, 0, none⟩), some 10, rfl, rfl, Or.inl ⟨rfl, fun w' hS => ?_⟩, ?_⟩
  · go_simp
  refine ⟨_, .int .i64 tb, some 11, rfl, rfl, Or.inl ⟨rfl, fun w' hS => ?_⟩, ?_⟩
  · have l1 := cell_up k1 hS
    have l2 := cell_up k2 hS
    have l3 := cell_up k3 hS
    have l4 := cell_up k4 hS
    have l5 := cell_up k5 hS
    go_simp
  refine ⟨_, .int .i64 bins, some 13, rfl, rfl, Or.inl ⟨rfl, fun w' hS => ?_⟩, ?_⟩
  · have l1 := cell_up k1 hS
    have l2 := cell_up k2 hS
    have l3 := cell_up k3 hS
    have l4 := cell_up k4 hS
    have l5 := cell_up k5 hS
    go_simp
  refine wpOp_call (f := 150) rfl rfl rfl #[.agg #[.int .i64 a, .int .i64 b, .float .f64 c]] (by kernel_rfl) (eg39 _ _) ?_
  refine (C39.out _).mono ?_
  rintro e w1 ⟨rfl, HU1⟩
  have HUA : Hid (Up W w1) := (show Up W W.drew from Up.drewN W 1).trans HU1.out.up
  refine ⟨_, rfl, HUA.out, ?_⟩
  refine ⟨_, .int .i64 x, some 9, rfl, rfl, Or.inl ⟨rfl, fun w' hS => ?_⟩, ?_⟩
  · go_simp
  refine ⟨_, .int .i64 (x - tb), some 12, rfl, rfl, Or.inl ⟨rfl, fun w' hS => ?_⟩, ?_⟩
  · go_simp
  refine wpOp_call (f := 155) rfl rfl rfl #[.int .i64 (x - tb), .int .i64 bins] (by kernel_rfl) (eg44 _ _) ?_
  refine (C44.out _).mono ?_
  rintro e w' ⟨rfl, hw⟩
  subst w'
  refine ⟨_, rfl, HUA.out, ?_⟩
  refine ⟨_, .float .f64 (floatOfInt .f64 (nearF (x - tb) bins)), some 15, rfl, rfl, Or.inl ⟨rfl, fun w' hS => ?_⟩, ?_⟩
  · go_simp
  simp only [OrdW, List.drop_succ_cons, List.drop_zero, Act.put, List.setIfInBounds_toArray, List.set_cons_succ, List.set_cons_zero]
  go_wp2_with ((with_reducible refine upon_fl (by simp) ?_); intro r3 k3 hr3)
  go_ret
  exact FU.mk hr3.out (HU.out.trans (HUA.out.trans (Up.drewN _ _)))
theorem t45 {w : World} (a b : Int) (c : Nat) {t : Nat} {tb : Int} (ht : w.cell? ⟨t, 1, none⟩ = some (.int .i64 tb)) (h2 : -1073741824 ≤ tb) (h3 : tb ≤ 1073741824) :
    Calls Tryz.prog 156 #[.agg #[.int .i64 a, .int .i64 b, .float .f64 c], .pointer (some ⟨t, 0, none⟩)] w (FU w (bin .mul (ab c) (ab (floatOfInt .f64 (clI b - tb))))) := by
  obtain ⟨k1, k2, k3⟩ := three_box w (.int .i64 a) (.int .i64 b) (.float .f64 c) 151
  have k4 := cell_up ht (Up.alloc w (.cells #[.int .i64 a, .int .i64 b, .float .f64 c] 151))
  have HU : Hid (Up w (w.alloc (.cells #[.int .i64 a, .int .i64 b, .float .f64 c] 151))) := Up.alloc _ _
  obtain ⟨c1, c2⟩ := clI_in b
  clear ht
  have hfd := field57_1 (clI a) (clI b)
  have C39 : Hid (∀ w, Calls Tryz.prog 150 #[.agg #[.int .i64 a, .int .i64 b, .float .f64 c]] w (VU w (.agg #[.int .i64 (clI a), .int .i64 (clI b)]))) := fun w => t39 _ _ _ w
  have hwr : IntKind.i64.wrap (clI b - tb) = clI b - tb := by rw [IntKind.wrap_i64]; omega
  go_enter Tryz.func156, Tryz.ntmps156
  go_wp2
  generalize w.alloc (.cells #[.int .i64 a, .int .i64 b, .float .f64 c] 151) = W at *
  generalize w.heap.size = g at *
  generalize clI a = x at *
  generalize clI b = y at *
  refine wp_region_ord 9 [(0, none), (1, some false), (2, some false), (5, none), (6, some false), (3, some true), (4, none), (7, none), (8, none)] (fun w' => Up W w') (by kernel_rfl) (by decide) rfl (by kernel_rfl) (fun _ _ d _ _ h => by cases d <;> exact h) (Up.drewN W 1) ?_
  refine ⟨_, .pointer (some ⟨g, 2, none⟩), some 4, rfl, rfl, Or.inl ⟨rfl, fun w' hS => ?_⟩, ?_⟩
  · go_simp
  refine ⟨_, .float .f64 c, some 5, rfl, rfl, Or.inl ⟨rfl, fun w' hS => ?_⟩, ?_⟩
  · have l1 := cell_up k1 hS
    have l2 := cell_up k2 hS
    have l3 := cell_up k3 hS
    have l4 := cell_up k4 hS
    go_simp
  refine ⟨_, .agg #[.int .i64 a, .int .i64 b, .float .f64 c], some 6, rfl, rfl, Or.inl ⟨rfl, fun w' hS => ?_⟩, ?_⟩
  · have l1 := cell_up k1 hS
    have l2 := cell_up k2 hS
    have l3 := cell_up k3 hS
    have l4 := cell_up k4 hS
    go_simp
  refine ⟨_, .pointer (some ⟨t, 1, none⟩), some 9, rfl, rfl, Or.inl ⟨rfl, fun w' hS => ?_⟩, ?_⟩
  · go_simp
  refine ⟨_, .int .i64 tb, some 10, rfl, rfl, Or.inl ⟨rfl, fun w' hS => ?_⟩, ?_⟩
  · have l1 := cell_up k1 hS
    have l2 := cell_up k2 hS
    have l3 := cell_up k3 hS
    have l4 := cell_up k4 hS
    go_simp
  refine wpOp_call (f := 150) rfl rfl rfl #[.agg #[.int .i64 a, .int .i64 b, .float .f64 c]] (by kernel_rfl) (eg39 _ _) ?_
  refine (C39.out _).mono ?_
  rintro e w1 ⟨rfl, HU1⟩
  have HUA : Hid (Up W w1) := (show Up W W.drew from Up.drewN W 1).trans HU1.out.up
  refine ⟨_, rfl, HUA.out, ?_⟩
  refine ⟨_, .int .i64 y, some 8, rfl, rfl, Or.inl ⟨rfl, fun w' hS => ?_⟩, ?_⟩
  · go_simp
  refine ⟨_, .int .i64 (y - tb), some 11, rfl, rfl, Or.inl ⟨rfl, fun w' hS => ?_⟩, ?_⟩
  · go_simp
  refine ⟨_, .float .f64 (floatOfInt .f64 (y - tb)), some 12, rfl, rfl, Or.inl ⟨rfl, fun w' hS => ?_⟩, ?_⟩
  · go_simp
  simp only [OrdW, List.drop_succ_cons, List.drop_zero, Act.put, List.setIfInBounds_toArray, List.set_cons_succ, List.set_cons_zero]
  go_wp2_with ((with_reducible refine upon_fl (by simp) ?_); intro r3 k3 hr3)
  go_ret
  exact FU.mk hr3.out (HU.out.trans (HUA.out.trans (Up.drewN _ _)))
end Go.Proofs.YtflngnnoibkkoaaGreat.Pk
/- Centre: sums, and the strongest. -/
namespace Go.Proofs.YtflngnnoibkkoaaGreat.Pk
open Go.ChangeShapes Go.WideShapes Go.ChangeAt Go.RowKit Go.Fl Go.Sort
set_option maxRecDepth 200000
set_option maxHeartbeats 8000000
attribute [local go_sem] run_store_float run_neg fold_eq fold_ne fold_lt fold_gt abs_eq
set_option maxRecDepth 20000
def sv3 (s : Spt) : Value := .agg #[.int .i64 s.1, .int .i64 s.2.1, .float .f64 s.2.2]
set_option maxHeartbeats 2000000 in
theorem t41 {fg : Nat} {cb : Array Value} {F : Nat → Option Nat} {w : World} {p : Option Addr} {n cap : Nat} {d : Array Spt} (h : SpV w p n cap d) (h0 : 0 < n) (V : ∀ i, i < n → ∀ w', Up w w' → Calls Tryz.prog fg (#[sv3 d[i]!] ++ cb) w' (FU w' (F i))) (eg : ∀ args w, (callFunc fg args).run Tryz.prog w = .ok (.enter fg args) w) :
    Calls Tryz.prog 152 #[.slice p n cap, .func (.func fg) #[] cb] w (FU w (sumN F n)) := by
  have HV : Hid (∀ i, i < n → ∀ w', Up w w' → Calls Tryz.prog fg (#[sv3 d[i]!] ++ cb) w' (FU w' (F i))) := V
  have H : Hid (SpV w p n cap d) := h
  have hf := h.few
  have hc := h.cap
  obtain ⟨b, o, rfl, hr⟩ := h.rd h0
  have HR : Hid _ := hr
  obtain ⟨c0, c1, c2⟩ := hr 0 h0
  clear h hr V
  obtain ⟨m, rfl⟩ : ∃ m, n = m + 1 := ⟨n - 1, by omega⟩
  have e1 : ((m + 1 : Nat) : Int) = (m : Int) + 1 := by omega
  obtain ⟨s, hs⟩ : ∃ s, d[0]! = s := ⟨_, rfl⟩
  have C0 : Hid (Calls Tryz.prog fg (#[sv3 s] ++ cb) w (FU w (F 0))) := by show Calls _ _ _ _ _; rw [← hs]; exact HV.out 0 (by omega) w (Up.refl _)
  rw [hs] at c0 c1 c2
  obtain ⟨s1, s2, s3⟩ := s
  simp only [Nat.zero_mul, Nat.add_zero] at c0 c1 c2
  have C0 : Hid (Calls Tryz.prog fg (#[.agg #[.int .i64 s1, .int .i64 s2, .float .f64 s3]] ++ cb) w (FU w (F 0))) := C0
  clear hs
  have q1 : (0 : Int) < (m : Int) + 1 := by omega
  have q2 : (1 : Int) ≤ (m : Int) + 1 := by omega
  have q3 : (m : Int) + 1 ≤ (cap : Int) := by omega
  have q4 : m + 1 ≤ cap := hc
  have q5 : m + 1 - 1 = m := by omega
  go_enter Tryz.func152, Tryz.ntmps152
  go_wp2_with fail
  with_reducible refine C0.out.mono ?_
  rintro e w1 ⟨r0, rfl, HR0, HU1⟩
  clear C0
  by_cases hm0 : m = 0
  · subst hm0
    go_wp2
    all_goals
      go_loopw [5, 7, 16] (fun v5 _ vi wr => v5 = .float .f64 r0 ∧ vi = .int .i64 0 ∧ wr = w1) (fun _ _ vi _ => 0)
      case atStart => exact ⟨rfl, rfl, rfl⟩
      case round =>
        obtain ⟨rfl, rfl, hw⟩ := hrel
        subst hw
        go_wp2
        go_ret
        exact FU.mk HR0.out HU1.out
  · have hcc : ¬ cap = 1 := by omega
    have hcc2 : ¬ cap ≤ 1 := by omega
    clear hm0 c0 c1 c2
    go_wp2
    go_loopw [5, 7, 16] (fun v5 _ vi wr => ∃ i r : Nat, i ≤ m ∧ vi = .int .i64 i ∧ v5 = .float .f64 r ∧ Hid (ab r = sumN F (i + 1)) ∧ Hid (Up w wr)) (fun _ _ vi _ => m - (intOf vi).toNat)
    case atStart => exact ⟨0, r0, by omega, rfl, rfl, HR0.out, HU1.out⟩
    case round =>
      clear HR0 HU1
      obtain ⟨i, r, hi, rfl, rfl, HR1, HU2⟩ := hrel
      rename World => wr
      by_cases hlt : i < m
      · obtain ⟨k0, k1, k2⟩ := HR.out (i + 1) (by omega)
        obtain ⟨t, ht⟩ : ∃ t, d[i + 1]! = t := ⟨_, rfl⟩
        rw [ht] at k0 k1 k2
        have HT : Hid (d[i + 1]! = t) := ht
        clear ht
        obtain ⟨t1, t2, t3⟩ := t
        have j0 := cell_up ((show o + (i + 1) * 3 = o + 3 + i * 3 by omega) ▸ k0) HU2.out
        have j1 := cell_up ((show o + (i + 1) * 3 = o + 3 + i * 3 by omega) ▸ k1) HU2.out
        have j2 := cell_up ((show o + (i + 1) * 3 = o + 3 + i * 3 by omega) ▸ k2) HU2.out
        simp only at j0 j1 j2
        clear k0 k1 k2
        have y1 : (i : Int) < (m : Int) := by omega
        have C1 : Hid (Calls Tryz.prog fg (#[.agg #[.int .i64 t1, .int .i64 t2, .float .f64 t3]] ++ cb) (wr.alloc (.cells #[.int .i64 t1, .int .i64 t2, .float .f64 t3] 151)) (FU (wr.alloc (.cells #[.int .i64 t1, .int .i64 t2, .float .f64 t3] 151)) (F (i + 1)))) := by
          have := HV.out (i + 1) (by omega) (wr.alloc (.cells #[.int .i64 t1, .int .i64 t2, .float .f64 t3] 151)) (HU2.out.trans (Up.alloc _ _))
          rw [HT.out] at this; exact this
        go_wp2_with fail
        with_reducible refine C1.out.mono ?_
        rintro e w2 ⟨r1, rfl, HR2, HU3⟩
        clear C1
        go_wp2_with ((with_reducible refine upon_fl (by simp) ?_); intro r3 k3 hr3)
        go_roundw
        case rel => exact ⟨i + 1, r3, by omega, by go_num, rfl, by show _ = _; rw [sumN_step, ← HR1.out, ← HR2.out]; exact hr3.out, (HU2.out.trans (Up.alloc _ _)).trans (HU3.out.trans (Up.drewN _ _))⟩
        case measure => simp [intOf]; omega
      · obtain rfl : i = m := by omega
        go_wp2
        go_ret
        exact FU.mk HR1.out HU2.out
end Go.Proofs.YtflngnnoibkkoaaGreat.Pk
/- Centre: the strongest. -/
namespace Go.Proofs.YtflngnnoibkkoaaGreat.Pk
open Go.ChangeShapes Go.WideShapes Go.ChangeAt Go.RowKit Go.Fl Go.Sort
set_option maxRecDepth 200000
set_option maxHeartbeats 8000000
attribute [local go_sem] run_store_float run_neg fold_eq fold_ne fold_lt fold_gt abs_eq
set_option maxRecDepth 20000
/-- The place of the strongest of the first i + 1. -/
def topF (d : Array Spt) : Nat → Nat
  | 0 => 0
  | i + 1 => if abvF (ab (d[i + 1]!).2.2) (ab (d[topF d i]!).2.2) then i + 1 else topF d i
def row3 (s : Spt) : Obj := .cells #[.int .i64 s.1, .int .i64 s.2.1, .float .f64 s.2.2] 151 (0, 0)
structure TopI (w : World) (R T : Nat) (s : Spt) (wr : World) : Prop where
  up : Up w wr
  tb : wr.heap[T]? = some (row3 s)
  rb : wr.heap[R]? = some (row3 (0, 0, 0))
  lo : w.heap.size ≤ T
  ne : R ≠ T
theorem TopI.up' {w : World} {R T : Nat} {s : Spt} {wr W : World} (h : TopI w R T s wr) (hu : Up wr W) : TopI w R T s W :=
  ⟨h.up.trans hu, by rw [RowKit.Below.block hu _ (Array.getElem?_eq_some_iff.1 h.tb).1]; exact h.tb, by rw [RowKit.Below.block hu _ (Array.getElem?_eq_some_iff.1 h.rb).1]; exact h.rb, h.lo, h.ne⟩
theorem TopI.cells {w : World} {R T : Nat} {s : Spt} {wr : World} (h : TopI w R T s wr) : (wr.cell? ⟨T, 0, none⟩ = some (.int .i64 s.1) ∧ wr.cell? ⟨T, 1, none⟩ = some (.int .i64 s.2.1) ∧ wr.cell? ⟨T, 2, none⟩ = some (.float .f64 s.2.2)) ∧ wr.frozen? ⟨T, 0, none⟩ = false ∧ wr.frozen? ⟨T, 1, none⟩ = false ∧ wr.frozen? ⟨T, 2, none⟩ = false :=
  ⟨⟨by rw [cell_of_row _ _ _ _ _ _ h.tb]; rfl, by rw [cell_of_row _ _ _ _ _ _ h.tb]; rfl, by rw [cell_of_row _ _ _ _ _ _ h.tb]; rfl⟩, by simp [World.frozen?, h.tb, row3], by simp [World.frozen?, h.tb, row3], by simp [World.frozen?, h.tb, row3]⟩
theorem TopI.put {w : World} {R T : Nat} {s : Spt} {wr : World} (h : TopI w R T s wr) (t : Spt) : TopI w R T t (wr.setCells T 0 (spC t)) := by
  have hk : Kp (fun k => k ≠ T) wr (wr.setCells T 0 (spC t)) := kp_setCells (by simp) _ _ _
  refine ⟨h.up.trans2 hk (fun k hk => by have := h.lo; omega), row_setCells (spC t) 0 wr _ h.tb, ?_, h.lo, h.ne⟩
  rw [hk.block R h.ne (Array.getElem?_eq_some_iff.1 h.rb).1]; exact h.rb
theorem TopI.res {w : World} {R T : Nat} {s : Spt} {wr : World} (h : TopI w R T s wr) (hR : w.heap.size ≤ R) : (wr.setCells R 0 (spC s)).heap[R]? = some (row3 s) ∧ Up w (wr.setCells R 0 (spC s)) := by
  have hk : Kp (fun k => k ≠ R) wr (wr.setCells R 0 (spC s)) := kp_setCells (by simp) _ _ _
  exact ⟨row_setCells (spC s) 0 wr _ h.rb, h.up.trans2 hk (fun k hk => by omega)⟩
theorem TopI.rcells {w : World} {R T : Nat} {s : Spt} {wr : World} (h : TopI w R T s wr) : (wr.cell? ⟨R, 0, none⟩ = some (.int .i64 0) ∧ wr.cell? ⟨R, 1, none⟩ = some (.int .i64 0) ∧ wr.cell? ⟨R, 2, none⟩ = some (.float .f64 0)) ∧ wr.frozen? ⟨R, 0, none⟩ = false ∧ wr.frozen? ⟨R, 1, none⟩ = false ∧ wr.frozen? ⟨R, 2, none⟩ = false :=
  ⟨⟨by rw [cell_of_row _ _ _ _ _ _ h.rb]; rfl, by rw [cell_of_row _ _ _ _ _ _ h.rb]; rfl, by rw [cell_of_row _ _ _ _ _ _ h.rb]; rfl⟩, by simp [World.frozen?, h.rb, row3], by simp [World.frozen?, h.rb, row3], by simp [World.frozen?, h.rb, row3]⟩
set_option maxHeartbeats 2000000 in
theorem t40 {w : World} {p : Option Addr} {n cap : Nat} {d : Array Spt} (h : SpV w p n cap d) (h0 : 0 < n) :
    Calls Tryz.prog 151 #[.slice p n cap] w fun e w' => e = .returned (sv3 d[topF d (n - 1)]!) ∧ Hid (Up w w') := by
  have hf := h.few
  have hc := h.cap
  obtain ⟨b, o, rfl, hr⟩ := h.rd h0
  have HR : Hid _ := hr
  obtain ⟨c0, c1, c2⟩ := hr 0 h0
  clear h hr
  obtain ⟨m, rfl⟩ : ∃ m, n = m + 1 := ⟨n - 1, by omega⟩
  have e1 : ((m + 1 : Nat) : Int) = (m : Int) + 1 := by omega
  obtain ⟨s, hs⟩ : ∃ s, d[0]! = s := ⟨_, rfl⟩
  rw [hs] at c0 c1 c2
  have HS : Hid (d[0]! = s) := hs
  obtain ⟨s1, s2, s3⟩ := s
  simp only [Nat.zero_mul, Nat.add_zero] at c0 c1 c2
  clear hs
  have q1 : (0 : Int) < (m : Int) + 1 := by omega
  have q2 : (1 : Int) ≤ (m : Int) + 1 := by omega
  have q3 : (m : Int) + 1 ≤ (cap : Int) := by omega
  have q4 : m + 1 ≤ cap := hc
  have q5 : m + 1 - 1 = m := by omega
  have d0 := cell_up c0 (Up.alloc w (row3 (0, 0, 0)))
  have d1 := cell_up c1 (Up.alloc w (row3 (0, 0, 0)))
  have d2 := cell_up c2 (Up.alloc w (row3 (0, 0, 0)))
  unfold row3 at d0 d1 d2
  simp only at d0 d1 d2
  have HT0 : Hid (TopI w w.heap.size (w.heap.size + 1) d[topF d 0]! ((w.alloc (.cells #[.int .i64 0, .int .i64 0, .float .f64 0] 151)).alloc (.cells #[.int .i64 s1, .int .i64 s2, .float .f64 s3] 151))) := by
    obtain ⟨k1, k2⟩ := two_boxes w #[.int .i64 0, .int .i64 0, .float .f64 0] #[.int .i64 s1, .int .i64 s2, .float .f64 s3] 151 151
    refine ⟨(Up.alloc _ _).trans (Up.alloc _ _), ?_, k1, by omega, by omega⟩
    show _ = some (row3 d[0]!)
    rw [HS.out]; exact k2
  have FIN : Hid (∀ wr s, TopI w w.heap.size (w.heap.size + 1) s wr → ∀ tmps : Array Value, tmps.getD 2 undef = .pointer (some ⟨w.heap.size, 0, none⟩) → s = d[topF d m]! → bodyPost Tryz.prog Tryz.f151 (fun e w' => e = .returned (sv3 d[topF d m]!) ∧ Hid (Up w w')) Exit.ret { tmps := tmps, defers := [] } (wr.setCells w.heap.size 0 (spC s))) := by
    intro wr s hT tmps ht hs
    obtain ⟨r1, r2⟩ := hT.res (Nat.le_refl _)
    exact bodyPost_ret (results_cell_row Tryz.results151 _ _ _ 151 #[.int .i64 s.1, .int .i64 s.2.1, .float .f64 s.2.2] (0, 0) _ ht r1 Tryz.underlying151 rfl (by kernel_rfl)) rfl ⟨by rw [← hs]; rfl, r2⟩
  by_cases hm0 : m = 0
  · subst hm0
    go_enter Tryz.func151, Tryz.ntmps151
    go_wp2
    all_goals
      go_loopw [5, 12] (fun _ vi wr => vi = .int .i64 0 ∧ wr = ((w.alloc (.cells #[.int .i64 0, .int .i64 0, .float .f64 0] 151)).alloc (.cells #[.int .i64 s1, .int .i64 s2, .float .f64 s3] 151))) (fun _ vi _ => 0)
      case atStart => exact ⟨rfl, rfl⟩
      case round =>
        obtain ⟨rfl, hw⟩ := hrel
        subst hw
        obtain ⟨⟨y0, y1, y2⟩, -⟩ := HT0.out.cells
        obtain ⟨⟨v0, v1, v2⟩, z0, z1, z2⟩ := HT0.out.rcells
        have hs0 : d[topF d 0]! = (s1, s2, s3) := HS.out
        rw [hs0] at y0 y1 y2
        have HT1 : Hid (TopI w w.heap.size (w.heap.size + 1) (s1, s2, s3) ((w.alloc (.cells #[.int .i64 0, .int .i64 0, .float .f64 0] 151)).alloc (.cells #[.int .i64 s1, .int .i64 s2, .float .f64 s3] 151))) := hs0 ▸ HT0.out
        clear d0 d1 d2
        generalize (w.alloc (.cells #[.int .i64 0, .int .i64 0, .float .f64 0] 151)).alloc (.cells #[.int .i64 s1, .int .i64 s2, .float .f64 s3] 151) = W at *
        simp only at y0 y1 y2
        go_wp2
        refine FIN.out W (s1, s2, s3) HT1.out _ ?_ hs0.symm
        rfl
  · have hcc : ¬ cap = 1 := by omega
    have hcc2 : ¬ cap ≤ 1 := by omega
    go_enter Tryz.func151, Tryz.ntmps151
    go_wp2
    clear hm0 c0 c1 c2 d0 d1 d2
    generalize (w.alloc (.cells #[.int .i64 0, .int .i64 0, .float .f64 0] 151)).alloc (.cells #[.int .i64 s1, .int .i64 s2, .float .f64 s3] 151) = W at *
    go_loopw [5, 12] (fun _ vi wr => ∃ i : Nat, i ≤ m ∧ vi = .int .i64 i ∧ Hid (TopI w w.heap.size (w.heap.size + 1) d[topF d i]! wr)) (fun _ vi _ => m - (intOf vi).toNat)
    case atStart => exact ⟨0, by omega, rfl, HT0⟩
    case round =>
      clear HT0
      obtain ⟨i, hi, rfl, HT⟩ := hrel
      rename World => wr
      by_cases hlt : i < m
      · obtain ⟨k0, k1, k2⟩ := HR.out (i + 1) (by omega)
        obtain ⟨t, ht⟩ : ∃ t, d[i + 1]! = t := ⟨_, rfl⟩
        rw [ht] at k0 k1 k2
        have HTT : Hid (d[i + 1]! = t) := ht
        clear ht
        obtain ⟨t1, t2, t3⟩ := t
        obtain ⟨u, hu⟩ : ∃ u, d[topF d i]! = u := ⟨_, rfl⟩
        have HUU : Hid (d[topF d i]! = u) := hu
        rw [hu] at HT
        clear hu
        have j0 := cell_up ((show o + (i + 1) * 3 = o + 3 + i * 3 by omega) ▸ k0) HT.out.up
        have j1 := cell_up ((show o + (i + 1) * 3 = o + 3 + i * 3 by omega) ▸ k1) HT.out.up
        have j2 := cell_up ((show o + (i + 1) * 3 = o + 3 + i * 3 by omega) ▸ k2) HT.out.up
        simp only at j0 j1 j2
        clear k0 k1 k2
        have y1 : (i : Int) < (m : Int) := by omega
        have HT1 : Hid (TopI w w.heap.size (w.heap.size + 1) u (wr.alloc (.cells #[.int .i64 t1, .int .i64 t2, .float .f64 t3] 151))) := HT.out.up' (Up.alloc _ _)
        obtain ⟨⟨x0, x1, x2⟩, f0, f1, f2⟩ := HT1.out.cells
        obtain ⟨u1, u2, u3⟩ := u
        simp only at x0 x1 x2
        obtain ⟨b0, b1, b3⟩ := three_box wr (.int .i64 t1) (.int .i64 t2) (.float .f64 t3) 151
        have HST : Hid (d[topF d (i + 1)]! = if abvF (ab t3) (ab u3) = true then (t1, t2, t3) else (u1, u2, u3)) := by
          show _ = _
          rw [topF, HUU.out, HTT.out]
          split
          · exact HTT.out
          · exact HUU.out
        clear HT
        go_wp2_with (go_at_call 183; (with_reducible refine (t66 _ _ _).mono ?_); rintro e w' ⟨rfl, hw⟩; subst w')
        · have HT2 := HT1.out.put (t1, t2, t3)
          go_roundw
          case rel => exact ⟨i + 1, by omega, by go_num, by show TopI _ _ _ _ _; rw [HST.out, if_pos (by assumption)]; exact HT2⟩
          case measure => simp [intOf]; omega
        · go_roundw
          case rel => exact ⟨i + 1, by omega, by go_num, by show TopI _ _ _ _ _; rw [HST.out, if_neg (Bool.not_eq_true _ ▸ (by assumption))]; exact HT1.out⟩
          case measure => simp [intOf]; omega
      · obtain rfl : i = m := by omega
        obtain ⟨u, hu⟩ : ∃ u, d[topF d i]! = u := ⟨_, rfl⟩
        have HUU : Hid (d[topF d i]! = u) := hu
        have HT1 : Hid (TopI w w.heap.size (w.heap.size + 1) u wr) := hu ▸ HT.out
        clear hu HT
        obtain ⟨⟨x0, x1, x2⟩, -⟩ := HT1.out.cells
        obtain ⟨⟨v0, v1, v2⟩, z0, z1, z2⟩ := HT1.out.rcells
        obtain ⟨u1, u2, u3⟩ := u
        simp only at x0 x1 x2
        go_wp2
        refine FIN.out wr (u1, u2, u3) HT1.out _ ?_ HUU.out.symm
        rfl
end Go.Proofs.YtflngnnoibkkoaaGreat.Pk
/- Centre. -/
namespace Go.Proofs.YtflngnnoibkkoaaGreat.Pk
open Go.ChangeShapes Go.WideShapes Go.ChangeAt Go.RowKit Go.Fl Go.Sort
set_option maxRecDepth 200000
set_option maxHeartbeats 8000000
attribute [local go_sem] run_store_float run_neg fold_eq fold_ne fold_lt fold_gt abs_eq
set_option maxRecDepth 20000
abbrev flI (x : Int) : Option Nat := ab (floatOfInt .f64 x)
/-- Above 0 and a number that may be told. -/
def posB (x : Option Nat) : Bool := gtF x (ab 0) && (ltF x (ab 9218868437227405311) || eqF x (ab 9218868437227405311))
def powN (d : Array Spt) (n : Nat) : Option Nat := sumN (fun i => ab (d[i]!).2.2) n
def binSum (d : Array Spt) (tb B : Int) (n : Nat) : Option Nat := sumN (fun i => bin .mul (ab (d[i]!).2.2) (flI (nearF (clI (d[i]!).1 - tb) B))) n
def gateSum (d : Array Spt) (tg : Int) (n : Nat) : Option Nat := sumN (fun i => bin .mul (ab (d[i]!).2.2) (flI (clI (d[i]!).2.1 - tg))) n
def centT (d : Array Spt) (n : Nat) (B tb tg : Int) : Option Nat × Option Nat × Option Nat :=
  if posB (powN d n) then (withF (bin .add (flI tb) (bin .quo (binSum d tb B n) (powN d n))) B, bin .add (flI tg) (bin .quo (gateSum d tg n) (powN d n)), powN d n) else (flI tb, flI tg, powN d n)
/-- The middle of spots. -/
def centF (d : Array Spt) (n : Nat) (bins : Int) : Option Nat × Option Nat × Option Nat :=
  if n = 0 then (ab 0, ab 0, ab 0) else centT d n (min (max bins 0) 1073741824) (clI (d[topF d (n - 1)]!).1) (clI (d[topF d (n - 1)]!).2.1)
/-- What the call leaves. -/
def CR (w : World) (n : Nat) (c : Option Nat × Option Nat × Option Nat) (e : Ending) (w' : World) : Prop := ∃ x y z, e = .returned (.agg #[.float .f64 x, .float .f64 y, .float .f64 z, .int .i64 n]) ∧ Hid (ab x = c.1 ∧ ab y = c.2.1 ∧ ab z = c.2.2) ∧ Hid (Up w w')
theorem eg42 (args : Array Value) (w : World) : (callFunc 153 args).run Tryz.prog w = .ok (.enter 153 args) w := enters Tryz.func153 (by kernel_rfl) (by kernel_rfl) _ _
theorem eg43 (args : Array Value) (w : World) : (callFunc 154 args).run Tryz.prog w = .ok (.enter 154 args) w := enters Tryz.func154 (by kernel_rfl) (by kernel_rfl) _ _
theorem eg45 (args : Array Value) (w : World) : (callFunc 156 args).run Tryz.prog w = .ok (.enter 156 args) w := enters Tryz.func156 (by kernel_rfl) (by kernel_rfl) _ _
theorem t41p {w : World} {p : Option Addr} {n cap : Nat} {d : Array Spt} (h : SpV w p n cap d) (h0 : 0 < n) : Calls Tryz.prog 152 #[.slice p n cap, .func (.func 153) #[] #[]] w (FU w (powN d n)) :=
  t41 h h0 (fun _ _ w' _ => t42 _ _ _ w') eg42
theorem t41b {w : World} {p : Option Addr} {n cap : Nat} {d : Array Spt} {T N : Nat} {tb B : Int} (h : SpV w p n cap d) (h0 : 0 < n) (ht : w.cell? ⟨T, 0, none⟩ = some (.int .i64 tb)) (hq : w.cell? ⟨N, 0, none⟩ = some (.int .i64 B)) (b0 : 0 ≤ B) (b1 : B ≤ 1073741824) (b2 : -1073741824 ≤ tb) (b3 : tb ≤ 1073741824) :
    Calls Tryz.prog 152 #[.slice p n cap, .func (.func 154) #[] #[.pointer (some ⟨T, 0, none⟩), .pointer (some ⟨N, 0, none⟩)]] w (FU w (binSum d tb B n)) :=
  t41 h h0 (fun _ _ _ hu => t43 _ _ _ (cell_up ht hu) (cell_up hq hu) b0 b1 b2 b3) eg43
theorem t41g {w : World} {p : Option Addr} {n cap : Nat} {d : Array Spt} {T : Nat} {tg : Int} (h : SpV w p n cap d) (h0 : 0 < n) (ht : w.cell? ⟨T, 1, none⟩ = some (.int .i64 tg)) (b2 : -1073741824 ≤ tg) (b3 : tg ≤ 1073741824) :
    Calls Tryz.prog 152 #[.slice p n cap, .func (.func 156) #[] #[.pointer (some ⟨T, 0, none⟩)]] w (FU w (gateSum d tg n)) :=
  t41 h h0 (fun _ _ _ hu => t45 _ _ _ (cell_up ht hu) b2 b3) eg45
def row4 (a b c : Nat) (n : Int) : Obj := .cells #[.float .f64 a, .float .f64 b, .float .f64 c, .int .i64 n] 157 (0, 0)
theorem row4_cells {w : World} {g a b c : Nat} {n : Int} (h : w.heap[g]? = some (row4 a b c n)) : (w.cell? ⟨g, 0, none⟩ = some (.float .f64 a) ∧ w.cell? ⟨g, 1, none⟩ = some (.float .f64 b) ∧ w.cell? ⟨g, 2, none⟩ = some (.float .f64 c) ∧ w.cell? ⟨g, 3, none⟩ = some (.int .i64 n)) ∧ (w.frozen? ⟨g, 0, none⟩ = false ∧ w.frozen? ⟨g, 1, none⟩ = false ∧ w.frozen? ⟨g, 2, none⟩ = false ∧ w.frozen? ⟨g, 3, none⟩ = false) := by
  refine ⟨⟨?_, ?_, ?_, ?_⟩, ?_, ?_, ?_, ?_⟩ <;> first | (rw [cell_of_row _ _ _ _ _ _ h]; rfl) | simp [World.frozen?, h, row4]
theorem row4_up {w w' : World} {g a b c : Nat} {n : Int} (h : w.heap[g]? = some (row4 a b c n)) (hu : Up w w') : w'.heap[g]? = some (row4 a b c n) := by
  rw [RowKit.Below.block hu _ (Array.getElem?_eq_some_iff.1 h).1]; exact h
theorem cent_no {d : Array Spt} {n : Nat} {B tb tg : Int} (h : posB (powN d n) = false) : centT d n B tb tg = (flI tb, flI tg, powN d n) := by
  unfold centT; rw [if_neg (by simp [h])]
theorem cent_yes {d : Array Spt} {n : Nat} {B tb tg : Int} (h : posB (powN d n) = true) : centT d n B tb tg = (withF (bin .add (flI tb) (bin .quo (binSum d tb B n) (powN d n))) B, bin .add (flI tg) (bin .quo (gateSum d tg n) (powN d n)), powN d n) := by
  unfold centT; rw [if_pos h]
set_option maxHeartbeats 4000000 in
theorem t18 {w : World} {p : Option Addr} {n cap : Nat} {d : Array Spt} (bins : Int) (h : SpV w p n cap d) : Calls Tryz.prog 122 #[.slice p n cap, .int .i64 bins] w (CR w n (centF d n bins)) := by
  by_cases h0 : n = 0
  · subst h0
    obtain ⟨-, k2⟩ := two_boxes w #[.int .i64 bins] #[.float .f64 0, .float .f64 0, .float .f64 0, .int .i64 0] 3 157
    go_enter Tryz.func122, Tryz.ntmps122
    go_wp2
    exact bodyPost_ret (results_cell_row Tryz.results122 _ _ _ 157 #[.float .f64 0, .float .f64 0, .float .f64 0, .int .i64 0] (0, 0) _ rfl k2 Tryz.underlying157 rfl (by kernel_rfl)) rfl ⟨0, 0, 0, rfl, ⟨rfl, rfl, rfl⟩, (Up.alloc _ _).trans (Up.alloc _ _)⟩
  · have h0 : 0 < n := by omega
    have q0 : ((n : Int) == 0) = false := by rw [beq_eq_false_iff_ne]; omega
    have ecF : centF d n bins = centT d n (min (max bins 0) 1073741824) (clI (d[topF d (n - 1)]!).1) (clI (d[topF d (n - 1)]!).2.1) := by unfold centF; rw [if_neg (by omega)]
    rw [ecF]
    clear ecF
    obtain ⟨B, hB⟩ : ∃ B, min (max bins 0) 1073741824 = B := ⟨_, rfl⟩
    have b0 : 0 ≤ B := by omega
    have b1 : B ≤ 1073741824 := by omega
    obtain ⟨t, ht⟩ : ∃ t, d[topF d (n - 1)]! = t := ⟨_, rfl⟩
    rw [ht]
    obtain ⟨t1, t2, t3⟩ := t
    simp only
    have HSV : Hid (SpV w p n cap d) := h
    obtain ⟨k1, k2⟩ := two_boxes w #[.int .i64 B] #[.float .f64 0, .float .f64 0, .float .f64 0, .int .i64 0] 3 157
    have HW0 : Hid (Up w ((w.alloc (.cells #[.int .i64 B] 3)).alloc (.cells #[.float .f64 0, .float .f64 0, .float .f64 0, .int .i64 0] 157))) := (Up.alloc _ _).trans (Up.alloc _ _)
    have HBX : Hid (((w.alloc (.cells #[.int .i64 B] 3)).alloc (.cells #[.float .f64 0, .float .f64 0, .float .f64 0, .int .i64 0] 157)).cell? ⟨w.heap.size, 0, none⟩ = some (.int .i64 B)) := by
      show _ = _; rw [cell_of_row _ _ _ _ _ _ k1]; rfl
    have HRX : Hid (((w.alloc (.cells #[.int .i64 B] 3)).alloc (.cells #[.float .f64 0, .float .f64 0, .float .f64 0, .int .i64 0] 157)).heap[w.heap.size + 1]? = some (row4 0 0 0 0)) := k2
    have C40 : Hid (Calls Tryz.prog 151 #[.slice p n cap] ((w.alloc (.cells #[.int .i64 B] 3)).alloc (.cells #[.float .f64 0, .float .f64 0, .float .f64 0, .int .i64 0] 157)) fun e w' => e = .returned (.agg #[.int .i64 t1, .int .i64 t2, .float .f64 t3]) ∧ Hid (Up ((w.alloc (.cells #[.int .i64 B] 3)).alloc (.cells #[.float .f64 0, .float .f64 0, .float .f64 0, .int .i64 0] 157)) w')) := by
      have := t40 (h.up HW0.out) h0
      rw [ht] at this; exact this
    have C39 : Hid (∀ w, Calls Tryz.prog 150 #[.agg #[.int .i64 t1, .int .i64 t2, .float .f64 t3]] w (VU w (.agg #[.int .i64 (clI t1), .int .i64 (clI t2)]))) := fun w => t39 _ _ _ w
    obtain ⟨c1, c2⟩ := clI_in t1
    obtain ⟨c3, c4⟩ := clI_in t2
    have HN : Hid (((w.alloc (.cells #[.int .i64 B] 3)).alloc (.cells #[.float .f64 0, .float .f64 0, .float .f64 0, .int .i64 0] 157)).heap.size = w.heap.size + 2) := by show _ = _; simp
    clear h ht k1 k2
    generalize clI t1 = tb at *
    generalize clI t2 = tg at *
    rw [hB]
    have FIN : Hid (∀ (wr : World) (x y z : Nat) (tmps : Array Value), wr.heap[w.heap.size + 1]? = some (row4 0 0 0 0) → Up w wr → tmps.getD 4 undef = .pointer (some ⟨w.heap.size + 1, 0, none⟩) → ab x = (centT d n B tb tg).1 → ab y = (centT d n B tb tg).2.1 → ab z = (centT d n B tb tg).2.2 → bodyPost Tryz.prog Tryz.f122 (CR w n (centT d n B tb tg)) Exit.ret { tmps := tmps, defers := [] } (wr.setCells (w.heap.size + 1) 0 [.float .f64 x, .float .f64 y, .float .f64 z, .int .i64 n])) := by
      intro wr x y z tmps hrow hup htm hx hy hz
      have hk : Kp (fun k => k ≠ w.heap.size + 1) wr (wr.setCells (w.heap.size + 1) 0 [.float .f64 x, .float .f64 y, .float .f64 z, .int .i64 n]) := kp_setCells (by simp) _ _ _
      exact bodyPost_ret (results_cell_row Tryz.results122 _ _ _ 157 #[.float .f64 x, .float .f64 y, .float .f64 z, .int .i64 n] (0, 0) _ htm (row_setCells _ 0 wr _ hrow) Tryz.underlying157 rfl (by kernel_rfl)) rfl ⟨x, y, z, rfl, ⟨hx, hy, hz⟩, hup.trans2 hk (fun k hk => by omega)⟩
    go_enter Tryz.func122, Tryz.ntmps122
    go_wp2_with (first
      | (go_at_call 151; (with_reducible refine C40.out.mono ?_); rintro e w1 ⟨rfl, HU1⟩)
      | (go_at_call 150; (with_reducible refine (C39.out _).mono ?_); rintro e w2 ⟨rfl, HG2⟩;
         (have HU3 : Hid (Up w (w2.alloc (.cells #[.int .i64 tb, .int .i64 tg] 178))) := ((HW0.out.trans HU1.out).trans HG2.out.up).trans (Up.alloc _ _));
         (have C41 : Hid (Calls Tryz.prog 152 #[.slice p n cap, .func (.func 153) #[] #[]] (w2.alloc (.cells #[.int .i64 tb, .int .i64 tg] 178)) (FU (w2.alloc (.cells #[.int .i64 tb, .int .i64 tg] 178)) (powN d n))) := t41p (HSV.out.up HU3.out) h0))
      | ((fail_if_success have := HRA); go_at_call 152; (with_reducible refine C41.out.mono ?_); rintro e w4 ⟨ra, rfl, HRA, HU4⟩; clear C41;
         (have HU5 : Hid (Up w (w4.alloc (row4 (floatOfInt .f64 tb) (floatOfInt .f64 tg) ra n))) := (HU3.out.trans HU4.out).trans (Up.alloc _ _));
         (have HR5 : Hid ((w4.alloc (row4 (floatOfInt .f64 tb) (floatOfInt .f64 tg) ra n)).heap[w.heap.size + 1]? = some (row4 0 0 0 0)) := row4_up HRX.out (HU1.out.trans (HG2.out.up.trans ((Up.alloc _ _).trans (HU4.out.trans (Up.alloc _ _))))));
         (have HM5 : Hid ((w4.alloc (row4 (floatOfInt .f64 tb) (floatOfInt .f64 tg) ra n)).heap[w4.heap.size]? = some (row4 (floatOfInt .f64 tb) (floatOfInt .f64 tg) ra n)) := heap_alloc_last _ _);
         (have HT5 : Hid ((w4.alloc (row4 (floatOfInt .f64 tb) (floatOfInt .f64 tg) ra n)).cell? ⟨w2.heap.size, 0, none⟩ = some (.int .i64 tb) ∧ (w4.alloc (row4 (floatOfInt .f64 tb) (floatOfInt .f64 tg) ra n)).cell? ⟨w2.heap.size, 1, none⟩ = some (.int .i64 tg) ∧ (w4.alloc (row4 (floatOfInt .f64 tb) (floatOfInt .f64 tg) ra n)).cell? ⟨w.heap.size, 0, none⟩ = some (.int .i64 B)) := ⟨cell_up (two_cells w2 (.int .i64 tb) (.int .i64 tg) 178).1 (HU4.out.trans (Up.alloc _ _)), cell_up (two_cells w2 (.int .i64 tb) (.int .i64 tg) 178).2 (HU4.out.trans (Up.alloc _ _)), cell_up HBX.out (HU1.out.trans (HG2.out.up.trans ((Up.alloc _ _).trans (HU4.out.trans (Up.alloc _ _)))))⟩);
         (have x0 := cell_up (two_cells w2 (.int .i64 tb) (.int .i64 tg) 178).1 HU4.out); (have x1 := cell_up (two_cells w2 (.int .i64 tb) (.int .i64 tg) 178).2 HU4.out);
         (obtain ⟨⟨r0, r1, r2, r3⟩, f0, f1, f2, f3⟩ := row4_cells HR5.out);
         (obtain ⟨⟨m0, m1, m2, m3⟩, g0, g1, g2, g3⟩ := row4_cells HM5.out);
         simp only [row4] at r0 r1 r2 r3 f0 f1 f2 f3 m0 m1 m2 m3 g0 g1 g2 g3 HU5 HR5 HM5 HT5;
         (have C43 : Hid (Calls Tryz.prog 152 #[.slice p n cap, .func (.func 154) #[] #[.pointer (some ⟨w2.heap.size, 0, none⟩), .pointer (some ⟨w.heap.size, 0, none⟩)]] (w4.alloc (.cells #[.float .f64 (floatOfInt .f64 tb), .float .f64 (floatOfInt .f64 tg), .float .f64 ra, .int .i64 n] 157)) (FU (w4.alloc (.cells #[.float .f64 (floatOfInt .f64 tb), .float .f64 (floatOfInt .f64 tg), .float .f64 ra, .int .i64 n] 157)) (binSum d tb B n))) := t41b (HSV.out.up HU5.out) h0 HT5.out.1 HT5.out.2.2 b0 b1 c1 c2)))
    · have hp : posB (powN d n) = false := by rw [← HRA.out]; simp_all [posB]
      have hc := cent_no (B := B) (tb := tb) (tg := tg) hp
      refine FIN.out (w4.alloc (.cells #[.float .f64 (floatOfInt .f64 tb), .float .f64 (floatOfInt .f64 tg), .float .f64 ra, .int .i64 n] 157)) (floatOfInt .f64 tb) (floatOfInt .f64 tg) ra _ HR5.out HU5.out ?_ ?_ ?_ ?_
      · rfl
      · rw [hc]
      · rw [hc]
      · rw [hc]; exact HRA.out
    · have hp : posB (powN d n) = true := by rw [← HRA.out]; simp_all [posB]
      have hc := cent_yes (B := B) (tb := tb) (tg := tg) hp
      have HC : Hid _ := hc
      clear hp hc r0 r1 r2 r3 f0 f1 f2 f3 m0 m1 m2 m3 g0 g1 g2 g3 x0 x1
      with_reducible refine C43.out.mono ?_
      rintro e w6 ⟨rb, rfl, HRB, HU6⟩
      clear C43
      have HU6w : Hid (Up w w6) := HU5.out.trans HU6.out
      have C45 : Hid (Calls Tryz.prog 152 #[.slice p n cap, .func (.func 156) #[] #[.pointer (some ⟨w2.heap.size, 0, none⟩)]] w6 (FU w6 (gateSum d tg n))) := t41g (HSV.out.up HU6w.out) h0 (cell_up HT5.out.2.1 HU6.out) c3 c4
      go_wp2_with fail
      with_reducible refine C45.out.mono ?_
      rintro e w7 ⟨rg, rfl, HRG, HU7⟩
      clear C45
      have HU7w : Hid (Up w w7) := HU6w.out.trans HU7.out
      have HR7 : Hid (w7.heap[w.heap.size + 1]? = some (row4 0 0 0 0)) := row4_up HR5.out (HU6.out.trans HU7.out)
      have HM7 : Hid (w7.heap[w4.heap.size]? = some (row4 (floatOfInt .f64 tb) (floatOfInt .f64 tg) ra n)) := row4_up HM5.out (HU6.out.trans HU7.out)
      have hbx : w7.cell? ⟨w.heap.size, 0, none⟩ = some (.int .i64 B) := cell_up HT5.out.2.2 (HU6.out.trans HU7.out)
      have HMN : Hid (w.heap.size + 1 < w4.heap.size) := by
        have e1 := HN.out
        have e2 := RowKit.Below.size HU1.out
        have e3 := RowKit.Below.size HG2.out.up
        have e4 := RowKit.Below.size HU4.out
        simp at e4
        show _ < _
        omega
      clear HU5 HR5 HM5 HT5 HU6w HU6 HU7 C39 C40 HW0 HBX HRX HU1 HG2 HU3 HU4 HN
      generalize hM : w4.heap.size = M at *
      generalize w2.heap.size = T at *
      obtain ⟨⟨r0, r1, r2, r3⟩, f0, f1, f2, f3⟩ := row4_cells HR7.out
      obtain ⟨⟨m0, m1, m2, m3⟩, g0, g1, g2, g3⟩ := row4_cells HM7.out
      have hn1 : ¬ w.heap.size + 1 = M := by have := HMN.out; omega
      have hn2 : ¬ M = w.heap.size + 1 := by have := HMN.out; omega
      go_wp2_with (first
        | (go_at_call 157; (with_reducible refine (t46 _ _ _ b0 b1).mono ?_); rintro e w8 ⟨rx, kx, rfl, hw, HX⟩; subst w8)
        | ((with_reducible refine upon_fl (by simp) ?_); intro r3 k3 hr3))
      rename_i q1 j1 hq1 q2 j2 hq2 q3 j3 hq3
      have hk : Kp (fun k => k ≠ M) w7 ((((w7.drewN (j1 + j2 + kx)).setCell ⟨M, 0, none⟩ (.float .f64 rx)).drewN (j3 + k3)).setCell ⟨M, 1, none⟩ (.float .f64 r3)) := (((Kp.of_up (Up.drewN _ _)).trans (Kp.setCell _ _ _ _ (by simp))).trans (Kp.of_up (Up.drewN _ _))).trans (Kp.setCell _ _ _ _ (by simp))
      refine FIN.out ((((w7.drewN (j1 + j2 + kx)).setCell ⟨M, 0, none⟩ (.float .f64 rx)).drewN (j3 + k3)).setCell ⟨M, 1, none⟩ (.float .f64 r3)) rx r3 ra _ ?_ ?_ ?_ ?_ ?_ ?_
      · rw [hk.block _ hn1 (Array.getElem?_eq_some_iff.1 HR7.out).1]; exact HR7.out
      · exact HU7w.out.trans2 hk (fun k hk => by have := HMN.out; omega)
      · rfl
      · rw [HC.out, HX.out, hq2.out, hq1.out, HRB.out, HRA.out]
      · rw [HC.out, hr3.out, hq3.out, HRG.out, HRA.out]
      · rw [HC.out]; exact HRA.out
    · have hp : posB (powN d n) = false := by rw [← HRA.out]; simp_all [posB]
      have hc := cent_no (B := B) (tb := tb) (tg := tg) hp
      refine FIN.out (w4.alloc (.cells #[.float .f64 (floatOfInt .f64 tb), .float .f64 (floatOfInt .f64 tg), .float .f64 ra, .int .i64 n] 157)) (floatOfInt .f64 tb) (floatOfInt .f64 tg) ra _ HR5.out HU5.out ?_ ?_ ?_ ?_
      · rfl
      · rw [hc]
      · rw [hc]
      · rw [hc]; exact HRA.out
end Go.Proofs.YtflngnnoibkkoaaGreat.Pk
/- The spots that count: the walk. -/
namespace Go.Proofs.YtflngnnoibkkoaaGreat.Pk
open Go.ChangeShapes Go.WideShapes Go.ChangeAt Go.RowKit Go.Fl Go.Sort Go.Shelf Go.Lib
set_option maxRecDepth 200000
set_option maxHeartbeats 8000000
attribute [local go_sem] run_store_float run_neg fold_eq fold_ne fold_lt fold_gt abs_eq eqg57

theorem fit_ix {d : Array Spt} {n : Nat} (hd : d.size = n) (hW : ∀ i, i < n → Wf d[i]!) (hn : n < 18446744073709551616) : Fit2 (withIx d) := fun i hi => by
  rw [withIx_size] at hi
  rw [withIx_get hi]
  exact ⟨hW i (by omega), by show i < _; omega⟩
theorem rise_ix {d : Array Spt} {n : Nat} (hd : d.size = n) : Rise 0 n (withIx d) := fun i j _ hij hj => by
  rw [withIx_get (by omega), withIx_get (by omega)]; exact hij
/-- Sorted in place. -/
theorem t57o {w : World} {g cap N : Nat} {d : Array Spt} (HS : Sorts N) (h : OwnR w g cap d) (hd : d.size = N) (hW : ∀ i, i < N → Wf d[i]!) (hN : N < 4611686018427387904) :
    Calls Tryz.prog 175 #[.slice (some ⟨g, 0, none⟩) N cap, .func (.func 176) #[] #[]] w fun e w' => e = .returned (.tuple #[]) ∧ ∃ d1, Hid (OwnR w' g cap d1 ∧ d1.size = N ∧ CntOf d.toList (cptN d1 N)) ∧ Hid (Kp (fun k => k ≠ g) w w') := by
  refine (HS g 0 cap (withIx d) w (by rw [withIx_size, hd]) h.holds h.lt (fit_ix hd hW (by omega)) (rise_ix hd)).mono ?_
  rintro e w' ⟨rfl, d', S, hP, hS⟩
  have hs : d'.size = d.size := by rw [hP.1, withIx_size]
  obtain ⟨r1, r2⟩ := h.sorted hs S
  exact ⟨rfl, d'.map (·.1), ⟨r1, by simp; omega, cnt_sorted hd hW (by omega) hP hS⟩, r2⟩
theorem three_at (w : World) (a b c : Value) (t : TypeId) {n : Nat} (hn : n = w.heap.size) : ∀ (j : Nat) (u : Value), [a, b, c][j]? = some u → (w.alloc (.cells #[a, b, c] t)).cell? ((⟨n, 0, none⟩ : Addr).add j) = some u := by
  subst hn; exact three_new w a b c t
theorem mem_get {L : List Spt} {i : Nat} (h : i < L.length) : L.toArray[i]! ∈ L := by
  have : L.toArray[i]! = L[i] := by simp [getElem!_pos L i h]
  rw [this]; exact List.getElem_mem _
set_option maxHeartbeats 4000000 in
theorem t34 {w : World} {p : Option Addr} {n cap : Nat} {d : Array Spt} {bins : Int} (HS : ∀ m, m ≤ n → Sorts m) (h : SpV w p n cap d) : Calls Tryz.prog 146 #[.slice p n cap, .int .i64 bins] w (SR w (cntF (keptN d bins n))) := by
  have H : Hid (SpV w p n cap d) := h
  have HSO : Hid (∀ m, m ≤ n → Sorts m) := HS
  obtain ⟨i0, hi0, hz0, hz1, hz2⟩ := info_parts info29
  have hfew := h.few
  clear h HS
  go_enter Tryz.func146, Tryz.ntmps146
  go_wp2
  go_loopw [5, 7, 10] (fun v _ vi wr => ∃ (i M c : Nat) (q : Option Addr) (L : List Spt), v = .slice q M c ∧ vi = .int .i64 i ∧ i ≤ n ∧ M ≤ i ∧ Hid (L.length = M) ∧ Hid (L = keptN d bins i) ∧ Hid (SO w.heap.size wr (.slice q M c) L) ∧ Hid (Up w wr) ∧ Hid (M = 0 → q = none ∧ c = 0)) (fun _ _ vi _ => n - (intOf vi).toNat)
  case atStart => exact ⟨0, 0, 0, none, [], rfl, rfl, by omega, by omega, rfl, rfl, SO.nil _ _, Up.refl _, fun _ => ⟨rfl, rfl⟩⟩
  case round =>
    obtain ⟨i, M, c, q, L, rfl, rfl, hin, hM, HM, HL, HO, HU, HZ⟩ := hrel
    rename World => W
    by_cases hlt : i < n
    · obtain ⟨b, o, hpe, hr⟩ := (H.out.up HU.out).rd (by omega)
      subst hpe
      obtain ⟨k0, k1, k2⟩ := hr i hlt
      obtain ⟨s, hs⟩ : ∃ s, d[i]! = s := ⟨_, rfl⟩
      rw [hs] at k0 k1 k2
      obtain ⟨s1, s2, s3⟩ := s
      simp only at k0 k1 k2
      have HSS : Hid (d[i]! = (s1, s2, s3)) := hs
      have hl3 : (i : Int) < (n : Int) := by omega
      clear hs hr
      obtain ⟨f, hf⟩ : ∃ f, kpB bins (s1, s2, s3) = f := ⟨_, rfl⟩
      have HF : Hid (kpB bins (s1, s2, s3) = f) := hf
      have HU1 : Hid (Up w (W.alloc (.cells #[.int .i64 s1, .int .i64 s2, .float .f64 s3] 151))) := HU.out.trans (Up.alloc _ _)
      have HO1 : Hid (SO w.heap.size (W.alloc (.cells #[.int .i64 s1, .int .i64 s2, .float .f64 s3] 151)) (.slice q M c) L) := HO.out.up (Up.alloc _ _)
      cases f
      · have hcase : ¬ (0 ≤ s1 ∧ s1 < bins ∧ 0 ≤ s2) := by
          intro hc
          simp [kpB] at hf
          omega
        clear hf
        have HCA : Hid (¬ (0 ≤ s1 ∧ s1 < bins ∧ 0 ≤ s2)) := hcase
        clear hcase
        by_cases g1 : 0 ≤ s1
        · by_cases g2 : s1 < bins
          · have g3 : ¬ 0 ≤ s2 := fun g3 => HCA.out ⟨g1, g2, g3⟩
            go_wp2
            go_roundw
            case rel => exact ⟨i + 1, M, c, q, L, rfl, by go_num, by omega, by omega, HM, by show _ = _; rw [keptN, HSS.out, HF.out, HL.out]; simp, HO1, HU1, HZ⟩
            case measure => simp [intOf]; omega
          · go_wp2
            go_roundw
            case rel => exact ⟨i + 1, M, c, q, L, rfl, by go_num, by omega, by omega, HM, by show _ = _; rw [keptN, HSS.out, HF.out, HL.out]; simp, HO1, HU1, HZ⟩
            case measure => simp [intOf]; omega
        · go_wp2
          go_roundw
          case rel => exact ⟨i + 1, M, c, q, L, rfl, by go_num, by omega, by omega, HM, by show _ = _; rw [keptN, HSS.out, HF.out, HL.out]; simp, HO1, HU1, HZ⟩
          case measure => simp [intOf]; omega
      · simp [kpB] at hf
        obtain ⟨⟨g1, g2⟩, g3⟩ := hf
        have hown : (W.alloc (.cells #[.int .i64 s1, .int .i64 s2, .float .f64 s3] 151)).ownsRow w.heap.size 151 3 (.slice q M c) M (L.flatMap spC) := by
          have := HO1.out; unfold SO at this; rw [HM.out] at this; exact this
        have sz : w.heap.size ≤ W.heap.size := RowKit.Below.size HU.out
        go_wp2_with (first
          | (at_builtin; refine wpList_append_own _ rfl _ _ 70 rfl w.heap.size 151 i0 (.agg #[.int .i64 0, .int .i64 0, .float .f64 0]) 3 24 Tryz.underlying70 hi0 hz0 hz1 hz2 rfl (by decide) _ _ _ rfl (hown.alloc _) ⟨W.heap.size + 1, 0, none⟩ 1 1 [.int .i64 s1, .int .i64 s2, .float .f64 s3] rfl rfl (three_at _ _ _ _ _ (by simp)) (three_one rfl rfl rfl) (by unfold maxLen; omega) (by omega) (by simp; omega) ?_))
        intro v' w6 hown' hgrow _
        have R3 := so_push (s := (s1, s2, s3)) (Nat.le_refl _) HM.out hown HU1.out hown' hgrow
        have U6 : Hid (Up w w6) := R3.2
        obtain ⟨p', c', hv, _⟩ := own_form hown'
        subst hv
        have S6 : Hid (SO w.heap.size w6 (.slice p' (M + 1) c') (L ++ [(s1, s2, s3)])) := R3.1
        clear R3 hown' hgrow hown HO HO1 sz
        go_wp2
        go_roundw
        case rel => exact ⟨i + 1, M + 1, c', p', L ++ [(s1, s2, s3)], rfl, by go_num, by omega, by omega, by show _ = _; rw [List.length_append, HM.out]; rfl, by show _ = _; rw [keptN, HSS.out, HF.out, HL.out]; simp, S6, U6, fun h => by omega⟩
        case measure => simp [intOf]; omega
    · obtain rfl : i = n := by omega
      by_cases hM0 : M = 0
      · subst hM0
        have hL0 : L = [] := List.eq_nil_of_length_eq_zero HM.out
        obtain ⟨rfl, rfl⟩ := HZ.out rfl
        go_wp2_with (first
          | (go_at_call 175; (with_reducible refine (t57z _ _).mono ?_); rintro e w1 ⟨rfl, hw⟩; subst w1)
          | (go_at_call 177; (with_reducible refine (t59z _ _).mono ?_); rintro e w1 ⟨rfl, hw⟩; subst w1))
        go_ret
        rw [show cntF (keptN d bins i) = [] by rw [← HL.out, hL0]; rfl]
        exact ⟨none, 0, rfl, SO.nil _ _, HU.out⟩
      · have HW : Hid (∀ j, j < M → Wf L.toArray[j]!) := fun j hj => by
          have hm := mem_get (L := L) (i := j) (by rw [HM.out]; exact hj)
          rw [HL.out] at hm
          obtain ⟨_, x, x1, x2⟩ := keptN_mem hm
          have := H.out.wf x x1
          rw [x2] at this
          rw [HL.out]
          exact this
        obtain ⟨p', c', hv, hg⟩ := own_form HO.out
        rw [HM.out] at hv hg
        obtain ⟨g, rfl⟩ := hg (by omega)
        simp only [Value.slice.injEq] at hv
        obtain ⟨rfl, _, rfl⟩ := hv
        obtain ⟨OR, hgb, _⟩ := OwnR.of_so HO.out
        have C57 : Hid (Calls Tryz.prog 175 #[.slice (some ⟨g, 0, none⟩) M c, .func (.func 176) #[] #[]] W fun e w' => e = .returned (.tuple #[]) ∧ ∃ d1, Hid (OwnR w' g c d1 ∧ d1.size = M ∧ CntOf L (cptN d1 M)) ∧ Hid (Kp (fun k => k ≠ g) W w')) :=
          t57o (HSO.out M (by omega)) OR (by simpa using HM.out) HW.out (by omega)
        have HGB : Hid (w.heap.size ≤ g) := hgb
        clear OR hgb
        go_wp2_with (first
          | (go_at_call 175; (with_reducible refine C57.out.mono ?_); rintro e w1 ⟨rfl, d1, HR, HK⟩; (have C59 : Hid (Calls Tryz.prog 177 #[.slice (some ⟨g, 0, none⟩) M c, .func (.func 178) #[] #[]] w1 (CP w1 g c (cptN d1 M))) := t59 HR.out.1 HR.out.2.1 (by omega) (by omega)))
          | (go_at_call 177; (with_reducible refine C59.out.mono ?_); rintro e w2 ⟨m2, c2, rfl, HR2, HK2⟩))
        go_ret
        have e : cntF (keptN d bins i) = cptN d1 M := by rw [← HL.out]; exact (cntF_of L).uniq HR.out.2.2
        rw [e]
        obtain ⟨r1, r2, r3⟩ := HR2.out
        refine ⟨some ⟨g, 0, none⟩, c2, by rw [← r1]; rfl, ?_, ?_⟩
        · rw [← r1, r2]
          exact r3.so HGB.out r1.symm
        · exact (HU.out.trans2 HK.out (fun k hk => by have := HGB.out; omega)).trans2 HK2.out (fun k hk => by have := HGB.out; omega)
end Go.Proofs.YtflngnnoibkkoaaGreat.Pk
