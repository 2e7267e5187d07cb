/- A ring: NewRing, State. -/
import Derived.Test.YtdpogojhpfejjaaRe
namespace Go.Proofs.Ytdpogojhpfejjaa
open Go.ChangeShapes Go.WideShapes Go.ChangeAt Go.RowKit Go.Fl Ieee
attribute [local go_sem] run_store_float run_store_c isSome_set call32 call31 run_neg fold_eq fold_ne fold_lt fold_gt abs_eq

theorem run_fl_some {P : Program} (op : BinOp) (t : TypeId) {x y r : Nat} (w : World) (h : bin op (ab x) (ab y) = some r) : (binOp op t (.float .f64 x) (.float .f64 y)).run P w = .ok (.float .f64 r) w :=
  run_float_arith w op t .f64 x y r (by rw [bits_ab]; exact h)
theorem run_csub_some {P : Program} (t : TypeId) {a b c d u v : Nat} (w : World) (h1 : bin .sub (ab a) (ab c) = some u) (h2 : bin .sub (ab b) (ab d) = some v) : (binOp .sub t (.complex .f64 a b) (.complex .f64 c d)).run P w = .ok (.complex .f64 u v) w := by
  have f1 : (Op.floatArith .sub .f64 a c).run P w = .ok (.float .f64 u) w := run_fl_some (P := P) .sub t w h1
  have f2 : (Op.floatArith .sub .f64 b d).run P w = .ok (.float .f64 v) w := run_fl_some (P := P) .sub t w h2
  simp [binOp, Op.complexOp, Op.Complex.arith, f1, f2]
theorem run_cadd_some {P : Program} (t : TypeId) {a b c d u v : Nat} (w : World) (h1 : bin .add (ab a) (ab c) = some u) (h2 : bin .add (ab b) (ab d) = some v) : (binOp .add t (.complex .f64 a b) (.complex .f64 c d)).run P w = .ok (.complex .f64 u v) w := by
  have f1 : (Op.floatArith .add .f64 a c).run P w = .ok (.float .f64 u) w := run_fl_some (P := P) .add t w h1
  have f2 : (Op.floatArith .add .f64 b d).run P w = .ok (.float .f64 v) w := run_fl_some (P := P) .add t w h2
  simp [binOp, Op.complexOp, Op.Complex.arith, f1, f2]
theorem t13 {x y b u v : Nat} (h1 : bin .mul (ab x) (ab b) = some u) (h2 : bin .mul (ab y) (ab b) = some v) (w : World) : Calls Try.prog 13 #[.complex .f64 x y, .float .f64 b] w fun e w' => e = .returned (.complex .f64 u v) ∧ w' = w := by
  have r1 : ∀ w, (binOp .mul 25 (.float .f64 x) (.float .f64 b)).run Try.prog w = .ok (.float .f64 u) w := fun w => run_fl_some .mul 25 w h1
  have r2 : ∀ w, (binOp .mul 25 (.float .f64 y) (.float .f64 b)).run Try.prog w = .ok (.float .f64 v) w := fun w => run_fl_some .mul 25 w h2
  clear h1 h2
  go_enter Try.func13, Try.ntmps13
  go_wp2
  go_ret
  exact ⟨rfl, rfl⟩
/-- Neither endless nor NaN. -/
def Fine (x : Nat) : Prop := eqF (ab x) (ab x) = !false ∧ gtF ((ab x).map abs) (ab 9218868437227405311) = false
theorem fine1 {x : Nat} (h : Hid (Fine x)) : eqF (ab x) (ab x) = !false := h.out.1
theorem fine2 {x : Nat} (h : Hid (Fine x)) : gtF ((ab x).map abs) (ab 9218868437227405311) = false := h.out.2
theorem run_index (w : World) (x y z : Nat) (c : Nat) (hc : c < 3) : (Instr.index 26 (.agg #[.float .f64 x, .float .f64 y, .float .f64 z]) (.int .i64 c)).run Try.prog w = .ok (.float .f64 (if c = 0 then x else if c = 1 then y else z)) w := by
  rcases (show c = 0 ∨ c = 1 ∨ c = 2 by omega) with rfl | rfl | rfl <;> kernel_rfl
theorem wpList_index {ops : Array Oper} {rest : List Oper} {o : Oper} {a : Act} {Q : Exit → Act → World → Prop} {w : World} {x y z : Nat} (c v : Nat) (hv : (if c = 0 then x else if c = 1 then y else z) = v) (hgd : o.guard = none) (s i : Operand)
    (hop : o.op = Op.index 26 s i) (hs : a.eval s = .agg #[.float .f64 x, .float .f64 y, .float .f64 z]) (hx : a.eval i = .int .i64 c) (hc : c < 3)
    (hK : wpList Try.prog ops Q rest (a.put o.dst (.float .f64 v)) w) : wpList Try.prog ops Q (o :: rest) a w := by
  refine wpList_plain hgd fun K hK' => ?_
  unfold Oper.wp
  simp only [execOp, hop, hs, hx]
  have e := run_index w x y z c hc
  rw [hv] at e
  simp [e, Result.andThen]
  exact hK' _ _ hK
theorem t11 {x y z : Nat} (hx : Fine x) (hy : Fine y) (hz : Fine z) (w : World) : Calls Try.prog 11 #[.agg #[.float .f64 x, .float .f64 y, .float .f64 z]] w fun e w' => e = .returned (.bool true) ∧ Hid (Up w w') := by
  have HX : Hid (Fine x) := hx
  have HY : Hid (Fine y) := hy
  have HZ : Hid (Fine z) := hz
  clear hx hy hz
  go_enter Try.func11, Try.ntmps11
  go_wp2
  have HU0 : Hid (Up w (w.alloc (.cells #[.float .f64 x, .float .f64 y, .float .f64 z] 26))) := Up.alloc _ _
  generalize w.alloc (.cells #[.float .f64 x, .float .f64 y, .float .f64 z] 26) = w1 at *
  generalize w.heap.size = s0 at *
  go_loopw [4, 6] (fun _ vi wr => ∃ c : Int, (c = 0 ∨ c = 1 ∨ c = 2 ∨ c = 3) ∧ vi = .int .i64 c ∧ Hid (Up w wr)) (fun _ vi _ => 3 - (intOf vi).toNat)
  case atStart => exact ⟨0, by omega, rfl, HU0⟩
  case round =>
    obtain ⟨c, hc, rfl, HU⟩ := hrel
    rcases hc with rfl | rfl | rfl | rfl
    · go_wp2_with (first
        | (refine wpList_index 0 x rfl rfl _ _ rfl rfl rfl (by omega) ?_)
        | (go_at_call 19; (with_reducible refine (t19k (fine1 HX) _).mono ?_); rintro e w' ⟨rfl, rfl⟩)
        | (go_at_call 20; (with_reducible refine (t20k (fine2 HX) _).mono ?_); rintro e w' ⟨rfl, rfl⟩))
      go_roundw
      case rel => exact ⟨1, by omega, rfl, HU⟩
      case measure => simp [intOf]
    · go_wp2_with (first
        | (refine wpList_index 1 y rfl rfl _ _ rfl rfl rfl (by omega) ?_)
        | (go_at_call 19; (with_reducible refine (t19k (fine1 HY) _).mono ?_); rintro e w' ⟨rfl, rfl⟩)
        | (go_at_call 20; (with_reducible refine (t20k (fine2 HY) _).mono ?_); rintro e w' ⟨rfl, rfl⟩))
      go_roundw
      case rel => exact ⟨2, by omega, rfl, HU⟩
      case measure => simp [intOf]
    · go_wp2_with (first
        | (refine wpList_index 2 z rfl rfl _ _ rfl rfl rfl (by omega) ?_)
        | (go_at_call 19; (with_reducible refine (t19k (fine1 HZ) _).mono ?_); rintro e w' ⟨rfl, rfl⟩)
        | (go_at_call 20; (with_reducible refine (t20k (fine2 HZ) _).mono ?_); rintro e w' ⟨rfl, rfl⟩))
      go_roundw
      case rel => exact ⟨3, by omega, rfl, HU⟩
      case measure => simp [intOf]
    · go_wp2
      go_ret
      exact ⟨rfl, HU⟩
/-- A ring: its numbers, and its state. -/
structure RG (b0 : Nat) (w : World) (b B0 B1 B2 A1 A2 sx sy tx ty : Nat) : Prop where
  lo : b0 ≤ b
  k0 : w.cell? ⟨b, 0, none⟩ = some (.float .f64 B0)
  k1 : w.cell? ⟨b, 1, none⟩ = some (.float .f64 B1)
  k2 : w.cell? ⟨b, 2, none⟩ = some (.float .f64 B2)
  k3 : w.cell? ⟨b, 3, none⟩ = some (.float .f64 A1)
  k4 : w.cell? ⟨b, 4, none⟩ = some (.float .f64 A2)
  k5 : w.cell? ⟨b, 5, none⟩ = some (.complex .f64 sx sy)
  k6 : w.cell? ⟨b, 6, none⟩ = some (.complex .f64 tx ty)
  f5 : w.frozen? ⟨b, 5, none⟩ = false
  f6 : w.frozen? ⟨b, 6, none⟩ = false
theorem RG.but {b0 g : Nat} {w w' : World} {b B0 B1 B2 A1 A2 sx sy tx ty : Nat} (h : RG b0 w b B0 B1 B2 A1 A2 sx sy tx ty) (hb : But g w w') (hne : b ≠ g) : RG b0 w' b B0 B1 B2 A1 A2 sx sy tx ty :=
  ⟨h.lo, hb.cell hne h.k0, hb.cell hne h.k1, hb.cell hne h.k2, hb.cell hne h.k3, hb.cell hne h.k4, hb.cell hne h.k5, hb.cell hne h.k6,
    (World.grownBy.frozen_far hb ⟨b, 5, none⟩ (World.block_lt_of_cell? w _ h.k5) (by simpa using hne)).trans h.f5,
    (World.grownBy.frozen_far hb ⟨b, 6, none⟩ (World.block_lt_of_cell? w _ h.k6) (by simpa using hne)).trans h.f6⟩
theorem RG.up {b0 : Nat} {w w' : World} {b B0 B1 B2 A1 A2 sx sy tx ty : Nat} (h : RG b0 w b B0 B1 B2 A1 A2 sx sy tx ty) (hu : Up w w') : RG b0 w' b B0 B1 B2 A1 A2 sx sy tx ty :=
  h.but (g := b + 1) (But.of_up hu) (by omega)
theorem RG.new {b0 : Nat} {w : World} {B0 B1 B2 A1 A2 : Nat} (hb : b0 ≤ w.heap.size) :
    RG b0 (w.alloc (.cells #[.float .f64 B0, .float .f64 B1, .float .f64 B2, .float .f64 A1, .float .f64 A2, .complex .f64 0 0, .complex .f64 0 0] 45)) w.heap.size B0 B1 B2 A1 A2 0 0 0 0 := by
  have hh := heap_alloc_last w (.cells #[.float .f64 B0, .float .f64 B1, .float .f64 B2, .float .f64 A1, .float .f64 A2, .complex .f64 0 0, .complex .f64 0 0] 45)
  refine ⟨hb, ?_, ?_, ?_, ?_, ?_, ?_, ?_, ?_, ?_⟩ <;> first | (rw [cell_of_row _ _ _ _ _ _ hh]; rfl) | exact World.frozen?_alloc_at _ _ _ _ rfl
def NR (w : World) (B0 B1 B2 A1 A2 : Nat) (e : Ending) (w' : World) : Prop := ∃ b, e = .returned (.tuple #[.pointer (some ⟨b, 0, none⟩), .int .i64 0]) ∧ Hid (RG w.heap.size w' b B0 B1 B2 A1 A2 0 0 0 0) ∧ Hid (Up w w')
set_option maxHeartbeats 1000000 in
theorem t5 {b0 b1 b2 a0 a1 a2 B0 B1 B2 A1 A2 : Nat} (fb0 : Fine b0) (fb1 : Fine b1) (fb2 : Fine b2) (fa0 : Fine a0) (fa1 : Fine a1) (fa2 : Fine a2) (hz : eqF (ab a0) (ab 0) = false)
    (q0 : bin .quo (ab b0) (ab a0) = some B0) (q1 : bin .quo (ab b1) (ab a0) = some B1) (q2 : bin .quo (ab b2) (ab a0) = some B2) (q3 : bin .quo (ab a1) (ab a0) = some A1) (q4 : bin .quo (ab a2) (ab a0) = some A2) (w : World) :
    Calls Try.prog 5 #[.agg #[.float .f64 b0, .float .f64 b1, .float .f64 b2], .agg #[.float .f64 a0, .float .f64 a1, .float .f64 a2]] w (NR w B0 B1 B2 A1 A2) := by
  have r0 : ∀ w, (binOp .quo 25 (.float .f64 b0) (.float .f64 a0)).run Try.prog w = .ok (.float .f64 B0) w := fun w => run_fl_some .quo 25 w q0
  have r1 : ∀ w, (binOp .quo 25 (.float .f64 b1) (.float .f64 a0)).run Try.prog w = .ok (.float .f64 B1) w := fun w => run_fl_some .quo 25 w q1
  have r2 : ∀ w, (binOp .quo 25 (.float .f64 b2) (.float .f64 a0)).run Try.prog w = .ok (.float .f64 B2) w := fun w => run_fl_some .quo 25 w q2
  have r3 : ∀ w, (binOp .quo 25 (.float .f64 a1) (.float .f64 a0)).run Try.prog w = .ok (.float .f64 A1) w := fun w => run_fl_some .quo 25 w q3
  have r4 : ∀ w, (binOp .quo 25 (.float .f64 a2) (.float .f64 a0)).run Try.prog w = .ok (.float .f64 A2) w := fun w => run_fl_some .quo 25 w q4
  clear q0 q1 q2 q3 q4
  have CB : Hid (∀ w, Calls Try.prog 11 #[.agg #[.float .f64 b0, .float .f64 b1, .float .f64 b2]] w fun e w' => e = .returned (.bool true) ∧ Hid (Up w w')) := t11 fb0 fb1 fb2
  have CA : Hid (∀ w, Calls Try.prog 11 #[.agg #[.float .f64 a0, .float .f64 a1, .float .f64 a2]] w fun e w' => e = .returned (.bool true) ∧ Hid (Up w w')) := t11 fa0 fa1 fa2
  clear fb0 fb1 fb2 fa0 fa1 fa2
  have BX : Hid (∀ w1, Up ((w.alloc (.cells #[.float .f64 b0, .float .f64 b1, .float .f64 b2] 26)).alloc (.cells #[.float .f64 a0, .float .f64 a1, .float .f64 a2] 26)) w1 →
      (w1.cell? ⟨w.heap.size, 0, none⟩ = some (.float .f64 b0) ∧ w1.cell? ⟨w.heap.size, 1, none⟩ = some (.float .f64 b1) ∧ w1.cell? ⟨w.heap.size, 2, none⟩ = some (.float .f64 b2)) ∧
      (w1.cell? ⟨w.heap.size + 1, 0, none⟩ = some (.float .f64 a0) ∧ w1.cell? ⟨w.heap.size + 1, 1, none⟩ = some (.float .f64 a1) ∧ w1.cell? ⟨w.heap.size + 1, 2, none⟩ = some (.float .f64 a2)) ∧ Hid (Up w w1)) := by
    intro w1 hu
    have h1 : ((w.alloc (.cells #[.float .f64 b0, .float .f64 b1, .float .f64 b2] 26)).alloc (.cells #[.float .f64 a0, .float .f64 a1, .float .f64 a2] 26)).heap[w.heap.size]? = some (.cells #[.float .f64 b0, .float .f64 b1, .float .f64 b2] 26) := by
      rw [Below.heap_alloc (w.alloc (.cells #[.float .f64 b0, .float .f64 b1, .float .f64 b2] 26)) _ w.heap.size (by simp)]; exact heap_alloc_last _ _
    have h2 : ((w.alloc (.cells #[.float .f64 b0, .float .f64 b1, .float .f64 b2] 26)).alloc (.cells #[.float .f64 a0, .float .f64 a1, .float .f64 a2] 26)).heap[w.heap.size + 1]? = some (.cells #[.float .f64 a0, .float .f64 a1, .float .f64 a2] 26) := by
      have := heap_alloc_last (w.alloc (.cells #[.float .f64 b0, .float .f64 b1, .float .f64 b2] 26)) (.cells #[.float .f64 a0, .float .f64 a1, .float .f64 a2] 26)
      simpa using this
    refine ⟨⟨cell_up ?_ hu, cell_up ?_ hu, cell_up ?_ hu⟩, ⟨cell_up ?_ hu, cell_up ?_ hu, cell_up ?_ hu⟩, ((Up.alloc _ _).trans (Up.alloc _ _)).trans hu⟩ <;> first | (rw [cell_of_row _ _ _ _ _ _ h1]; rfl) | (rw [cell_of_row _ _ _ _ _ _ h2]; rfl)
  go_enter Try.func5, Try.ntmps5
  go_wp2_with (first
    | (go_at_call 11; (with_reducible refine (CB.out _).mono ?_); rintro e w1 ⟨rfl, u1⟩; obtain ⟨⟨x0, x1, x2⟩, ⟨y0, y1, y2⟩, U1⟩ := BX.out _ u1.out)
    | (go_at_call 11; (with_reducible refine (CA.out _).mono ?_); rintro e w2 ⟨rfl, u2⟩; obtain ⟨⟨x0, x1, x2⟩, ⟨y0, y1, y2⟩, U2⟩ := BX.out _ (u1.out.trans u2.out)))
  go_ret2
  exact ⟨_, rfl, RG.new U2.out.size, U2.out.trans (Up.alloc _ _)⟩
theorem t9 {b0 : Nat} {w : World} {b B0 B1 B2 A1 A2 sx sy tx ty : Nat} (h : RG b0 w b B0 B1 B2 A1 A2 sx sy tx ty) : Calls Try.prog 9 #[.pointer (some ⟨b, 0, none⟩)] w fun e w' => e = .returned (.agg #[.complex .f64 sx sy, .complex .f64 tx ty]) ∧ Hid (Up w w') := by
  have k5 := h.k5
  have k6 := h.k6
  have lb : b < w.heap.size := World.block_lt_of_cell? w _ h.k5
  have hne : ¬ b = w.heap.size := by omega
  clear h
  go_enter Try.func9, Try.ntmps9
  go_wp2
  exact bodyPost_ret (results_cell_row Try.results9 _ _ _ 39 #[.complex .f64 sx sy, .complex .f64 tx ty] (0, 0) _ rfl (heap_alloc_last _ _) Try.underlying39 rfl (by kernel_rfl)) rfl ⟨rfl, Up.alloc _ _⟩
end Go.Proofs.Ytdpogojhpfejjaa
