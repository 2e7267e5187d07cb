/- A source: New, Next, Skip, State. -/
import Derived.Test.YtgalgnopjcpocaaBa
namespace Go.Proofs.Ytgalgnopjcpocaa
open Go.ChangeShapes Go.WideShapes Go.ChangeAt Go.RowKit Go.Fl Ieee
attribute [local go_sem] run_store_float run_store_complex call20 call33 run_neg fold_eq fold_ne fold_lt fold_gt abs_eq

/-- A number laid over what of it is shifted down. -/
def xs (z d : Int) : Int := bits BinOp.xor IntKind.u64 z (z / d)
def m1 (z : Int) : Int := IntKind.u64.wrap (xs z 1073741824 * 13787848793156543929)
def m2 (z : Int) : Int := IntKind.u64.wrap (xs z 134217728 * 10723151780598845931)
/-- A step's answer. -/
def stir (z : Int) : Int := xs (m2 (m1 z)) 2147483648
/-- A leap. -/
def adv (s n : Int) : Int := IntKind.u64.wrap (s + IntKind.u64.wrap (n * 11400714819323198485))
/-- So many steps. -/
def it (s : Int) : Nat → Int
  | 0 => s
  | k + 1 => adv (it s k) 1
theorem But.drewN (g : Nat) (w : World) (n : Nat) : But g w (w.drewN n) := But.of_up (Up.drewN w n)
/-- A source: its block, its state. -/
structure SC (w : World) (b : Nat) (s : Int) : Prop where
  c : w.cell? ⟨b, 0, none⟩ = some (.int .u64 s)
  f : w.frozen? ⟨b, 0, none⟩ = false
theorem SC.lt {w : World} {b : Nat} {s : Int} (h : SC w b s) : b < w.heap.size := World.block_lt_of_cell? w _ h.c
theorem SC.but {g : Nat} {w w' : World} {b : Nat} {s : Int} (h : SC w b s) (hb : But g w w') (hne : b ≠ g) : SC w' b s :=
  ⟨hb.cell hne h.c, (World.grownBy.frozen_far hb ⟨b, 0, none⟩ h.lt (by simpa using hne)).trans h.f⟩
theorem SC.up {w w' : World} {b : Nat} {s : Int} (h : SC w b s) (hu : Up w w') : SC w' b s := h.but (g := b + 1) (But.of_up hu) (by omega)
theorem SC.new (w : World) (s : Int) (t : TypeId) : SC (w.alloc (.cells #[.int .u64 s] t)) w.heap.size s := by
  have hh := heap_alloc_last w (.cells #[.int .u64 s] t)
  exact ⟨by rw [cell_of_row _ _ _ _ _ _ hh]; rfl, World.frozen?_alloc_at _ _ _ _ rfl⟩
theorem SC.put {w : World} {b : Nat} {s : Int} (h : SC w b s) (s' : Int) : SC (w.setCell ⟨b, 0, none⟩ (.int .u64 s')) b s' ∧ But b w (w.setCell ⟨b, 0, none⟩ (.int .u64 s')) := by
  refine ⟨⟨World.cell?_setCell_same' w ⟨b, 0, none⟩ _ (by rw [h.c]; rfl), (World.frozen?_setCell _ _ _ _).trans h.f⟩, ?_⟩
  exact ⟨rfl, rfl, rfl, by simp, fun k _ hk => heap_setCell_other w ⟨b, 0, none⟩ k _ (fun e => hk (by rw [e]))⟩
/-- What a call of a source leaves: its answer, its state. -/
def NX (w : World) (b : Nat) (s : Int) (v : Value) (e : Ending) (w' : World) : Prop := e = .returned v ∧ Hid (SC w' b s) ∧ Hid (But b w w')
def NF (w : World) (b : Nat) (s : Int) (v : Option Nat) (e : Ending) (w' : World) : Prop := ∃ r, e = .returned (.float .f64 r) ∧ Hid (ab r = v) ∧ Hid (SC w' b s) ∧ Hid (But b w w')

set_option maxRecDepth 20000 in
theorem t84 (z : Int) (w : World) : Calls Try.prog 84 #[.int .u64 z] w fun e w' => e = .returned (.int .u64 (stir z)) ∧ w' = w := by
  go_enter Try.func84, Try.ntmps84
  go_wp2
  go_ret
  exact ⟨rfl, rfl⟩
set_option maxRecDepth 20000 in
theorem t83 {b : Nat} {s : Int} {w : World} (h : SC w b s) (n : Int) : Calls Try.prog 83 #[.pointer (some ⟨b, 0, none⟩), .int .u64 n] w (NX w b (adv s n) (.tuple #[])) := by
  have H : Hid (SC w b s) := h
  have hc := h.c
  have hf := h.f
  clear h
  go_enter Try.func83, Try.ntmps83
  go_wp2
  go_end0
  exact ⟨rfl, (H.out.put _).1, (H.out.put _).2⟩
set_option maxRecDepth 20000 in
theorem t83n (n : Int) (w : World) : Calls Try.prog 83 #[.pointer none, .int .u64 n] w fun e w' => e = .returned (.tuple #[]) ∧ w' = w := by
  go_enter Try.func83, Try.ntmps83
  go_wp2
  (try simp only [Exit.inBlock, Exit.then])
  refine bodyPost_ret (results_none rfl _ _ _) rfl ?_
  exact ⟨rfl, rfl⟩
set_option maxRecDepth 20000 in
theorem t41 (s : Int) (w : World) : Calls Try.prog 41 #[.int .u64 s] w fun e w' => e = .returned (.pointer (some ⟨w.heap.size, 0, none⟩)) ∧ Hid (SC w' w.heap.size s) ∧ Hid (Up w w') := by
  go_enter Try.func41, Try.ntmps41
  go_wp2
  go_ret
  exact ⟨rfl, SC.new _ _ _, Up.alloc _ _⟩
set_option maxRecDepth 20000 in
theorem t80 {b : Nat} {s : Int} {w : World} (h : SC w b s) : Calls Try.prog 80 #[.pointer (some ⟨b, 0, none⟩)] w (NX w b (adv s 1) (.int .u64 (stir (adv s 1)))) := by
  have H : Hid (SC w b s) := h
  clear h
  go_enter Try.func80, Try.ntmps80
  go_wp2_with (first
    | (go_at_call 83; (with_reducible refine (t83 H.out _).mono ?_); rintro e w1 ⟨rfl, h1, hb1⟩; have hc1 := h1.out.c)
    | (go_at_call 84; (with_reducible refine (t84 _ _).mono ?_); rintro e w2 ⟨rfl, rfl⟩))
  go_ret
  exact ⟨rfl, h1, hb1⟩
theorem adv_one (s : Int) : IntKind.u64.wrap (s + 11400714819323198485) = adv s 1 := rfl
set_option maxRecDepth 20000 in
theorem t80n (w : World) : Calls Try.prog 80 #[.pointer none] w fun e w' => e = .returned (.int .u64 0) ∧ w' = w := by
  go_enter Try.func80, Try.ntmps80
  go_wp2
  go_ret
  exact ⟨rfl, rfl⟩
end Go.Proofs.Ytgalgnopjcpocaa
