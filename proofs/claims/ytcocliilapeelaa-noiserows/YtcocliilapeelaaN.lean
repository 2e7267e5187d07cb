/- A source: New, Next, Skip, State. -/
import Derived.Test.YtcocliilapeelaaI
namespace Go.Proofs.Ytcocliilapeelaa
open Go.ChangeShapes Go.WideShapes Go.ChangeAt Go.RowKit Go.Fl Ieee
attribute [local go_sem] run_store_float run_store_complex call38 call37 run_neg fold_eq fold_ne fold_lt fold_gt abs_eq

/-- A number laid over what of it is shifted down. -/
def xs (z d : Int) : Int := bits BinOp.xor IntKind.u64 z (z / d)
def m1 (z : Int) : Int := IntKind.u64.wrap (xs z 1073741824 * 13787848793156543929)
def m2 (z : Int) : Int := IntKind.u64.wrap (xs z 134217728 * 10723151780598845931)
/-- A step's answer. -/
def stir (z : Int) : Int := xs (m2 (m1 z)) 2147483648
/-- A leap. -/
def adv (s n : Int) : Int := IntKind.u64.wrap (s + IntKind.u64.wrap (n * 11400714819323198485))
/-- So many steps. -/
def it (s : Int) : Nat → Int
  | 0 => s
  | k + 1 => adv (it s k) 1
/-- But for one block nothing has turned. -/
def But (g : Nat) (w w' : World) : Prop := w.grownBy w' (some g)
theorem But.refl (g : Nat) (w : World) : But g w w := World.grownBy.refl _ _
theorem But.of_up {g : Nat} {w w' : World} (h : Up w w') : But g w w' := ⟨h.os, h.tape, h.output, h.size, fun k hk _ => h.block k hk⟩
theorem But.trans {g : Nat} {a b c : World} (h : But g a b) (k : But g b c) : But g a c := by
  obtain ⟨h1, h2, h3, h4, h5⟩ := h
  obtain ⟨k1, k2, k3, k4, k5⟩ := k
  exact ⟨k1.trans h1, k2.trans h2, k3.trans h3, Nat.le_trans h4 k4, fun j hj hn => (k5 j (Nat.lt_of_lt_of_le hj h4) hn).trans (h5 j hj hn)⟩
theorem But.cell {g : Nat} {w w' : World} {b o : Nat} {v : Value} (h : But g w w') (hb : b ≠ g) (hc : w.cell? ⟨b, o, none⟩ = some v) : w'.cell? ⟨b, o, none⟩ = some v := World.grownBy.cell h hc (by simpa using hb)
theorem But.up {g : Nat} {w0 w w' : World} (h : But g w w') (hu : Up w0 w) (hg : w0.heap.size ≤ g) : Up w0 w' := Below.grown hu h hu.size (fun k hk => by cases hk; exact hg)
theorem But.drewN (g : Nat) (w : World) (n : Nat) : But g w (w.drewN n) := But.of_up (Up.drewN w n)
/-- A source: its block, its state. -/
structure SC (w : World) (b : Nat) (s : Int) : Prop where
  c : w.cell? ⟨b, 0, none⟩ = some (.int .u64 s)
  f : w.frozen? ⟨b, 0, none⟩ = false
theorem SC.lt {w : World} {b : Nat} {s : Int} (h : SC w b s) : b < w.heap.size := World.block_lt_of_cell? w _ h.c
theorem SC.but {g : Nat} {w w' : World} {b : Nat} {s : Int} (h : SC w b s) (hb : But g w w') (hne : b ≠ g) : SC w' b s :=
  ⟨hb.cell hne h.c, (World.grownBy.frozen_far hb ⟨b, 0, none⟩ h.lt (by simpa using hne)).trans h.f⟩
theorem SC.up {w w' : World} {b : Nat} {s : Int} (h : SC w b s) (hu : Up w w') : SC w' b s := h.but (g := b + 1) (But.of_up hu) (by omega)
theorem SC.new (w : World) (s : Int) (t : TypeId) : SC (w.alloc (.cells #[.int .u64 s] t)) w.heap.size s := by
  have hh := heap_alloc_last w (.cells #[.int .u64 s] t)
  exact ⟨by rw [cell_of_row _ _ _ _ _ _ hh]; rfl, World.frozen?_alloc_at _ _ _ _ rfl⟩
theorem SC.put {w : World} {b : Nat} {s : Int} (h : SC w b s) (s' : Int) : SC (w.setCell ⟨b, 0, none⟩ (.int .u64 s')) b s' ∧ But b w (w.setCell ⟨b, 0, none⟩ (.int .u64 s')) := by
  refine ⟨⟨World.cell?_setCell_same' w ⟨b, 0, none⟩ _ (by rw [h.c]; rfl), (World.frozen?_setCell _ _ _ _).trans h.f⟩, ?_⟩
  exact ⟨rfl, rfl, rfl, by simp, fun k _ hk => heap_setCell_other w ⟨b, 0, none⟩ k _ (fun e => hk (by rw [e]))⟩
/-- What a call of a source leaves: its answer, its state. -/
def NX (w : World) (b : Nat) (s : Int) (v : Value) (e : Ending) (w' : World) : Prop := e = .returned v ∧ Hid (SC w' b s) ∧ Hid (But b w w')
def NF (w : World) (b : Nat) (s : Int) (v : Option Nat) (e : Ending) (w' : World) : Prop := ∃ r, e = .returned (.float .f64 r) ∧ Hid (ab r = v) ∧ Hid (SC w' b s) ∧ Hid (But b w w')

theorem t34 (z : Int) (w : World) : Calls Try.prog 34 #[.int .u64 z] w fun e w' => e = .returned (.int .u64 (stir z)) ∧ w' = w := by
  go_enter Try.func34, Try.ntmps34
  go_wp2
  go_ret
  exact ⟨rfl, rfl⟩
theorem t14 {b : Nat} {s : Int} {w : World} (h : SC w b s) (n : Int) : Calls Try.prog 14 #[.pointer (some ⟨b, 0, none⟩), .int .u64 n] w (NX w b (adv s n) (.tuple #[])) := by
  have H : Hid (SC w b s) := h
  have hc := h.c
  have hf := h.f
  clear h
  go_enter Try.func14, Try.ntmps14
  go_wp2
  go_end0
  exact ⟨rfl, (H.out.put _).1, (H.out.put _).2⟩
theorem t33 {b : Nat} {s : Int} {w : World} (h : SC w b s) (n : Int) : Calls Try.prog 33 #[.pointer (some ⟨b, 0, none⟩), .int .u64 n] w (NX w b (adv s n) (.tuple #[])) := by
  have H : Hid (SC w b s) := h
  have hc := h.c
  have hf := h.f
  clear h
  go_enter Try.func33, Try.ntmps33
  go_wp2
  go_end0
  exact ⟨rfl, (H.out.put _).1, (H.out.put _).2⟩
theorem t14n (n : Int) (w : World) : Calls Try.prog 14 #[.pointer none, .int .u64 n] w fun e w' => e = .returned (.tuple #[]) ∧ w' = w := by
  go_enter Try.func14, Try.ntmps14
  go_wp2
  (try simp only [Exit.inBlock, Exit.then])
  refine bodyPost_ret (results_none rfl _ _ _) rfl ?_
  exact ⟨rfl, rfl⟩
theorem t33n (n : Int) (w : World) : Calls Try.prog 33 #[.pointer none, .int .u64 n] w fun e w' => e = .returned (.tuple #[]) ∧ w' = w := by
  go_enter Try.func33, Try.ntmps33
  go_wp2
  go_end0
  exact ⟨rfl, rfl⟩
theorem t7 (s : Int) (w : World) : Calls Try.prog 7 #[.int .u64 s] w fun e w' => e = .returned (.pointer (some ⟨w.heap.size, 0, none⟩)) ∧ Hid (SC w' w.heap.size s) ∧ Hid (Up w w') := by
  go_enter Try.func7, Try.ntmps7
  go_wp2
  go_ret
  exact ⟨rfl, SC.new _ _ _, Up.alloc _ _⟩
theorem t8 (s : Int) (w : World) : Calls Try.prog 8 #[.int .u64 s] w fun e w' => e = .returned (.pointer (some ⟨w.heap.size, 0, none⟩)) ∧ Hid (SC w' w.heap.size s) ∧ Hid (Up w w') := by
  go_enter Try.func8, Try.ntmps8
  go_wp2
  go_ret
  exact ⟨rfl, SC.new _ _ _, Up.alloc _ _⟩
theorem t11 {b : Nat} {s : Int} {w : World} (h : SC w b s) : Calls Try.prog 11 #[.pointer (some ⟨b, 0, none⟩)] w fun e w' => e = .returned (.int .u64 s) ∧ w' = w := by
  have hc := h.c
  clear h
  go_enter Try.func11, Try.ntmps11
  go_wp2
  go_ret
  exact ⟨rfl, rfl⟩
theorem t12 {b : Nat} {s : Int} {w : World} (h : SC w b s) : Calls Try.prog 12 #[.pointer (some ⟨b, 0, none⟩)] w fun e w' => e = .returned (.int .u64 s) ∧ w' = w := by
  have hc := h.c
  clear h
  go_enter Try.func12, Try.ntmps12
  go_wp2
  go_ret
  exact ⟨rfl, rfl⟩
theorem t11n (w : World) : Calls Try.prog 11 #[.pointer none] w fun e w' => e = .returned (.int .u64 0) ∧ w' = w := by
  go_enter Try.func11, Try.ntmps11
  go_wp2
  go_ret
  exact ⟨rfl, rfl⟩
theorem t12n (w : World) : Calls Try.prog 12 #[.pointer none] w fun e w' => e = .returned (.int .u64 0) ∧ w' = w := by
  go_enter Try.func12, Try.ntmps12
  go_wp2
  go_ret
  exact ⟨rfl, rfl⟩
theorem t13 {b : Nat} {s : Int} {w : World} (h : SC w b s) : Calls Try.prog 13 #[.pointer (some ⟨b, 0, none⟩)] w (NX w b (adv s 1) (.int .u64 (stir (adv s 1)))) := by
  have H : Hid (SC w b s) := h
  clear h
  go_enter Try.func13, Try.ntmps13
  go_wp2_with (first
    | (go_at_call 14; (with_reducible refine (t14 H.out _).mono ?_); rintro e w1 ⟨rfl, h1, hb1⟩; have hc1 := h1.out.c)
    | (go_at_call 34; (with_reducible refine (t34 _ _).mono ?_); rintro e w2 ⟨rfl, rfl⟩))
  go_ret
  exact ⟨rfl, h1, hb1⟩
theorem adv_one (s : Int) : IntKind.u64.wrap (s + 11400714819323198485) = adv s 1 := rfl
theorem t23 {b : Nat} {s : Int} {w : World} (h : SC w b s) : Calls Try.prog 23 #[.pointer (some ⟨b, 0, none⟩)] w (NX w b (adv s 1) (.int .u64 (stir (adv s 1)))) := by
  have H : Hid (SC w b s) := h
  have hc := h.c
  have hf := h.f
  clear h
  go_enter Try.func23, Try.ntmps23
  go_wp2
  go_ret
  exact ⟨rfl, (H.out.put _).1, (H.out.put _).2⟩
theorem t13n (w : World) : Calls Try.prog 13 #[.pointer none] w fun e w' => e = .returned (.int .u64 0) ∧ w' = w := by
  go_enter Try.func13, Try.ntmps13
  go_wp2
  go_ret
  exact ⟨rfl, rfl⟩
theorem t23n (w : World) : Calls Try.prog 23 #[.pointer none] w fun e w' => e = .returned (.int .u64 0) ∧ w' = w := by
  go_enter Try.func23, Try.ntmps23
  go_wp2
  go_ret
  exact ⟨rfl, rfl⟩
end Go.Proofs.Ytcocliilapeelaa
