/- Memory: what is kept; functions that are turned at a place. -/
import Derived.Test.YtjklaemhfhakhaaRows
import Derived.Test.YtjklaemhfhakhaaMb
import Derived.OpenShut
import Derived.WalkKit
import Derived.WalkLawsBesides
import Derived.ProofKit
import Derived.Deep.WholeRow
import Derived.Laws.CopyOwn
import Derived.BigQuiet
import Derived.BigRegion
import Derived.Deep.QuietTactic
import Derived.Deep.LoopGhost
import Derived.Deep.RegionWith
namespace Go.Proofs.Ytjklaemhfhakhaa
open Go.ChangeShapes Go.WideShapes Go.ChangeAt Go.RowKit

/-- Of what was there nothing has turned. -/
def Up (w w' : World) : Prop := RowKit.Below w.heap.size w w'
theorem Up.refl (w : World) : Up w w := Below.refl _ _
theorem Up.trans {a b c : World} (h : Up a b) (k : Up b c) : Up a c := RowKit.Below.trans h (RowKit.Below.mono k (RowKit.Below.size h))
theorem Up.drewN (w : World) (n : Nat) : Up w (w.drewN n) := below_drewN (Below.refl _ _) n
theorem Up.drew (w : World) : Up w w.drew := Up.drewN w 1
theorem Up.alloc (w : World) (o : Obj) : Up w (w.alloc o) := (Below.refl _ _).alloc (Nat.le_refl _) _
theorem kept2 {W w1 : World} {g : Nat} {o : Obj} (h : W.heap[g]? = some o) (hb : Below W.heap.size W w1) : w1.heap[g]? = some o := by
  rw [hb.block g (Array.getElem?_eq_some_iff.1 h).1]; exact h
theorem cell_up {w w' : World} {a : Addr} {x : Value} (h : w.cell? a = some x) (hu : Up w w') : w'.cell? a = some x := by
  rw [World.cell?_of_block (hu.block a.block (World.block_lt_of_cell? w _ h))]; exact h
theorem frozen_up {w w' : World} {a : Addr} {x : Value} (h : w.cell? a = some x) (hf : w.frozen? a = false) (hu : Up w w') : w'.frozen? a = false := (World.frozen?_of_block (hu.block a.block (World.block_lt_of_cell? w _ h))).trans hf
theorem cell_other {w : World} {a a' : Addr} {x y : Value} (h : w.cell? a = some x) (hn : a.block ≠ a'.block ∨ a.off ≠ a'.off) : (w.setCell a' y).cell? a = some x := by
  rw [World.cell?_setCell_other _ _ _ _ (by first | exact hn | (rcases hn with e | e <;> intro e2 <;> exact e (by rw [e2])))]; exact h
/-- The blocks of which F speaks are kept. -/
structure Kp (F : Nat → Prop) (w w' : World) : Prop where
  os : w'.os = w.os
  tape : w'.tape = w.tape
  output : w'.output = w.output
  size : w.heap.size ≤ w'.heap.size
  block : ∀ k, F k → k < w.heap.size → w'.heap[k]? = w.heap[k]?
theorem Kp.refl (F : Nat → Prop) (w : World) : Kp F w w := ⟨rfl, rfl, rfl, Nat.le_refl _, fun _ _ _ => rfl⟩
theorem Kp.of_up {F : Nat → Prop} {w w' : World} (h : Up w w') : Kp F w w' := ⟨RowKit.Below.os h, RowKit.Below.tape h, RowKit.Below.output h, RowKit.Below.size h, fun k _ hk => RowKit.Below.block h k hk⟩
theorem Kp.trans {F : Nat → Prop} {a b c : World} (h : Kp F a b) (k : Kp F b c) : Kp F a c :=
  ⟨k.os.trans h.os, k.tape.trans h.tape, k.output.trans h.output, Nat.le_trans h.size k.size, fun i hi hl => (k.block i hi (Nat.lt_of_lt_of_le hl h.size)).trans (h.block i hi hl)⟩
theorem Kp.mono {F G : Nat → Prop} {a b : World} (h : Kp F a b) (hG : ∀ k, k < a.heap.size → G k → F k) : Kp G a b := ⟨h.os, h.tape, h.output, h.size, fun k hk hl => h.block k (hG k hl hk) hl⟩
theorem Kp.cell {F : Nat → Prop} {w w' : World} {a : Addr} {v : Value} (h : Kp F w w') (hF : F a.block) (hc : w.cell? a = some v) : w'.cell? a = some v := by
  rw [World.cell?_of_block (h.block a.block hF (World.block_lt_of_cell? w _ hc))]; exact hc
theorem Kp.frozen {F : Nat → Prop} {w w' : World} {a : Addr} (h : Kp F w w') (hF : F a.block) (hl : a.block < w.heap.size) (hc : w.frozen? a = false) : w'.frozen? a = false := (World.frozen?_of_block (h.block a.block hF hl)).trans hc
theorem Kp.up {w w' : World} {F : Nat → Prop} (h : Kp F w w') (hF : ∀ k, k < w.heap.size → F k) : Up w w' := ⟨h.os, h.tape, h.output, h.size, fun k hk => h.block k (hF k hk) hk⟩
theorem Kp.drewN {F : Nat → Prop} {w w' : World} (h : Kp F w w') (n : Nat) : Kp F w (w'.drewN n) := h.trans (Kp.of_up (Up.drewN _ _))
theorem Kp.alloc {F : Nat → Prop} {w w' : World} (h : Kp F w w') (o : Obj) : Kp F w (w'.alloc o) := h.trans (Kp.of_up (Up.alloc _ _))
theorem Kp.set (F : Nat → Prop) (w : World) {g o : Nat} (hg : ¬ F g) (v : Value) : Kp F w (w.setCell ⟨g, o, none⟩ v) := by
  have b : Below 0 w (w.setCell ⟨g, o, none⟩ v) := Below.setCell (Below.refl _ _) (Nat.zero_le _) v
  exact ⟨b.os, b.tape, b.output, b.size, fun k hk _ => Below.heap_setCell w ⟨g, o, none⟩ v k (fun e => hg (by have e2 : k = g := e; rw [← e2]; exact hk))⟩
theorem Kp.setCell {F : Nat → Prop} {w w' : World} (h : Kp F w w') {g o : Nat} (hg : ¬ F g) (v : Value) : Kp F w (w'.setCell ⟨g, o, none⟩ v) := h.trans (Kp.set F w' hg v)
theorem run_min {P : Program} (ts : Array TypeId) (t : TypeId) (x y : Int) (w : World) : (Builtin.min_ ts t #[.int .i64 x, .int .i64 y]).run P w = .ok (.int .i64 (min x y)) w := by
  rcases Int.lt_or_le y x with h | h
  · rw [show min x y = y by omega]
    simp [Builtin.min_, Builtin.min2]; omega
  · rw [show min x y = x by omega]
    simp [Builtin.min_, Builtin.min2]; omega
theorem run_max {P : Program} (ts : Array TypeId) (t : TypeId) (x y : Int) (w : World) : (Builtin.max_ ts t #[.int .i64 x, .int .i64 y]).run P w = .ok (.int .i64 (max x y)) w := by
  rcases Int.lt_or_le x y with h | h
  · rw [show max x y = y by omega]
    simp [Builtin.max_, Builtin.max2]; omega
  · rw [show max x y = x by omega]
    simp [Builtin.max_, Builtin.max2]; omega
end Go.Proofs.Ytjklaemhfhakhaa
