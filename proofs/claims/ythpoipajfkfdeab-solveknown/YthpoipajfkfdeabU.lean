/- Units, worked out once: the maker of the closure, and the closure. -/
import Derived.Test.YthpoipajfkfdeabT
namespace Go.Proofs.Ythpoipajfkfdeab
open Go.ChangeShapes Go.WideShapes Go.ChangeAt Go.RowKit Go.Fl Ieee
/-- A number is stored where some value lies. -/
theorem run_store_c {P : Program} (w : World) (a : Addr) (m : Mode) (k : FloatKind) (x y : Nat) (h : (w.cell? a).isSome = true) (hf : w.frozen? a = false) : (store a (.complex k x y) m).run P w = .ok () (w.setCell a (.complex k x y)) := by
  obtain ⟨u, hu⟩ := Option.isSome_iff_exists.1 h
  rw [run_store_complex]
  simp [stored, hu, hf]
attribute [local go_sem] run_store_float run_store_c call43 call17 run_neg fold_eq fold_ne fold_lt fold_gt abs_eq

/-- What the closure that tells units holds: N points in a row, whose whole turn has S of them. -/
def Units (w : World) (c : Array Value) (N S : Nat) (f : Nat → Nat × Nat) : Prop :=
  ∃ bp bm g, c = #[.pointer (some ⟨bp, 0, none⟩), .pointer (some ⟨bm, 0, none⟩)] ∧ w.cell? ⟨bp, 0, none⟩ = some (.slice (some ⟨g, 0, none⟩) N N) ∧ w.cell? ⟨bm, 0, none⟩ = some (.int .i64 S) ∧ RD w g 0 N f
theorem Units.up {w w' : World} {c : Array Value} {N S : Nat} {f : Nat → Nat × Nat} (h : Units w c N S f) (hu : Up w w') : Units w' c N S f := by
  obtain ⟨bp, bm, g, rfl, h1, h2, h3⟩ := h
  exact ⟨bp, bm, g, rfl, cell_up h1 hu, cell_up h2 hu, h3.up hu⟩
theorem i64_id {x : Int} (h : -9223372036854775808 ≤ x ∧ x ≤ 9223372036854775807) : IntKind.i64.wrap x = x := by rw [IntKind.wrap_i64]; omega
/-- The point at j nths, there or back. -/
def unitF (way : Int) (S j : Nat) : Option Nat × Option Nat := (unitC (way * j) S, unitS (way * j) S)
def wayOf (b : Bool) : Int := if b then 1 else -1
theorem Fill.new' {w w' : World} {n g : Nat} (F : Nat → Option Nat × Option Nat) (hg : w.heap.size = g) (h : w'.ownsRow g 26 1 (.slice (some ⟨w.heap.size, 0, none⟩) n n) n (madeCells (Value.complex .f64 0 0).cells (n * 1)).toList) (hgr : w.grownBy w' none) : Fill w w' g n F 0 := by
  subst hg; exact Fill.new F h hgr
theorem kept_up {w w1 : World} {b1 b2 g k : Nat} {u v : Value} (h : w.cell? ⟨b1, 0, none⟩ = some u ∧ w.cell? ⟨b2, 0, none⟩ = some v ∧ (w.cell? ⟨g, k, none⟩).isSome = true ∧ w.frozen? ⟨g, k, none⟩ = false) (hu : Up w w1) :
    w1.cell? ⟨b1, 0, none⟩ = some u ∧ w1.cell? ⟨b2, 0, none⟩ = some v ∧ (w1.cell? ⟨g, k, none⟩).isSome = true ∧ w1.frozen? ⟨g, k, none⟩ = false := by
  obtain ⟨h1, h2, h3, h4⟩ := h
  obtain ⟨x, hx⟩ := Option.isSome_iff_exists.1 h3
  refine ⟨cell_up h1 hu, cell_up h2 hu, by rw [cell_up hx hu]; rfl, ?_⟩
  have e : w1.heap[g]? = w.heap[g]? := hu.block g (World.block_lt_of_cell? w _ hx)
  simp only [World.frozen?, e] at h4 ⊢
  exact h4
theorem kept_set {w : World} {b1 b2 g k : Nat} {u v x : Value} (n1 : g ≠ b1) (n2 : g ≠ b2) (h : w.cell? ⟨b1, 0, none⟩ = some u ∧ w.cell? ⟨b2, 0, none⟩ = some v ∧ (w.cell? ⟨g, k, none⟩).isSome = true ∧ w.frozen? ⟨g, k, none⟩ = false) :
    (w.setCell ⟨g, k, none⟩ x).cell? ⟨b1, 0, none⟩ = some u ∧ (w.setCell ⟨g, k, none⟩ x).cell? ⟨b2, 0, none⟩ = some v ∧ ((w.setCell ⟨g, k, none⟩ x).cell? ⟨g, k, none⟩).isSome = true ∧ (w.setCell ⟨g, k, none⟩ x).frozen? ⟨g, k, none⟩ = false := by
  obtain ⟨h1, h2, h3, h4⟩ := h
  refine ⟨by rw [World.cell?_setCell_far _ _ _ _ n1]; exact h1, by rw [World.cell?_setCell_far _ _ _ _ n2]; exact h2, ?_, by simpa using h4⟩
  rw [World.cell?_setCell_same' _ _ _ h3]; rfl
end Go.Proofs.Ythpoipajfkfdeab
