/- Rows of numbers; what a call leaves that hands such a row back. -/
import Derived.Test.YthpoipajfkfdeabG
import Derived.Laws.OwnMore
import Derived.Maps.AppendAt
import Derived.Deep.Onto
import Derived.Deep.AppendLies
import Derived.Deep.RegionHeld3
namespace Go.Proofs.Ythpoipajfkfdeab
open Go.ChangeShapes Go.WideShapes Go.ChangeAt Go.RowKit Go.Fl Ieee
attribute [local go_sem] run_store_float run_store_complex call43 call17 run_neg fold_eq fold_ne fold_lt fold_gt abs_eq

theorem Up.alloc (w : World) (o : Obj) : Up w (w.alloc o) := (Below.refl _ _).alloc (Nat.le_refl _) _
def ce (p : Nat × Nat) : Value := .complex .f64 p.1 p.2
/-- A number's two parts, all NaN being one. -/
def ab2 (p : Nat × Nat) : Option Nat × Option Nat := (ab p.1, ab p.2)
/-- A row of complex numbers of one's own. -/
def CRow (b : Nat) (w : World) (v : Value) (d : List (Nat × Nat)) : Prop := w.ownsRow b 26 1 v d.length (d.map ce)
theorem owns_below {w w' : World} {b m n : Nat} {t : TypeId} {s : Nat} {v : Value} {xs : List Value} (h : w.ownsRow b t s v n xs) (hu : Below m w w') (hm : ∀ k, v.ownBlock = some k → k < m) : w'.ownsRow b t s v n xs := by
  obtain ⟨h1, h2⟩ := h
  refine ⟨h1, ?_⟩
  rcases h2 with h2 | ⟨g, cap, cur, rfl, k2, k3, k4⟩
  · exact Or.inl h2
  · refine Or.inr ⟨g, cap, cur, rfl, k2, ?_, k4⟩
    rw [hu.block g (hm g rfl)]; exact k3
theorem owns_up {w w' : World} {b n : Nat} {t : TypeId} {s : Nat} {v : Value} {xs : List Value} (h : w.ownsRow b t s v n xs) (hu : Up w w') : w'.ownsRow b t s v n xs := owns_below h hu (fun k hk => (h.lt k hk).2)
theorem CRow.up {b : Nat} {w w' : World} {v : Value} {d : List (Nat × Nat)} (h : CRow b w v d) (hu : Up w w') : CRow b w' v d := owns_up h hu
/-- The form of a row's value. -/
theorem own_form {b n : Nat} {w : World} {t : TypeId} {s : Nat} {v : Value} {xs : List Value} (h : w.ownsRow b t s v n xs) : ∃ p cap, v = .slice p n cap ∧ (0 < n → ∃ g, p = some ⟨g, 0, none⟩) := by
  rcases h.2 with ⟨rfl, rfl⟩ | ⟨g, cap, cur, rfl, _⟩
  · exact ⟨none, 0, rfl, fun h => by omega⟩
  · exact ⟨_, cap, rfl, fun _ => ⟨g, rfl⟩⟩
theorem CRow.cell {b g n cap : Nat} {w : World} {d : List (Nat × Nat)} (h : CRow b w (.slice (some ⟨g, 0, none⟩) n cap) d) {i : Nat} (hi : i < d.length) : w.cell? ⟨g, i, none⟩ = some (.complex .f64 d[i]!.1 d[i]!.2) := by
  obtain ⟨p, cap', he, _⟩ := own_form h
  simp only [Value.slice.injEq] at he
  obtain ⟨rfl, rfl, rfl⟩ := he
  rw [World.ownsRow.cellAt h i (by omega)]
  rw [List.getElem?_map, List.getElem?_eq_getElem hi, getElem!_pos d i hi]
  rfl
/-- What a call leaves that hands back a row and a code. -/
def PL (w : World) (L : List (Option Nat × Option Nat)) (c : Int) (e : Ending) (w' : World) : Prop := ∃ v d, e = .returned (.tuple #[v, .int .i64 c]) ∧ Hid (CRow w.heap.size w' v d) ∧ Hid (Up w w') ∧ Hid (d.map ab2 = L)
theorem info26 : (Try.prog.info? 26).map (fun i => (i.zero, i.size, i.bytes)) = some (some (.complex .f64 0 0), 1, 16) := by kernel_rfl
end Go.Proofs.Ythpoipajfkfdeab
