/- Rows of one's own, whatever stands in them. -/
import Derived.Test.YtflngnnoibkkoaaGreatKUa
namespace Go.Proofs.YtflngnnoibkkoaaGreat.Pk
open Go.ChangeShapes Go.WideShapes Go.ChangeAt Go.RowKit Go.Fl Go.Sort
set_option maxRecDepth 200000
set_option maxHeartbeats 8000000

theorem owns_below {w w' : World} {b m n : Nat} {t : TypeId} {s : Nat} {v : Value} {xs : List Value} (h : w.ownsRow b t s v n xs) (hu : RowKit.Below m w w') (hm : ∀ k, v.ownBlock = some k → k < m) : w'.ownsRow b t s v n xs := by
  obtain ⟨h1, h2⟩ := h
  refine ⟨h1, ?_⟩
  rcases h2 with h2 | ⟨g, cap, cur, rfl, k2, k3, k4⟩
  · exact Or.inl h2
  · refine Or.inr ⟨g, cap, cur, rfl, k2, ?_, k4⟩
    rw [hu.block g (hm g rfl)]; exact k3
theorem owns_up {w w' : World} {b n : Nat} {t : TypeId} {s : Nat} {v : Value} {xs : List Value} (h : w.ownsRow b t s v n xs) (hu : Up w w') : w'.ownsRow b t s v n xs := owns_below h hu (fun k hk => (h.lt k hk).2)
/-- The form of a row's value. -/
theorem own_form {b n : Nat} {w : World} {t : TypeId} {s : Nat} {v : Value} {xs : List Value} (h : w.ownsRow b t s v n xs) : ∃ p cap, v = .slice p n cap ∧ (0 < n → ∃ g, p = some ⟨g, 0, none⟩) := by
  rcases h.2 with ⟨rfl, rfl⟩ | ⟨g, cap, cur, rfl, _⟩
  · exact ⟨none, 0, rfl, fun h => by omega⟩
  · exact ⟨_, cap, rfl, fun _ => ⟨g, rfl⟩⟩
/-- A row of one's own. -/
def OR {α : Type} (enc : α → Value) (t : TypeId) (b : Nat) (w : World) (v : Value) (d : List α) : Prop := w.ownsRow b t 1 v d.length (d.map enc)
theorem OR.cell {α : Type} [Inhabited α] {enc : α → Value} {t : TypeId} {b g n cap : Nat} {w : World} {d : List α} (h : OR enc t b w (.slice (some ⟨g, 0, none⟩) n cap) d) {i : Nat} (hi : i < d.length) : w.cell? ⟨g, i, none⟩ = some (enc d[i]!) := by
  obtain ⟨p, cap', he, _⟩ := own_form h
  simp only [Value.slice.injEq] at he
  obtain ⟨rfl, rfl, rfl⟩ := he
  rw [World.ownsRow.cellAt h i (by omega)]
  rw [List.getElem?_map, List.getElem?_eq_getElem hi, getElem!_pos d i hi]
  rfl
theorem one_cellV {v : Value} (h : v.oneCell' = true) : ∀ u ∈ [v], u.oneCell' = true := by
  intro u hu; simp at hu; subst hu; exact h
theorem one_new (w : World) (x : Value) (t : TypeId) : ∀ (j : Nat) (u : Value), [x][j]? = some u → (w.alloc (.cells #[x] t)).cell? ((⟨w.heap.size, 0, none⟩ : Addr).add j) = some u := by
  intro j u hj
  match j, hj with
  | 0, hj => simp at hj; subst hj; exact World.cell?_alloc_at _ _ _ _ rfl
end Go.Proofs.YtflngnnoibkkoaaGreat.Pk
