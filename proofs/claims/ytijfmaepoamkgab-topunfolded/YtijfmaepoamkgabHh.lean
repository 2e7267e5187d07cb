/- Rows of one's own, whatever stands in them. -/
import Derived.Test.YtijfmaepoamkgabRz
namespace Go.Proofs.Ytijfmaepoamkgab
open Go.ChangeShapes Go.WideShapes Go.ChangeAt Go.RowKit Go.Fl Go.Sort

/-- The form of a row's value. -/
theorem own_form {b n : Nat} {w : World} {t : TypeId} {s : Nat} {v : Value} {xs : List Value} (h : w.ownsRow b t s v n xs) : ∃ p cap, v = .slice p n cap ∧ (0 < n → ∃ g, p = some ⟨g, 0, none⟩) := by
  rcases h.2 with ⟨rfl, rfl⟩ | ⟨g, cap, cur, rfl, _⟩
  · exact ⟨none, 0, rfl, fun h => by omega⟩
  · exact ⟨_, cap, rfl, fun _ => ⟨g, rfl⟩⟩
/-- But for one block nothing has turned. -/
def But (g : Nat) (w w' : World) : Prop := w.grownBy w' (some g)
theorem But.refl (g : Nat) (w : World) : But g w w := World.grownBy.refl _ _
theorem But.of_up {g : Nat} {w w' : World} (h : Up w w') : But g w w' := ⟨h.os, h.tape, h.output, h.size, fun k hk _ => h.block k hk⟩
theorem But.trans {g : Nat} {a b c : World} (h : But g a b) (k : But g b c) : But g a c := by
  obtain ⟨h1, h2, h3, h4, h5⟩ := h
  obtain ⟨k1, k2, k3, k4, k5⟩ := k
  exact ⟨k1.trans h1, k2.trans h2, k3.trans h3, Nat.le_trans h4 k4, fun j hj hn => (k5 j (Nat.lt_of_lt_of_le hj h4) hn).trans (h5 j hj hn)⟩
theorem But.cell {g : Nat} {w w' : World} {b o : Nat} {v : Value} (h : But g w w') (hb : b ≠ g) (hc : w.cell? ⟨b, o, none⟩ = some v) : w'.cell? ⟨b, o, none⟩ = some v := World.grownBy.cell h hc (by simpa using hb)
theorem But.up {g : Nat} {w0 w w' : World} (h : But g w w') (hu : Up w0 w) (hg : w0.heap.size ≤ g) : Up w0 w' := RowKit.Below.grown hu h hu.size (fun k hk => by cases hk; exact hg)
/-- A row of one's own. -/
def OR {α : Type} (enc : α → Value) (t : TypeId) (b : Nat) (w : World) (v : Value) (d : List α) : Prop := w.ownsRow b t 1 v d.length (d.map enc)
theorem OR.up {α : Type} {enc : α → Value} {t : TypeId} {b : Nat} {w w' : World} {v : Value} {d : List α} (h : OR enc t b w v d) (hu : Up w w') : OR enc t b w' v d := owns_up h hu
theorem OR.base {α : Type} {enc : α → Value} {t : TypeId} {b b' : Nat} {w : World} {v : Value} {d : List α} (h : OR enc t b w v d) (hb : b' ≤ b) : OR enc t b' w v d := by
  obtain ⟨h1, h2⟩ := h
  refine ⟨h1, ?_⟩
  rcases h2 with h2 | ⟨g, cap, cur, rfl, k2, k3⟩
  · exact Or.inl h2
  · exact Or.inr ⟨g, cap, cur, rfl, Nat.le_trans hb k2, k3⟩
theorem OR.nil {α : Type} (enc : α → Value) (t : TypeId) (b : Nat) (w : World) : OR enc t b w (.slice none 0 0) [] := ⟨by simp, Or.inl ⟨rfl, rfl⟩⟩
theorem OR.form {α : Type} {enc : α → Value} {t : TypeId} {b : Nat} {w : World} {v : Value} {d : List α} (h : OR enc t b w v d) : ∃ p cap, v = .slice p d.length cap ∧ (0 < d.length → ∃ g, p = some ⟨g, 0, none⟩) := own_form h
theorem OR.cell {α : Type} [Inhabited α] {enc : α → Value} {t : TypeId} {b g n cap : Nat} {w : World} {d : List α} (h : OR enc t b w (.slice (some ⟨g, 0, none⟩) n cap) d) {i : Nat} (hi : i < d.length) : w.cell? ⟨g, i, none⟩ = some (enc d[i]!) := by
  obtain ⟨p, cap', he, _⟩ := own_form h
  simp only [Value.slice.injEq] at he
  obtain ⟨rfl, rfl, rfl⟩ := he
  rw [World.ownsRow.cellAt h i (by omega)]
  rw [List.getElem?_map, List.getElem?_eq_getElem hi, getElem!_pos d i hi]
  rfl
theorem OR.len {α : Type} {enc : α → Value} {t : TypeId} {b n cap : Nat} {p : Option Addr} {w : World} {d : List α} (h : OR enc t b w (.slice p n cap) d) : d.length = n := by
  obtain ⟨p, cap', he, _⟩ := own_form h
  simp only [Value.slice.injEq] at he
  exact he.2.1.symm
theorem OR.put {α : Type} {enc : α → Value} {t : TypeId} {b g n cap : Nat} {w : World} {d : List α} (h : OR enc t b w (.slice (some ⟨g, 0, none⟩) n cap) d) (k : Nat) (r : α) : OR enc t b (w.setCell ⟨g, k, none⟩ (enc r)) (.slice (some ⟨g, 0, none⟩) n cap) (d.set k r) ∧ But g w (w.setCell ⟨g, k, none⟩ (enc r)) := by
  have hn := h.len
  subst hn
  obtain ⟨s1, s2⟩ := World.ownsRow.stored h k (enc r)
  refine ⟨?_, s2⟩
  unfold OR
  rw [List.length_set, List.map_set]
  exact s1
theorem OR.frz {α : Type} {enc : α → Value} {t : TypeId} {b g n cap : Nat} {w : World} {d : List α} (h : OR enc t b w (.slice (some ⟨g, 0, none⟩) n cap) d) (i : Nat) : w.frozen? ⟨g, i, none⟩ = false := by
  have hn := h.len
  subst hn
  exact World.ownsRow.frozenAt h i
theorem OR.at_ {α : Type} {enc : α → Value} {t : TypeId} {b g n cap : Nat} {w : World} {d : List α} (h : OR enc t b w (.slice (some ⟨g, 0, none⟩) n cap) d) : b ≤ g ∧ g < w.heap.size := World.ownsRow.lt h g rfl
theorem OR.far {α : Type} {enc : α → Value} {t : TypeId} {b g : Nat} {w w' : World} {v : Value} {d : List α} (h : OR enc t b w v d) (hb : But g w w') (hne : v.ownBlock ≠ some g) : OR enc t b w' v d := by
  have hl := h.lt
  obtain ⟨h1, h2⟩ := h
  refine ⟨h1, ?_⟩
  rcases h2 with h2 | ⟨g0, cap0, cur, rfl, k2, k3, k4⟩
  · exact Or.inl h2
  · refine Or.inr ⟨g0, cap0, cur, rfl, k2, ?_, k4⟩
    rw [hb.block g0 (hl g0 rfl).2 (by simpa [Value.ownBlock] using hne)]; exact k3
theorem get_set' {α : Type} [Inhabited α] (R : List α) (i : Nat) (z : α) {j : Nat} (hj : j < R.length) : (R.set i z)[j]! = if j = i then z else R[j]! := by
  rw [getElem!_pos _ j (by simpa using hj), List.getElem_set, getElem!_pos R j hj]
  by_cases e : i = j
  · subst e; simp
  · rw [if_neg e, if_neg (by omega)]
theorem rep_at {α : Type} [Inhabited α] (x : α) {k j : Nat} (h : j < k) : (List.replicate k x)[j]! = x := by
  rw [getElem!_pos _ j (by simpa using h)]; simp
theorem one_cellV {v : Value} (h : v.oneCell' = true) : ∀ u ∈ [v], u.oneCell' = true := by
  intro u hu; simp at hu; subst hu; exact h
theorem one_new (w : World) (x : Value) (t : TypeId) : ∀ (j : Nat) (u : Value), [x][j]? = some u → (w.alloc (.cells #[x] t)).cell? ((⟨w.heap.size, 0, none⟩ : Addr).add j) = some u := by
  intro j u hj
  match j, hj with
  | 0, hj => simp at hj; subst hj; exact World.cell?_alloc_at _ _ _ _ rfl
end Go.Proofs.Ytijfmaepoamkgab
