/- Rows of spots of one's own: a place laid anew, the rest cleared, sorted. -/
import Derived.Test.YtephkmahnbhmbaaQc
namespace Go.Proofs.Ytephkmahnbhmbaa
open Go.ChangeShapes Go.WideShapes Go.ChangeAt Go.RowKit Go.Fl Go.Sort Go.Shelf Go.Lib

theorem row_setCell {w : World} {g : Nat} {cur : Array Value} {t : TypeId} {fr : Nat × Nat} (h : w.heap[g]? = some (.cells cur t fr)) (o : Nat) (v : Value) : (w.setCell ⟨g, o, none⟩ v).heap[g]? = some (.cells (cur.setIfInBounds o v) t fr) := by
  rw [setCell_eq]
  simp [mapBlock, Array.getElem?_modify, h, onCells]
theorem row_setCells {g : Nat} {t : TypeId} {fr : Nat × Nat} : ∀ (vs : List Value) (o : Nat) (w : World) (cur : Array Value), w.heap[g]? = some (.cells cur t fr) → (w.setCells g o vs).heap[g]? = some (.cells (setMany cur o vs) t fr)
  | [], _, _, _, h => h
  | v :: r, o, _, _, h => row_setCells r (o + 1) _ _ (row_setCell h o v)
theorem kp_setCells {F : Nat → Prop} {g : Nat} (hF : ¬ F g) : ∀ (vs : List Value) (o : Nat) (w : World), Kp F w (w.setCells g o vs)
  | [], _, w => Kp.refl F w
  | v :: r, o, w => (Kp.setCell w g o v hF).trans (kp_setCells hF r (o + 1) _)
theorem get_many {F : Array Value} {vs : List Value} {s t : Nat} (ht : t < F.size) : (setMany F s vs)[t]? = if s ≤ t ∧ t < s + vs.length then vs[t - s]? else F[t]? := by
  have h := get_setMany vs s F t ht
  rw [getElem!_pos _ t (by simpa using ht)] at h
  rw [Array.getElem?_eq_getElem (by simpa using ht), h]
  split
  · rename_i q
    rw [List.getElem?_eq_getElem (by omega), getElem!_pos vs (t - s) (by omega)]
  · rw [Array.getElem?_eq_getElem ht, getElem!_pos F t ht]
theorem OwnR.put {w : World} {g cap : Nat} {d : Array Spt} (h : OwnR w g cap d) {k : Nat} (hk : k < d.size) (s : Spt) : OwnR (w.setCells g (k * 3) (spC s)) g cap (d.set! k s) := by
  obtain ⟨cur, h1, h2, h3⟩ := h.ex
  have hle := h.le
  refine ⟨⟨_, row_setCells (spC s) (k * 3) w cur h1, by rw [size_setMany]; exact h2, fun i hi => ?_⟩, by simpa using hle, h.most⟩
  have hi' : i < d.size := by simpa using hi
  have hl : (spC s).length = 3 := rfl
  rw [get_many (by omega), get_many (by omega), get_many (by omega), hl]
  by_cases hik : i = k
  · subst hik
    have e : (d.set! i s)[i]! = s := by simp [Array.set!, hk]
    rw [e, if_pos (by omega), if_pos (by omega), if_pos (by omega), show i * 3 - i * 3 = 0 by omega, show i * 3 + 1 - i * 3 = 1 by omega, show i * 3 + 2 - i * 3 = 2 by omega]
    exact ⟨rfl, rfl, rfl⟩
  · have e : (d.set! k s)[i]! = d[i]! := by
      show (d.setIfInBounds k s)[i]! = _
      rw [getElem!_pos _ i (by simpa using hi'), getElem!_pos d i hi', Array.getElem_setIfInBounds_ne (by simpa using hi') (Ne.symm hik)]
    rw [e, if_neg (by omega), if_neg (by omega), if_neg (by omega)]
    exact h3 i hi'
/-- The places from kk on are written over, whatever with. -/
theorem OwnR.cut {w : World} {g cap : Nat} {d : Array Spt} (h : OwnR w g cap d) {kk : Nat} (hk : kk ≤ d.size) (vs : List Value) : OwnR (w.setCells g (kk * 3) vs) g cap (d.extract 0 kk) := by
  obtain ⟨cur, h1, h2, h3⟩ := h.ex
  have hle := h.le
  have hs : (d.extract 0 kk).size = kk := by simp; omega
  refine ⟨⟨_, row_setCells vs (kk * 3) w cur h1, by rw [size_setMany]; exact h2, fun i hi => ?_⟩, by omega, h.most⟩
  rw [hs] at hi
  have e : (d.extract 0 kk)[i]! = d[i]! := by rw [getElem!_pos _ i (by omega), getElem!_pos d i (by omega)]; simp
  rw [e, get_many (by omega), get_many (by omega), get_many (by omega), if_neg (by omega), if_neg (by omega), if_neg (by omega)]
  exact h3 i (by omega)
/-- 'clear' of the places from kk on. -/
def zl3 (n : Nat) : List Value := (Builtin.zeroCells #[.int .i64 0, .int .i64 0, .float .f64 0] n).toList
set_option maxRecDepth 20000 in
theorem run_clear3 {w : World} {g cap kk n : Nat} {d : Array Spt} (h : OwnR w g cap d) (hd : d.size = n) (hk : kk < n) (ty : TypeId) (c : Nat) : (Builtin.clear_ #[25] ty #[.slice (some ⟨g, kk * 3, none⟩) (n - kk) c]).run Try.prog w = .ok (.tuple #[]) (w.setCells g (kk * 3) (zl3 (n - kk))) := by
  obtain ⟨cur, h1, h2, h3⟩ := h.ex
  have hle := h.le
  have hz : ∀ w, (zeroValue 29).run Try.prog w = .ok (.agg #[.int .i64 0, .int .i64 0, .float .f64 0]) w := Try.zeroValue29
  have hl : (zl3 (n - kk)).length = (n - kk) * 3 := by simp [zl3, Builtin.zeroCells]
  have h1' : ∀ v ∈ zl3 (n - kk), v.oneCell' = true := by
    intro v hv
    simp only [zl3, Builtin.zeroCells, Array.toList_map, List.mem_map] at hv
    obtain ⟨j, _, rfl⟩ := hv
    have : j % 3 < 3 := Nat.mod_lt _ (by omega)
    rcases (show j % 3 = 0 ∨ j % 3 = 1 ∨ j % 3 = 2 by omega) with r | r | r <;> simp [r] <;> rfl
  have hst := run_storeCells_cells (P := Try.prog) g (kk * 3) (zl3 (n - kk)) 0 w (fun j hj => by
    rw [Nat.add_zero, cell_of_row _ _ _ _ _ _ h1, Array.getElem?_eq_getElem (by omega)]; rfl) (fun j hj => frozen_of_row h1) h1'
  rw [Nat.add_zero] at hst
  obtain ⟨m, hm⟩ : ∃ m, n - kk = m + 1 := ⟨n - kk - 1, by omega⟩
  rw [hm] at hst ⊢
  simp only [zl3] at hst ⊢
  simp [Builtin.clear_, run_underlying Try.underlying25, hz, Value.cells, hst]
/-- A row of one's own as the sort sees it. -/
def withIx (d : Array Spt) : Array El := (Array.range d.size).map fun i => (d[i]!, i)
theorem withIx_size (d : Array Spt) : (withIx d).size = d.size := by simp [withIx]
theorem withIx_get {d : Array Spt} {i : Nat} (h : i < d.size) : (withIx d)[i]! = (d[i]!, i) := by
  rw [getElem!_pos _ i (by rw [withIx_size]; exact h)]; simp [withIx]
theorem OwnR.holds {w : World} {g cap : Nat} {d : Array Spt} (h : OwnR w g cap d) : HoldsK elC 3 w g 0 (withIx d) := by
  intro j hj
  have hj' : j < d.size * 3 := by rw [size_flatK, withIx_size] at hj; exact hj
  have hi : j / 3 < d.size := by omega
  obtain ⟨⟨q0, q1, q2⟩, qf⟩ := h.cell hi
  rw [get_flatK _ _ _ _ (by rw [withIx_size]; exact hj'), withIx_get hi, Nat.zero_add]
  refine ⟨?_, qf j⟩
  show w.cell? ⟨g, j, none⟩ = some ((spC d[j / 3]!)[j % 3]!)
  have e : j = j / 3 * 3 + j % 3 := by omega
  rcases (show j % 3 = 0 ∨ j % 3 = 1 ∨ j % 3 = 2 by omega) with r | r | r
  · rw [r, show j = j / 3 * 3 by omega, show j / 3 * 3 / 3 = j / 3 by omega]; exact q0
  · rw [r]
    conv => lhs; rw [e, r]
    exact q1
  · rw [r]
    conv => lhs; rw [e, r]
    exact q2
theorem OwnR.sorted {w w' : World} {g cap : Nat} {d : Array Spt} {d' : Array El} (h : OwnR w g cap d) (hs : d'.size = d.size) (S : SWK elC 3 w g 0 d' w') : OwnR w' g cap (d'.map (·.1)) ∧ Kp (fun k => k ≠ g) w w' := by
  have hH := S.holds h.lt h.holds (by rw [hs, withIx_size])
  obtain ⟨cur, h1, h2, h3⟩ := h.ex
  obtain ⟨n, os, rfl⟩ := S
  have hb : ∃ cur', (sortWorldK elC 3 w g 0 n d' os).heap[g]? = some (.cells cur' 29 (0, 0)) ∧ cur'.size = cap * 3 := by
    unfold sortWorldK
    rw [heap_grow_old _ _ (by rw [size_putRowK]; exact h.lt)]
    refine ⟨putCells id 0 (flatK elC 3 d') cur, ?_, ?_⟩
    · show (mapBlock _ _ _).heap[g]? = _
      simp only [mapBlock, Array.getElem?_modify, if_pos]
      show Option.map _ (w.heap[g]?) = _
      rw [h1]; rfl
    · rw [← h2]; simp [putCells]
  obtain ⟨cur', k1, k2⟩ := hb
  refine ⟨⟨⟨cur', k1, k2, fun i hi => ?_⟩, by simpa [hs] using h.le, h.most⟩, ?_⟩
  · have hi' : i < d'.size := by simpa using hi
    have e : (d'.map (·.1))[i]! = (d'[i]!).1 := by rw [getElem!_pos _ i hi, getElem!_pos d' i hi']; simp
    have c0 := (HoldsK.cell hH hi' (show 0 < 3 by omega)).1
    have c1 := (HoldsK.cell hH hi' (show 1 < 3 by omega)).1
    have c2 := (HoldsK.cell hH hi' (show 2 < 3 by omega)).1
    rw [cell_of_row _ _ _ _ _ _ k1, Nat.zero_add] at c0 c1 c2
    rw [e]
    exact ⟨c0, c1, c2⟩
  · unfold sortWorldK
    refine ⟨rfl, rfl, rfl, by rw [size_grow, size_putRowK]; exact Nat.le_add_right _ _, fun k hk hl => ?_⟩
    rw [heap_grow_old _ _ (by rw [size_putRowK]; exact hl)]
    show (mapBlock _ _ _).heap[k]? = _
    simp only [mapBlock, Array.getElem?_modify, if_neg (Ne.symm hk)]
    rfl
end Go.Proofs.Ytephkmahnbhmbaa
