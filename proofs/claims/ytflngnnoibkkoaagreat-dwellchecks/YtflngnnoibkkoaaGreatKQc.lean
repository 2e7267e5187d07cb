/- Rows of spots of one's own, written in place. -/
import Derived.Test.YtflngnnoibkkoaaGreatKQa
import Derived.Lib.SliceRun
namespace Go.Proofs.YtflngnnoibkkoaaGreat.Pk
open Go.ChangeShapes Go.WideShapes Go.ChangeAt Go.RowKit Go.Fl Go.Sort Go.Shelf Go.Lib
set_option maxRecDepth 200000
set_option maxHeartbeats 8000000

/-- A row of one's own whose first places hold these spots. -/
structure OwnR (w : World) (g cap : Nat) (d : Array Spt) : Prop where
  ex : ∃ cur, w.heap[g]? = some (.cells cur 151 (0, 0)) ∧ cur.size = cap * 3 ∧ ∀ i, i < d.size → cur[i * 3]? = some (.int .i64 (d[i]!).1) ∧ cur[i * 3 + 1]? = some (.int .i64 (d[i]!).2.1) ∧ cur[i * 3 + 2]? = some (.float .f64 (d[i]!).2.2)
  le : d.size ≤ cap
  most : cap ≤ maxLen
theorem OwnR.lt {w : World} {g cap : Nat} {d : Array Spt} (h : OwnR w g cap d) : g < w.heap.size := by
  obtain ⟨cur, h1, _⟩ := h.ex
  exact (Array.getElem?_eq_some_iff.1 h1).1
theorem OwnR.cell {w : World} {g cap : Nat} {d : Array Spt} (h : OwnR w g cap d) {i : Nat} (hi : i < d.size) :
    (w.cell? ⟨g, i * 3, none⟩ = some (.int .i64 (d[i]!).1) ∧ w.cell? ⟨g, i * 3 + 1, none⟩ = some (.int .i64 (d[i]!).2.1) ∧ w.cell? ⟨g, i * 3 + 2, none⟩ = some (.float .f64 (d[i]!).2.2)) ∧ ∀ k, w.frozen? ⟨g, k, none⟩ = false := by
  obtain ⟨cur, h1, h2, h3⟩ := h.ex
  obtain ⟨q1, q2, q3⟩ := h3 i hi
  refine ⟨⟨?_, ?_, ?_⟩, fun k => frozen_of_row h1⟩ <;> rw [cell_of_row _ _ _ _ _ _ h1] <;> assumption
theorem OwnR.kp {w w' : World} {g cap : Nat} {d : Array Spt} {F : Nat → Prop} (h : OwnR w g cap d) (hk : Kp F w w') (hF : F g) : OwnR w' g cap d := by
  obtain ⟨cur, h1, h2⟩ := h.ex
  exact ⟨⟨cur, (hk.block g hF h.lt).trans h1, h2⟩, h.le, h.most⟩
theorem OwnR.up {w w' : World} {g cap : Nat} {d : Array Spt} (h : OwnR w g cap d) (hu : Up w w') : OwnR w' g cap d := h.kp (F := fun _ => True) (Kp.of_up hu) trivial
theorem flat_get (L : List Spt) : ∀ (i c : Nat), c < 3 → (L.flatMap spC)[i * 3 + c]? = (L[i]?).bind fun s => (spC s)[c]? := by
  induction L with
  | nil => intro i c hc; simp
  | cons a l ih =>
    intro i c hc
    rw [List.flatMap_cons]
    cases i with
    | zero =>
      rw [List.getElem?_append_left (by simp [spC]; omega)]
      simp
    | succ i =>
      rw [List.getElem?_append_right (by simp [spC]; omega)]
      have e : (i + 1) * 3 + c - (spC a).length = i * 3 + c := by simp [spC]; omega
      rw [e, ih i c hc]
      simp
theorem OwnR.of_so {b : Nat} {w : World} {g n cap : Nat} {L : List Spt} (h : SO b w (.slice (some ⟨g, 0, none⟩) n cap) L) : OwnR w g cap L.toArray ∧ b ≤ g ∧ L.length = n := by
  obtain ⟨h1, h2⟩ := h
  rcases h2 with ⟨h2, _⟩ | ⟨g', cap', cur, e, k2, k3, k4, k5, k6, k7⟩
  · cases h2
  · simp only [Value.slice.injEq, Option.some.injEq, Addr.mk.injEq] at e
    obtain ⟨⟨rfl, _⟩, e2, rfl⟩ := e
    refine ⟨⟨⟨cur, k3, k6, fun i hi => ?_⟩, by simpa using k4, k5⟩, k2, e2.symm⟩
    have hi' : i < L.length := by simpa using hi
    have gen : ∀ c, c < 3 → cur[i * 3 + c]? = (spC L[i])[c]? := fun c hc => by
      have t := congrArg (fun l => l[i * 3 + c]?) k7
      simp only [List.getElem?_take] at t
      rw [if_pos (by omega), flat_get L i c hc, List.getElem?_eq_getElem hi'] at t
      rw [← Array.getElem?_toList, t]; rfl
    have e3 : L.toArray[i]! = L[i] := by simp [getElem!_pos L i hi']
    rw [e3]
    exact ⟨gen 0 (by omega), gen 1 (by omega), gen 2 (by omega)⟩
theorem OwnR.so {b : Nat} {w : World} {g n cap : Nat} {L : List Spt} (h : OwnR w g cap L.toArray) (hb : b ≤ g) (hn : L.length = n) : SO b w (.slice (some ⟨g, 0, none⟩) n cap) L := by
  obtain ⟨cur, h1, h2, h3⟩ := h.ex
  have hle : L.length ≤ cap := by simpa using h.le
  refine ⟨spC_len L, Or.inr ⟨g, cap, cur, by rw [hn], hb, h1, hle, h.most, h2, ?_⟩⟩
  apply List.ext_getElem?
  intro j
  rw [List.getElem?_take]
  have hcs : cur.toList.length = cap * 3 := by simpa using h2
  by_cases hj : j < L.length * 3
  · rw [if_pos hj]
    have hi : j / 3 < L.length := by omega
    have e : j = j / 3 * 3 + j % 3 := by omega
    have hc : j % 3 < 3 := by omega
    have q := h3 (j / 3) (by simpa using hi)
    have e3 : L.toArray[j / 3]! = L[j / 3] := by simp [getElem!_pos L (j / 3) hi]
    rw [e3] at q
    rw [e, flat_get L _ _ hc, List.getElem?_eq_getElem hi, Array.getElem?_toList]
    show _ = (spC L[j / 3])[j % 3]?
    rcases (show j % 3 = 0 ∨ j % 3 = 1 ∨ j % 3 = 2 by omega) with r | r | r <;> rw [r]
    · exact q.1
    · exact q.2.1
    · exact q.2.2
  · rw [if_neg hj, List.getElem?_eq_none (by rw [spC_len]; omega)]
theorem OwnR.take {w : World} {g cap : Nat} {d : Array Spt} (h : OwnR w g cap d) (m : Nat) (hm : m ≤ d.size) : OwnR w g cap (d.extract 0 m) := by
  obtain ⟨cur, h1, h2, h3⟩ := h.ex
  have hs : (d.extract 0 m).size = m := by simp; omega
  have := h.le
  refine ⟨⟨cur, h1, h2, fun i hi => ?_⟩, by omega, h.most⟩
  rw [hs] at hi
  have e : (d.extract 0 m)[i]! = d[i]! := by rw [getElem!_pos _ i (by omega), getElem!_pos d i (by omega)]; simp
  rw [e]
  exact h3 i (by omega)
end Go.Proofs.YtflngnnoibkkoaaGreat.Pk
/- Rows of spots of one's own: a place laid anew, the rest cleared, sorted. -/
namespace Go.Proofs.YtflngnnoibkkoaaGreat.Pk
open Go.ChangeShapes Go.WideShapes Go.ChangeAt Go.RowKit Go.Fl Go.Sort Go.Shelf Go.Lib
set_option maxRecDepth 200000
set_option maxHeartbeats 8000000

theorem row_setCell {w : World} {g : Nat} {cur : Array Value} {t : TypeId} {fr : Nat × Nat} (h : w.heap[g]? = some (.cells cur t fr)) (o : Nat) (v : Value) : (w.setCell ⟨g, o, none⟩ v).heap[g]? = some (.cells (cur.setIfInBounds o v) t fr) := by
  rw [setCell_eq]
  simp [mapBlock, Array.getElem?_modify, h, onCells]
theorem row_setCells {g : Nat} {t : TypeId} {fr : Nat × Nat} : ∀ (vs : List Value) (o : Nat) (w : World) (cur : Array Value), w.heap[g]? = some (.cells cur t fr) → (w.setCells g o vs).heap[g]? = some (.cells (setMany cur o vs) t fr)
  | [], _, _, _, h => h
  | v :: r, o, _, _, h => row_setCells r (o + 1) _ _ (row_setCell h o v)
theorem kp_setCells {F : Nat → Prop} {g : Nat} (hF : ¬ F g) : ∀ (vs : List Value) (o : Nat) (w : World), Kp F w (w.setCells g o vs)
  | [], _, w => Kp.refl F w
  | v :: r, o, w => (Kp.setCell w g o v hF).trans (kp_setCells hF r (o + 1) _)
theorem get_many {F : Array Value} {vs : List Value} {s t : Nat} (ht : t < F.size) : (setMany F s vs)[t]? = if s ≤ t ∧ t < s + vs.length then vs[t - s]? else F[t]? := by
  have h := get_setMany vs s F t ht
  rw [getElem!_pos _ t (by simpa using ht)] at h
  rw [Array.getElem?_eq_getElem (by simpa using ht), h]
  split
  · rename_i q
    rw [List.getElem?_eq_getElem (by omega), getElem!_pos vs (t - s) (by omega)]
  · rw [Array.getElem?_eq_getElem ht, getElem!_pos F t ht]
theorem OwnR.put {w : World} {g cap : Nat} {d : Array Spt} (h : OwnR w g cap d) {k : Nat} (hk : k < d.size) (s : Spt) : OwnR (w.setCells g (k * 3) (spC s)) g cap (d.set! k s) := by
  obtain ⟨cur, h1, h2, h3⟩ := h.ex
  have hle := h.le
  refine ⟨⟨_, row_setCells (spC s) (k * 3) w cur h1, by rw [size_setMany]; exact h2, fun i hi => ?_⟩, by simpa using hle, h.most⟩
  have hi' : i < d.size := by simpa using hi
  have hl : (spC s).length = 3 := rfl
  rw [get_many (by omega), get_many (by omega), get_many (by omega), hl]
  by_cases hik : i = k
  · subst hik
    have e : (d.set! i s)[i]! = s := by simp [Array.set!, hk]
    rw [e, if_pos (by omega), if_pos (by omega), if_pos (by omega), show i * 3 - i * 3 = 0 by omega, show i * 3 + 1 - i * 3 = 1 by omega, show i * 3 + 2 - i * 3 = 2 by omega]
    exact ⟨rfl, rfl, rfl⟩
  · have e : (d.set! k s)[i]! = d[i]! := by
      show (d.setIfInBounds k s)[i]! = _
      rw [getElem!_pos _ i (by simpa using hi'), getElem!_pos d i hi', Array.getElem_setIfInBounds_ne (by simpa using hi') (Ne.symm hik)]
    rw [e, if_neg (by omega), if_neg (by omega), if_neg (by omega)]
    exact h3 i hi'
/-- The places from kk on are written over, whatever with. -/
theorem OwnR.cut {w : World} {g cap : Nat} {d : Array Spt} (h : OwnR w g cap d) {kk : Nat} (hk : kk ≤ d.size) (vs : List Value) : OwnR (w.setCells g (kk * 3) vs) g cap (d.extract 0 kk) := by
  obtain ⟨cur, h1, h2, h3⟩ := h.ex
  have hle := h.le
  have hs : (d.extract 0 kk).size = kk := by simp; omega
  refine ⟨⟨_, row_setCells vs (kk * 3) w cur h1, by rw [size_setMany]; exact h2, fun i hi => ?_⟩, by omega, h.most⟩
  rw [hs] at hi
  have e : (d.extract 0 kk)[i]! = d[i]! := by rw [getElem!_pos _ i (by omega), getElem!_pos d i (by omega)]; simp
  rw [e, get_many (by omega), get_many (by omega), get_many (by omega), if_neg (by omega), if_neg (by omega), if_neg (by omega)]
  exact h3 i (by omega)
/-- 'clear' of the places from kk on. -/
def zl3 (n : Nat) : List Value := (Builtin.zeroCells #[.int .i64 0, .int .i64 0, .float .f64 0] n).toList
theorem run_clear3 {w : World} {g cap kk n : Nat} {d : Array Spt} (h : OwnR w g cap d) (hd : d.size = n) (hk : kk < n) (ty : TypeId) (c : Nat) : (Builtin.clear_ #[70] ty #[.slice (some ⟨g, kk * 3, none⟩) (n - kk) c]).run Tryz.prog w = .ok (.tuple #[]) (w.setCells g (kk * 3) (zl3 (n - kk))) := by
  obtain ⟨cur, h1, h2, h3⟩ := h.ex
  have hle := h.le
  have hz : ∀ w, (zeroValue 151).run Tryz.prog w = .ok (.agg #[.int .i64 0, .int .i64 0, .float .f64 0]) w := Tryz.zeroValue151
  have hl : (zl3 (n - kk)).length = (n - kk) * 3 := by simp [zl3, Builtin.zeroCells]
  have h1' : ∀ v ∈ zl3 (n - kk), v.oneCell' = true := by
    intro v hv
    simp only [zl3, Builtin.zeroCells, Array.toList_map, List.mem_map] at hv
    obtain ⟨j, _, rfl⟩ := hv
    have : j % 3 < 3 := Nat.mod_lt _ (by omega)
    rcases (show j % 3 = 0 ∨ j % 3 = 1 ∨ j % 3 = 2 by omega) with r | r | r <;> simp [r] <;> rfl
  have hst := run_storeCells_cells (P := Tryz.prog) g (kk * 3) (zl3 (n - kk)) 0 w (fun j hj => by
    rw [Nat.add_zero, cell_of_row _ _ _ _ _ _ h1, Array.getElem?_eq_getElem (by omega)]; rfl) (fun j hj => frozen_of_row h1) h1'
  rw [Nat.add_zero] at hst
  obtain ⟨m, hm⟩ : ∃ m, n - kk = m + 1 := ⟨n - kk - 1, by omega⟩
  rw [hm] at hst ⊢
  simp only [zl3] at hst ⊢
  simp [Builtin.clear_, run_underlying Tryz.underlying70, hz, Value.cells, hst]
/-- A row of one's own as the sort sees it. -/
def withIx (d : Array Spt) : Array El := (Array.range d.size).map fun i => (d[i]!, i)
theorem withIx_size (d : Array Spt) : (withIx d).size = d.size := by simp [withIx]
theorem withIx_get {d : Array Spt} {i : Nat} (h : i < d.size) : (withIx d)[i]! = (d[i]!, i) := by
  rw [getElem!_pos _ i (by rw [withIx_size]; exact h)]; simp [withIx]
theorem OwnR.holds {w : World} {g cap : Nat} {d : Array Spt} (h : OwnR w g cap d) : HoldsK elC 3 w g 0 (withIx d) := by
  intro j hj
  have hj' : j < d.size * 3 := by rw [size_flatK, withIx_size] at hj; exact hj
  have hi : j / 3 < d.size := by omega
  obtain ⟨⟨q0, q1, q2⟩, qf⟩ := h.cell hi
  rw [get_flatK _ _ _ _ (by rw [withIx_size]; exact hj'), withIx_get hi, Nat.zero_add]
  refine ⟨?_, qf j⟩
  show w.cell? ⟨g, j, none⟩ = some ((spC d[j / 3]!)[j % 3]!)
  have e : j = j / 3 * 3 + j % 3 := by omega
  rcases (show j % 3 = 0 ∨ j % 3 = 1 ∨ j % 3 = 2 by omega) with r | r | r
  · rw [r, show j = j / 3 * 3 by omega, show j / 3 * 3 / 3 = j / 3 by omega]; exact q0
  · rw [r]
    conv => lhs; rw [e, r]
    exact q1
  · rw [r]
    conv => lhs; rw [e, r]
    exact q2
theorem OwnR.sorted {w w' : World} {g cap : Nat} {d : Array Spt} {d' : Array El} (h : OwnR w g cap d) (hs : d'.size = d.size) (S : SWK elC 3 w g 0 d' w') : OwnR w' g cap (d'.map (·.1)) ∧ Kp (fun k => k ≠ g) w w' := by
  have hH := S.holds h.lt h.holds (by rw [hs, withIx_size])
  obtain ⟨cur, h1, h2, h3⟩ := h.ex
  obtain ⟨n, os, rfl⟩ := S
  have hb : ∃ cur', (sortWorldK elC 3 w g 0 n d' os).heap[g]? = some (.cells cur' 151 (0, 0)) ∧ cur'.size = cap * 3 := by
    unfold sortWorldK
    rw [heap_grow_old _ _ (by rw [size_putRowK]; exact h.lt)]
    refine ⟨putCells id 0 (flatK elC 3 d') cur, ?_, ?_⟩
    · show (mapBlock _ _ _).heap[g]? = _
      simp only [mapBlock, Array.getElem?_modify, if_pos]
      show Option.map _ (w.heap[g]?) = _
      rw [h1]; rfl
    · rw [← h2]; simp [putCells]
  obtain ⟨cur', k1, k2⟩ := hb
  refine ⟨⟨⟨cur', k1, k2, fun i hi => ?_⟩, by simpa [hs] using h.le, h.most⟩, ?_⟩
  · have hi' : i < d'.size := by simpa using hi
    have e : (d'.map (·.1))[i]! = (d'[i]!).1 := by rw [getElem!_pos _ i hi, getElem!_pos d' i hi']; simp
    have c0 := (HoldsK.cell hH hi' (show 0 < 3 by omega)).1
    have c1 := (HoldsK.cell hH hi' (show 1 < 3 by omega)).1
    have c2 := (HoldsK.cell hH hi' (show 2 < 3 by omega)).1
    rw [cell_of_row _ _ _ _ _ _ k1, Nat.zero_add] at c0 c1 c2
    rw [e]
    exact ⟨c0, c1, c2⟩
  · unfold sortWorldK
    refine ⟨rfl, rfl, rfl, by rw [size_grow, size_putRowK]; exact Nat.le_add_right _ _, fun k hk hl => ?_⟩
    rw [heap_grow_old _ _ (by rw [size_putRowK]; exact hl)]
    show (mapBlock _ _ _).heap[k]? = _
    simp only [mapBlock, Array.getElem?_modify, if_neg (Ne.symm hk)]
    rfl
end Go.Proofs.YtflngnnoibkkoaaGreat.Pk
/- slices.CompactFunc of spots, by their cells. -/
namespace Go.Proofs.YtflngnnoibkkoaaGreat.Pk
open Go.ChangeShapes Go.WideShapes Go.ChangeAt Go.RowKit Go.Fl Go.Sort Go.Shelf Go.Lib
set_option maxRecDepth 200000
set_option maxHeartbeats 8000000
attribute [local go_sem] run_store_float run_neg fold_eq fold_ne fold_lt fold_gt abs_eq eqg57

def sameS (s t : Spt) : Bool := sameC s.1 s.2.1 t.1 t.2.1
/-- The first of each run of spots of one cell, of the first n. -/
def cptN (d : Array Spt) : Nat → List Spt
  | 0 => []
  | i + 1 => cptN d i ++ (if i = 0 ∨ sameS d[i]! d[i - 1]! = false then [d[i]!] else [])
theorem six6_up {w w' : World} {g k j : Nat} {a b c d e f : Value} (h : w.cell? ⟨g, k, none⟩ = some a ∧ w.cell? ⟨g, k + 1, none⟩ = some b ∧ w.cell? ⟨g, k + 2, none⟩ = some c ∧ w.cell? ⟨g, j, none⟩ = some d ∧ w.cell? ⟨g, j + 1, none⟩ = some e ∧ w.cell? ⟨g, j + 2, none⟩ = some f) (hu : Up w w') :
    w'.cell? ⟨g, k, none⟩ = some a ∧ w'.cell? ⟨g, k + 1, none⟩ = some b ∧ w'.cell? ⟨g, k + 2, none⟩ = some c ∧ w'.cell? ⟨g, j, none⟩ = some d ∧ w'.cell? ⟨g, j + 1, none⟩ = some e ∧ w'.cell? ⟨g, j + 2, none⟩ = some f :=
  ⟨cell_up h.1 hu, cell_up h.2.1 hu, cell_up h.2.2.1 hu, cell_up h.2.2.2.1 hu, cell_up h.2.2.2.2.1 hu, cell_up h.2.2.2.2.2 hu⟩
theorem ext_snoc {d : Array Spt} {k : Nat} (h : k < d.size) : (d.extract 0 k).toList ++ [d[k]!] = (d.extract 0 (k + 1)).toList := by
  rw [getElem!_pos d k h]
  simp [Array.toList_extract, List.take_add_one, h]
/-- How far the second loop has come: kk are kept, k + k2 looked at. -/
structure CI (w : World) (g cap n k : Nat) (d : Array Spt) (kk k2 : Nat) (dk : Array Spt) (wr : World) : Prop where
  own : OwnR wr g cap dk
  sz : dk.size = n
  le : kk ≤ k + k2 - 1
  cpt : cptN d (k + k2) = (dk.extract 0 kk).toList
  rest : ∀ i, k + k2 - 1 ≤ i → i < n → dk[i]! = d[i]!
  kp : Kp (fun b => b ≠ g) w wr
theorem set_ne {d : Array Spt} {k i : Nat} (s : Spt) (h : i ≠ k) : (d.set! k s)[i]! = d[i]! := by
  show (d.setIfInBounds k s)[i]! = _
  rcases Nat.lt_or_ge i d.size with hi | hi
  · rw [getElem!_pos _ i (by simpa using hi), getElem!_pos d i hi, Array.getElem_setIfInBounds_ne (by simpa using hi) (Ne.symm h)]
  · rw [getElem!_neg _ i (by simpa using hi), getElem!_neg d i (by omega)]
theorem set_eq {d : Array Spt} {k : Nat} (s : Spt) (h : k < d.size) : (d.set! k s)[k]! = s := by
  show (d.setIfInBounds k s)[k]! = _
  rw [getElem!_pos _ k (by simpa using h)]; simp
theorem ext_set {d : Array Spt} {k : Nat} (s : Spt) (h : k < d.size) : ((d.set! k s).extract 0 k).toList = (d.extract 0 k).toList := by
  congr 1
  apply Array.ext
  · simp
  · intro i h1 h2
    have hi : i < k := by simp at h2; omega
    simp only [Array.getElem_extract, Nat.zero_add]
    have := set_ne (d := d) s (show i ≠ k by omega)
    rw [getElem!_pos _ i (by show i < (d.setIfInBounds k s).size; simp; omega), getElem!_pos d i (by omega)] at this
    exact this
theorem CI.put {w : World} {g cap n k : Nat} {d : Array Spt} {kk k2 : Nat} {dk : Array Spt} {wr w1 : World} {s : Spt} (h : CI w g cap n k d kk k2 dk wr) (hu : Up wr w1) (h1 : 1 ≤ k) (h2 : 1 ≤ k2) (hk : k + k2 < n) (hkk : kk < n) (hs : dk[k + k2]! = s) (hn : sameS s dk[k + k2 - 1]! = false) :
    CI w g cap n k d (kk + 1) (k2 + 1) (dk.set! kk s) (w1.setCells g (kk * 3) (spC s)) := by
  have hz := h.sz
  have hle := h.le
  have e1 : d[k + k2]! = s := by rw [← h.rest (k + k2) (by omega) hk, hs]
  have e2 : dk[k + k2 - 1]! = d[k + k2 - 1]! := h.rest _ (by omega) (by omega)
  refine ⟨(h.own.up hu).put (by omega) s, by simpa using hz, by omega, ?_, fun i hi hin => ?_, (h.kp.trans (Kp.of_up hu)).trans (kp_setCells (by simp) _ _ _)⟩
  · rw [show k + (k2 + 1) = k + k2 + 1 by omega, cptN, h.cpt, e1, ← e2, if_pos (Or.inr hn), ← ext_snoc (by show kk < (dk.setIfInBounds kk s).size; simp; omega), ext_set s (by omega), set_eq s (by omega)]
  · rw [set_ne s (by omega)]
    exact h.rest i (by omega) hin
theorem CI.skip {w : World} {g cap n k : Nat} {d : Array Spt} {kk k2 : Nat} {dk : Array Spt} {wr w1 : World} {s : Spt} (h : CI w g cap n k d kk k2 dk wr) (hu : Up wr w1) (h1 : 1 ≤ k) (h2 : 1 ≤ k2) (hk : k + k2 < n) (hs : dk[k + k2]! = s) (hn : sameS s dk[k + k2 - 1]! = true) :
    CI w g cap n k d kk (k2 + 1) dk w1 := by
  have hle := h.le
  have e1 : d[k + k2]! = s := by rw [← h.rest (k + k2) (by omega) hk, hs]
  have e2 : dk[k + k2 - 1]! = d[k + k2 - 1]! := h.rest _ (by omega) (by omega)
  refine ⟨h.own.up hu, h.sz, by omega, ?_, fun i hi hin => h.rest i (by omega) hin, h.kp.trans (Kp.of_up hu)⟩
  rw [show k + (k2 + 1) = k + k2 + 1 by omega, cptN, h.cpt, e1, ← e2, hn, if_neg (by simp; omega), List.append_nil]
/-- What the call leaves. -/
def CP (w : World) (g cap : Nat) (L : List Spt) (e : Ending) (w' : World) : Prop := ∃ m c, e = .returned (.slice (some ⟨g, 0, none⟩) m c) ∧ Hid (m = L.length ∧ c = cap ∧ OwnR w' g cap L.toArray) ∧ Hid (Kp (fun k => k ≠ g) w w')
set_option maxHeartbeats 4000000 in
theorem t59 {w : World} {g cap n : Nat} {d : Array Spt} (h : OwnR w g cap d) (hd : d.size = n) (hn : 0 < n) (hsz : n < 4611686018427387904) : Calls Tryz.prog 177 #[.slice (some ⟨g, 0, none⟩) n cap, .func (.func 178) #[] #[]] w (CP w g cap (cptN d n)) := by
  have H : Hid (OwnR w g cap d) := h
  have HD : Hid (d.size = n) := hd
  have hle := h.le
  rw [hd] at hle
  clear h hd
  by_cases h1 : n = 1
  · subst h1
    go_enter Tryz.func177, Tryz.ntmps177
    go_wp2
    go_ret
    have e : cptN d 1 = (d.extract 0 1).toList := by
      rw [← ext_snoc (by rw [HD.out]; omega)]
      simp [cptN]
    rw [e]
    refine ⟨1, cap, rfl, ⟨?_, rfl, ?_⟩, Kp.refl _ _⟩
    · have := HD.out
      simp; omega
    · exact H.out.take 1 (by rw [HD.out]; omega)
  · have b2 : ¬ (n : Int) < 2 := by omega
    go_enter Tryz.func177, Tryz.ntmps177
    go_wp2
    go_loopw [5, 6, 7] (fun vk _ _ wr => ∃ k : Nat, 1 ≤ k ∧ k ≤ n ∧ vk = .int .i64 k ∧ Hid (Gr w wr) ∧ Hid (cptN d k = (d.extract 0 k).toList)) (fun vk _ _ _ => n - (intOf vk).toNat)
    case atStart => exact ⟨1, by omega, by omega, rfl, Gr.refl _, by
      show _ = _
      rw [← ext_snoc (by rw [HD.out]; omega)]
      simp [cptN]⟩
    case round =>
      obtain ⟨k, hk1, hkn, rfl, HG, HC⟩ := hrel
      rename World => wr
      by_cases hlt : k < n
      · obtain ⟨j, hj⟩ : ∃ j, k - 1 = j := ⟨_, rfl⟩
        have HJ : Hid (k - 1 = j) := hj
        obtain ⟨s, hs⟩ : ∃ s, d[k]! = s := ⟨_, rfl⟩
        obtain ⟨u, hu⟩ : ∃ u, d[j]! = u := ⟨_, rfl⟩
        obtain ⟨⟨q0, q1, q2⟩, qf⟩ := (H.out.up HG.out.up).cell (i := k) (by rw [HD.out]; exact hlt)
        obtain ⟨⟨r0, r1, r2⟩, rf⟩ := (H.out.up HG.out.up).cell (i := j) (by rw [HD.out]; omega)
        rw [hs] at q0 q1 q2
        rw [hu] at r0 r1 r2
        obtain ⟨s1, s2, s3⟩ := s
        obtain ⟨u1, u2, u3⟩ := u
        have HSU : Hid (d[k]! = (s1, s2, s3) ∧ d[j]! = (u1, u2, u3)) := ⟨hs, hu⟩
        simp only at q0 q1 q2 r0 r1 r2
        have z1 : (k : Int) < (n : Int) := by omega
        have z2 : (k : Int) - 1 = (j : Int) := by omega
        have z3 : (j : Int) < (n : Int) := by omega
        have z4 : IntKind.i64.wrap (j : Int) = (j : Int) := by rw [IntKind.wrap_i64]; omega
        obtain ⟨sb, hsb⟩ : ∃ sb, sameC s1 s2 u1 u2 = sb := ⟨_, rfl⟩
        have HSB : Hid (sameC s1 s2 u1 u2 = sb) := hsb
        have C60 : Hid (∀ W, Calls Tryz.prog 178 #[.agg #[.int .i64 s1, .int .i64 s2, .float .f64 s3], .agg #[.int .i64 u1, .int .i64 u2, .float .f64 u3]] W (VU W (.bool sb))) := fun W => hsb ▸ t60 s1 s2 s3 u1 u2 u3 W
        clear hs hu hsb hj qf rf
        cases sb
        · go_wp2_with fail
          go_region_held3 (fun w' => w'.cell? ⟨g, k * 3, none⟩ = some (.int .i64 s1) ∧ w'.cell? ⟨g, k * 3 + 1, none⟩ = some (.int .i64 s2) ∧ w'.cell? ⟨g, k * 3 + 2, none⟩ = some (.float .f64 s3) ∧ w'.cell? ⟨g, j * 3, none⟩ = some (.int .i64 u1) ∧ w'.cell? ⟨g, j * 3 + 1, none⟩ = some (.int .i64 u2) ∧ w'.cell? ⟨g, j * 3 + 2, none⟩ = some (.float .f64 u3)) (first | exact ⟨q0, q1, q2, r0, r1, r2⟩ | exact six6_up (by assumption) HU1.out.up | go_keep) (first
            | (go_at_call 178; (with_reducible refine (C60.out _).mono ?_); rintro e w1 ⟨rfl, HU1⟩))
          go_wp2
          go_roundw
          case rel => exact ⟨k + 1, by omega, by omega, by go_num, (HG.out.trans (Gr.drewN _ 1)).trans HU1.out, by
            show _ = _
            have e : sameS d[k]! d[k - 1]! = false := by rw [HJ.out, HSU.out.1, HSU.out.2]; exact HSB.out
            rw [cptN, HC.out, if_pos (Or.inr e)]
            exact ext_snoc (by rw [HD.out]; exact hlt)⟩
          case measure => simp [intOf]; omega
        · have hcK : ¬ cap = k := by omega
          have hcK2 : ¬ cap ≤ k := by omega
          go_wp2_with fail
          go_region_held3 (fun w' => w'.cell? ⟨g, k * 3, none⟩ = some (.int .i64 s1) ∧ w'.cell? ⟨g, k * 3 + 1, none⟩ = some (.int .i64 s2) ∧ w'.cell? ⟨g, k * 3 + 2, none⟩ = some (.float .f64 s3) ∧ w'.cell? ⟨g, j * 3, none⟩ = some (.int .i64 u1) ∧ w'.cell? ⟨g, j * 3 + 1, none⟩ = some (.int .i64 u2) ∧ w'.cell? ⟨g, j * 3 + 2, none⟩ = some (.float .f64 u3)) (first | exact ⟨q0, q1, q2, r0, r1, r2⟩ | exact six6_up (by assumption) HU1.out.up | go_keep) (first
            | (go_at_call 178; (with_reducible refine (C60.out _).mono ?_); rintro e w1 ⟨rfl, HU1⟩))
          go_wp2
          have HR0 : Hid (CI w g cap n k d k 1 d w1) := by
            have hg2 : Gr w w1 := (HG.out.trans (Gr.drewN _ 1)).trans HU1.out
            refine ⟨H.out.up hg2.up, HD.out, by omega, ?_, fun i _ _ => rfl, Kp.of_up hg2.up⟩
            have e : sameS d[k]! d[k - 1]! = true := by rw [HJ.out, HSU.out.1, HSU.out.2]; exact HSB.out
            rw [cptN, HC.out, e, if_neg (by simp; omega), List.append_nil]
          generalize w1 = W1 at *
          clear HU1 HG HC HSU HSB C60 q0 q1 q2 r0 r1 r2 HJ z1 z2 z3 z4
          obtain ⟨m2, hm2⟩ : ∃ m, n - k = m := ⟨_, rfl⟩
          rw [hm2]
          have HM2 : Hid (n - k = m2) := hm2
          have hm3 : m2 + k = n := by omega
          clear hm2
          go_loopw [5, 7] (fun vk vk2 wr => ∃ (kk k2 : Nat) (dk : Array Spt), vk = .int .i64 kk ∧ vk2 = .int .i64 k2 ∧ 1 ≤ k2 ∧ k2 ≤ m2 ∧ kk < n ∧ Hid (CI w g cap n k d kk k2 dk wr)) (fun _ vk2 _ => m2 - (intOf vk2).toNat)
          case atStart => exact ⟨k, 1, d, rfl, rfl, by omega, by omega, hlt, HR0⟩
          case round =>
            clear HR0
            obtain ⟨kk, k2, dk, rfl, rfl, hk2, hkm, hkk, HI⟩ := hrel
            rename World => wr
            by_cases hl2 : k2 < m2
            · obtain ⟨j, hj⟩ : ∃ j, k2 - 1 = j := ⟨_, rfl⟩
              have HJ : Hid (k2 - 1 = j) := hj
              obtain ⟨s, hs⟩ : ∃ s, dk[k + k2]! = s := ⟨_, rfl⟩
              obtain ⟨u, hu⟩ : ∃ u, dk[k + j]! = u := ⟨_, rfl⟩
              obtain ⟨⟨q0, q1, q2⟩, qf⟩ := HI.out.own.cell (i := k + k2) (by rw [HI.out.sz]; omega)
              obtain ⟨⟨r0, r1, r2⟩, _⟩ := HI.out.own.cell (i := k + j) (by rw [HI.out.sz]; omega)
              obtain ⟨⟨p0, p1, p2⟩, _⟩ := HI.out.own.cell (i := kk) (by rw [HI.out.sz]; omega)
              rw [hs, show (k + k2) * 3 = k * 3 + k2 * 3 by omega] at q0 q1 q2
              rw [hu, show (k + j) * 3 = k * 3 + j * 3 by omega] at r0 r1 r2
              obtain ⟨s1, s2, s3⟩ := s
              obtain ⟨u1, u2, u3⟩ := u
              have HSU : Hid (dk[k + k2]! = (s1, s2, s3) ∧ dk[k + j]! = (u1, u2, u3)) := ⟨hs, hu⟩
              simp only at q0 q1 q2 r0 r1 r2
              have z1 : (k2 : Int) < (m2 : Int) := by omega
              have z2 : (k2 : Int) - 1 = (j : Int) := by omega
              have z3 : (j : Int) < (m2 : Int) := by omega
              have z4 : IntKind.i64.wrap (j : Int) = (j : Int) := by rw [IntKind.wrap_i64]; omega
              have z5 : (kk : Int) < (n : Int) := by omega
              obtain ⟨sb, hsb⟩ : ∃ sb, sameC s1 s2 u1 u2 = sb := ⟨_, rfl⟩
              have HSB : Hid (sameC s1 s2 u1 u2 = sb) := hsb
              have C60 : Hid (∀ W, Calls Tryz.prog 178 #[.agg #[.int .i64 s1, .int .i64 s2, .float .f64 s3], .agg #[.int .i64 u1, .int .i64 u2, .float .f64 u3]] W (VU W (.bool sb))) := fun W => hsb ▸ t60 s1 s2 s3 u1 u2 u3 W
              clear hs hu hsb hj
              have f0 := qf (kk * 3)
              have f1 := qf (kk * 3 + 1)
              have f2 := qf (kk * 3 + 2)
              clear qf
              cases sb
              · have Q : Hid (∀ W, Up wr W → (W.cell? ⟨g, kk * 3, none⟩ = some (.int .i64 (dk[kk]!).1) ∧ W.cell? ⟨g, kk * 3 + 1, none⟩ = some (.int .i64 (dk[kk]!).2.1) ∧ W.cell? ⟨g, kk * 3 + 2, none⟩ = some (.float .f64 (dk[kk]!).2.2)) ∧ W.frozen? ⟨g, kk * 3, none⟩ = false ∧ W.frozen? ⟨g, kk * 3 + 1, none⟩ = false ∧ W.frozen? ⟨g, kk * 3 + 2, none⟩ = false) := fun W hu => ⟨⟨cell_up p0 hu, cell_up p1 hu, cell_up p2 hu⟩, frozen_up f0 hu (lt_of_cell p0), frozen_up f1 hu (lt_of_cell p0), frozen_up f2 hu (lt_of_cell p0)⟩
                have L6 : Hid (∀ W, Up wr W → W.cell? ⟨g, k * 3 + k2 * 3, none⟩ = some (.int .i64 s1) ∧ W.cell? ⟨g, k * 3 + k2 * 3 + 1, none⟩ = some (.int .i64 s2) ∧ W.cell? ⟨g, k * 3 + k2 * 3 + 2, none⟩ = some (.float .f64 s3)) := fun W hu => ⟨cell_up q0 hu, cell_up q1 hu, cell_up q2 hu⟩
                clear p0 p1 p2 f0 f1 f2
                go_wp2_with fail
                go_region_held3 (fun w' => w'.cell? ⟨g, k * 3 + k2 * 3, none⟩ = some (.int .i64 s1) ∧ w'.cell? ⟨g, k * 3 + k2 * 3 + 1, none⟩ = some (.int .i64 s2) ∧ w'.cell? ⟨g, k * 3 + k2 * 3 + 2, none⟩ = some (.float .f64 s3) ∧ w'.cell? ⟨g, k * 3 + j * 3, none⟩ = some (.int .i64 u1) ∧ w'.cell? ⟨g, k * 3 + j * 3 + 1, none⟩ = some (.int .i64 u2) ∧ w'.cell? ⟨g, k * 3 + j * 3 + 2, none⟩ = some (.float .f64 u3)) (first | exact ⟨q0, q1, q2, r0, r1, r2⟩ | exact six6_up (by assumption) HU1.out.up | go_keep) (first
                  | (go_at_call 178; (with_reducible refine (C60.out _).mono ?_); rintro e w1 ⟨rfl, HU1⟩))
                have hup : Up wr w1 := (Up.drewN _ 1).trans HU1.out.up
                obtain ⟨⟨p0, p1, p2⟩, f0, f1, f2⟩ := Q.out w1 hup
                obtain ⟨v0, v1, v2⟩ := L6.out w1 hup
                have HUP : Hid (Up wr w1) := hup
                clear hup q0 q1 q2 r0 r1 r2 Q L6 C60
                go_wp2
                go_roundw
                case rel => exact ⟨kk + 1, k2 + 1, dk.set! kk (s1, s2, s3), by go_num, by go_num, by omega, by omega, by have := HI.out.le; omega, HI.out.put HUP.out hk1 hk2 (by omega) hkk HSU.out.1 (by rw [show k + k2 - 1 = k + j by have := HJ.out; omega, HSU.out.2]; exact HSB.out)⟩
                case measure => simp [intOf]; omega
              · clear p0 p1 p2 f0 f1 f2
                go_wp2_with fail
                go_region_held3 (fun w' => w'.cell? ⟨g, k * 3 + k2 * 3, none⟩ = some (.int .i64 s1) ∧ w'.cell? ⟨g, k * 3 + k2 * 3 + 1, none⟩ = some (.int .i64 s2) ∧ w'.cell? ⟨g, k * 3 + k2 * 3 + 2, none⟩ = some (.float .f64 s3) ∧ w'.cell? ⟨g, k * 3 + j * 3, none⟩ = some (.int .i64 u1) ∧ w'.cell? ⟨g, k * 3 + j * 3 + 1, none⟩ = some (.int .i64 u2) ∧ w'.cell? ⟨g, k * 3 + j * 3 + 2, none⟩ = some (.float .f64 u3)) (first | exact ⟨q0, q1, q2, r0, r1, r2⟩ | exact six6_up (by assumption) HU1.out.up | go_keep) (first
                  | (go_at_call 178; (with_reducible refine (C60.out _).mono ?_); rintro e w1 ⟨rfl, HU1⟩))
                go_wp2
                go_roundw
                case rel => exact ⟨kk, k2 + 1, dk, rfl, by go_num, by omega, by omega, hkk, HI.out.skip ((Up.drewN _ 1).trans HU1.out.up) hk1 hk2 (by omega) HSU.out.1 (by rw [show k + k2 - 1 = k + j by have := HJ.out; omega, HSU.out.2]; exact HSB.out)⟩
                case measure => simp [intOf]; omega
            · obtain rfl : k2 = m2 := by omega
              have hck : ¬ cap = kk := by omega
              have hck2 : ¬ cap ≤ kk := by omega
              have hcl := fun ty => run_clear3 HI.out.own HI.out.sz hkk ty (cap - kk)
              have z5 : (kk : Int) < (n : Int) := by omega
              go_wp2
              go_ret
              refine ⟨kk, cap, rfl, ⟨?_, rfl, ?_⟩, HI.out.kp.trans (kp_setCells (by simp) _ _ _)⟩
              · have e := congrArg List.length HI.out.cpt
                rw [show k + k2 = n by omega] at e
                rw [e]
                have := HI.out.sz
                simp; omega
              · have e := HI.out.cpt
                rw [show k + k2 = n by omega] at e
                rw [e]
                exact HI.out.own.cut (by rw [HI.out.sz]; omega) _
      · obtain rfl : k = n := by omega
        go_wp2
        go_ret
        refine ⟨k, cap, rfl, ⟨?_, rfl, ?_⟩, Kp.of_up HG.out.up⟩
        · rw [HC.out]
          have := HD.out
          simp; omega
        · rw [HC.out]
          exact (H.out.up HG.out.up).take k (by rw [HD.out]; omega)
end Go.Proofs.YtflngnnoibkkoaaGreat.Pk
/- The spots that count: of each cell the first, in order. In plain words. -/
namespace Go.Proofs.YtflngnnoibkkoaaGreat.Pk
open Go.ChangeShapes Go.WideShapes Go.ChangeAt Go.RowKit Go.Fl Go.Sort Go.Shelf Go.Lib
set_option maxRecDepth 200000
set_option maxHeartbeats 8000000

/-- A spot that is the first of its cell in a list. -/
def FirstIn (L : List Spt) (s : Spt) : Prop := ∃ pre post, L = pre ++ s :: post ∧ ∀ t ∈ pre, cellK t ≠ cellK s
/-- C has the first spot of each cell of L, in order. -/
def CntOf (L C : List Spt) : Prop := C.Pairwise (fun s t => cellK s < cellK t) ∧ ∀ s, s ∈ C ↔ FirstIn L s
theorem rising_uniq {f : Spt → Nat} : ∀ {C C' : List Spt}, C.Pairwise (fun s t => f s < f t) → C'.Pairwise (fun s t => f s < f t) → (∀ s, s ∈ C ↔ s ∈ C') → C = C'
  | [], [], _, _, _ => rfl
  | [], b :: l, _, _, h => by have := (h b).2 (by simp); cases this
  | a :: l, [], _, _, h => by have := (h a).1 (by simp); cases this
  | a :: l, b :: l', h1, h2, h => by
    obtain ⟨p1, p2⟩ := List.pairwise_cons.1 h1
    obtain ⟨q1, q2⟩ := List.pairwise_cons.1 h2
    have hab : a = b := by
      have ha := (h a).1 (by simp)
      have hb := (h b).2 (by simp)
      rcases List.mem_cons.1 ha with e | e
      · exact e
      · rcases List.mem_cons.1 hb with e' | e'
        · exact e'.symm
        · have := q1 a e
          have := p1 b e'
          omega
    subst hab
    have hl : l = l' := rising_uniq p2 q2 (fun s => by
      constructor
      · intro hs
        rcases List.mem_cons.1 ((h s).1 (List.mem_cons_of_mem _ hs)) with e | e
        · subst e; have := p1 s hs; omega
        · exact e
      · intro hs
        rcases List.mem_cons.1 ((h s).2 (List.mem_cons_of_mem _ hs)) with e | e
        · subst e; have := q1 s hs; omega
        · exact e)
    rw [hl]
theorem CntOf.uniq {L C C' : List Spt} (h : CntOf L C) (h' : CntOf L C') : C = C' :=
  rising_uniq h.1 h'.1 (fun s => (h.2 s).trans (h'.2 s).symm)
/-- One more spot. -/
def insC (s : Spt) : List Spt → List Spt
  | [] => [s]
  | t :: r => if cellK s < cellK t then s :: t :: r else if cellK s = cellK t then t :: r else t :: insC s r
def cntF (L : List Spt) : List Spt := L.foldl (fun acc s => insC s acc) []
theorem insC_mem (s : Spt) : ∀ C : List Spt, C.Pairwise (fun s t => cellK s < cellK t) → ∀ u, u ∈ insC s C ↔ u ∈ C ∨ (u = s ∧ ∀ t ∈ C, cellK t ≠ cellK s)
  | [], _, u => by simp [insC]
  | t :: r, h, u => by
    obtain ⟨p1, p2⟩ := List.pairwise_cons.1 h
    unfold insC
    split
    · rename_i q
      constructor
      · intro hu
        rcases List.mem_cons.1 hu with e | e
        · refine Or.inr ⟨e, fun x hx => ?_⟩
          rcases List.mem_cons.1 hx with e' | e'
          · subst e'; omega
          · have := p1 x e'; omega
        · exact Or.inl e
      · rintro (e | ⟨e, _⟩)
        · exact List.mem_cons_of_mem _ e
        · subst e; simp
    · split
      · rename_i q1 q2
        constructor
        · exact fun hu => Or.inl hu
        · rintro (e | ⟨e, k⟩)
          · exact e
          · exact absurd q2.symm (k t (by simp))
      · rename_i q1 q2
        rw [List.mem_cons, List.mem_cons, insC_mem s r p2 u]
        constructor
        · rintro (e | e | ⟨e, k⟩)
          · exact Or.inl (Or.inl e)
          · exact Or.inl (Or.inr e)
          · refine Or.inr ⟨e, fun x hx => ?_⟩
            rcases List.mem_cons.1 hx with e' | e'
            · subst e'; exact fun c => q2 c.symm
            · exact k x e'
        · rintro ((e | e) | ⟨e, k⟩)
          · exact Or.inl e
          · exact Or.inr (Or.inl e)
          · exact Or.inr (Or.inr ⟨e, fun x hx => k x (List.mem_cons_of_mem _ hx)⟩)
theorem insC_rise (s : Spt) : ∀ C : List Spt, C.Pairwise (fun s t => cellK s < cellK t) → (insC s C).Pairwise (fun s t => cellK s < cellK t)
  | [], _ => by simp [insC]
  | t :: r, h => by
    obtain ⟨p1, p2⟩ := List.pairwise_cons.1 h
    unfold insC
    split
    · rename_i q
      refine List.pairwise_cons.2 ⟨fun x hx => ?_, h⟩
      rcases List.mem_cons.1 hx with e | e
      · subst e; exact q
      · have := p1 x e; omega
    · split
      · exact h
      · rename_i q1 q2
        refine List.pairwise_cons.2 ⟨fun x hx => ?_, insC_rise s r p2⟩
        rcases (insC_mem s r p2 x).1 hx with e | ⟨e, _⟩
        · exact p1 x e
        · subst e; omega
theorem firstIn_snoc {L : List Spt} {s u : Spt} : FirstIn (L ++ [s]) u ↔ FirstIn L u ∨ (u = s ∧ ∀ t ∈ L, cellK t ≠ cellK s) := by
  constructor
  · rintro ⟨pre, post, e, h⟩
    rcases List.eq_nil_or_concat post with rfl | ⟨post', x, rfl⟩
    · have := List.append_inj' e rfl
      obtain ⟨rfl, e2⟩ := this
      simp only [List.cons.injEq, and_true] at e2
      subst e2
      exact Or.inr ⟨rfl, h⟩
    · have e' : L ++ [s] = (pre ++ u :: post') ++ [x] := by rw [e]; simp
      have := List.append_inj' e' rfl
      exact Or.inl ⟨pre, post', this.1, h⟩
  · rintro (⟨pre, post, e, h⟩ | ⟨rfl, h⟩)
    · exact ⟨pre, post ++ [s], by rw [e]; simp, h⟩
    · exact ⟨L, [], rfl, h⟩
theorem first_of_mem : ∀ {L : List Spt} {t : Spt}, t ∈ L → ∃ u, FirstIn L u ∧ cellK u = cellK t
  | a :: l, t, h => by
    by_cases q : cellK a = cellK t
    · exact ⟨a, ⟨[], l, rfl, fun x hx => by cases hx⟩, q⟩
    · rcases List.mem_cons.1 h with e | e
      · subst e; exact absurd rfl q
      · obtain ⟨u, ⟨pre, post, e1, e2⟩, e3⟩ := first_of_mem e
        refine ⟨u, ⟨a :: pre, post, by rw [e1]; rfl, fun x hx => ?_⟩, e3⟩
        rcases List.mem_cons.1 hx with e' | e'
        · subst e'; rw [e3]; exact q
        · exact e2 x e'
theorem FirstIn.mem {L : List Spt} {s : Spt} (h : FirstIn L s) : s ∈ L := by
  obtain ⟨pre, post, e, _⟩ := h
  rw [e]; simp
theorem CntOf.snoc {L C : List Spt} (h : CntOf L C) (s : Spt) : CntOf (L ++ [s]) (insC s C) := by
  refine ⟨insC_rise s C h.1, fun u => ?_⟩
  rw [insC_mem s C h.1 u, firstIn_snoc, h.2 u]
  constructor
  · rintro (e | ⟨e, k⟩)
    · exact Or.inl e
    · refine Or.inr ⟨e, fun t ht => ?_⟩
      obtain ⟨v, hv, e2⟩ := first_of_mem ht
      rw [← e2]
      exact k v ((h.2 v).2 hv)
  · rintro (e | ⟨e, k⟩)
    · exact Or.inl e
    · exact Or.inr ⟨e, fun t ht => k t ((h.2 t).1 ht).mem⟩
theorem cnt_all : ∀ (M L C : List Spt), CntOf L C → CntOf (L ++ M) (M.foldl (fun acc s => insC s acc) C)
  | [], L, C, h => by rw [List.append_nil]; exact h
  | s :: M, L, C, h => by
    have := cnt_all M (L ++ [s]) (insC s C) (h.snoc s)
    rw [List.append_assoc] at this
    exact this
theorem cntF_of (L : List Spt) : CntOf L (cntF L) := cnt_all L [] [] ⟨List.Pairwise.nil, fun s => by
  constructor
  · intro h; cases h
  · rintro ⟨pre, post, e, _⟩
    cases pre <;> cases e⟩
/-- What is kept of a row, by places. -/
theorem cpt_mem {d : Array Spt} {n : Nat} {s : Spt} : s ∈ cptN d n ↔ ∃ i, i < n ∧ d[i]! = s ∧ (i = 0 ∨ sameS d[i]! d[i - 1]! = false) := by
  induction n with
  | zero => simp [cptN]
  | succ n ih =>
    rw [cptN, List.mem_append, ih]
    constructor
    · rintro (⟨i, h1, h2, h3⟩ | h)
      · exact ⟨i, by omega, h2, h3⟩
      · by_cases q : n = 0 ∨ sameS d[n]! d[n - 1]! = false
        · rw [if_pos q] at h
          simp at h
          exact ⟨n, by omega, h.symm, q⟩
        · rw [if_neg q] at h; cases h
    · rintro ⟨i, h1, h2, h3⟩
      rcases Nat.lt_or_ge i n with q | q
      · exact Or.inl ⟨i, q, h2, h3⟩
      · obtain rfl : i = n := by omega
        right
        rw [if_pos h3, h2]; simp
/-- Cells that do not fall, of a row in order. -/
theorem cpt_rise {d : Array Spt} {n : Nat} (hm : ∀ i j, i < j → j < n → cellK d[i]! ≤ cellK d[j]!) (hs : ∀ i j, i < n → j < n → (sameS d[i]! d[j]! = true ↔ cellK d[i]! = cellK d[j]!)) : (cptN d n).Pairwise (fun s t => cellK s < cellK t) := by
  induction n with
  | zero => exact List.Pairwise.nil
  | succ n ih =>
    have ih := ih (fun i j h1 h2 => hm i j h1 (by omega)) (fun i j h1 h2 => hs i j (by omega) (by omega))
    rw [cptN]
    by_cases q : n = 0 ∨ sameS d[n]! d[n - 1]! = false
    · rw [if_pos q]
      refine List.pairwise_append.2 ⟨ih, by simp, fun a ha b hb => ?_⟩
      simp at hb
      subst hb
      obtain ⟨i, h1, h2, _⟩ := cpt_mem.1 ha
      rcases q with q | q
      · omega
      · have e1 : ¬ cellK d[n]! = cellK d[n - 1]! := fun e => by
          rw [(hs n (n - 1) (by omega) (by omega)).2 e] at q; cases q
        have e2 := hm (n - 1) n (by omega) (by omega)
        rw [← h2]
        rcases Nat.lt_or_ge i (n - 1) with r | r
        · have := hm i (n - 1) r (by omega); omega
        · obtain rfl : i = n - 1 := by omega
          omega
    · rw [if_neg q, List.append_nil]; exact ih
theorem sameS_iff {s t : Spt} (hs : Wf s) (ht : Wf t) : sameS s t = true ↔ cellK s = cellK t := by
  obtain ⟨⟨a1, a2⟩, a3, a4⟩ := hs
  obtain ⟨⟨b1, b2⟩, b3, b4⟩ := ht
  unfold sameS sameC cellK
  simp only [Bool.and_eq_true, decide_eq_true_eq]
  omega
theorem key_lt {x y : El} (hx : x.2 < 18446744073709551616) (hy : y.2 < 18446744073709551616) (h : keyE x ≤ keyE y) : cellK x.1 < cellK y.1 ∨ (cellK x.1 = cellK y.1 ∧ x.2 ≤ y.2) := by
  unfold keyE at h; omega
theorem first_ix {d : Array Spt} {s : Spt} : FirstIn d.toList s ↔ ∃ p, p < d.size ∧ d[p]! = s ∧ ∀ q, q < p → cellK d[q]! ≠ cellK s := by
  constructor
  · rintro ⟨pre, post, e, h⟩
    have hl : d.size = pre.length + (post.length + 1) := by rw [← Array.length_toList, e]; simp
    have hg : ∀ k, k < d.size → d[k]! = (pre ++ s :: post)[k]! := fun k hk => by
      rw [getElem!_pos d k hk, ← Array.getElem_toList hk]
      rw [getElem!_pos _ k (by rw [← e]; simpa using hk)]
      simp only [e]
    refine ⟨pre.length, by omega, by rw [hg _ (by omega)]; simp, fun q hq => ?_⟩
    rw [hg q (by omega), getElem!_pos _ q (by simp; omega), List.getElem_append_left hq]
    exact h _ (List.getElem_mem _)
  · rintro ⟨p, hp, rfl, h⟩
    refine ⟨d.toList.take p, d.toList.drop (p + 1), ?_, fun t ht => ?_⟩
    · rw [getElem!_pos d p hp, ← Array.getElem_toList hp, ← List.drop_eq_getElem_cons (by simpa using hp), List.take_append_drop]
    · obtain ⟨q, hq, e⟩ := List.mem_iff_getElem.1 ht
      have hq' : q < p := by simp at hq; omega
      have := h q hq'
      rw [getElem!_pos d q (by omega)] at this
      rw [← e]
      simpa using this
/-- Sorted, and but the first of each cell kept: the spots that count. -/
theorem cnt_sorted {d : Array Spt} {d' : Array El} {n : Nat} (hd : d.size = n) (hW : ∀ i, i < n → Wf d[i]!) (hn : n < 18446744073709551616) (hP : PermIn 0 n (withIx d) d') (hS : SortedIn ltE 0 n d') : CntOf d.toList (cptN (d'.map (·.1)) n) := by
  have hsz : d'.size = n := by rw [hP.1, withIx_size, hd]
  have hmem : ∀ i, i < n → ∃ p, p < n ∧ d'[i]! = (d[p]!, p) := fun i hi => by
    refine permIn_all (withIx d) d' 0 n (fun z => ∃ p, p < n ∧ z = (d[p]!, p)) (by rw [withIx_size]; omega) hP (fun j _ hj => ⟨j, hj, withIx_get (by omega)⟩) i (Nat.zero_le _) hi
  have hall : ∀ p, p < n → ∃ i, i < n ∧ d'[i]! = (d[p]!, p) := fun p hp => by
    have hx : (d[p]!, p) ∈ (withIx d).toList := by
      rw [← withIx_get (by omega), getElem!_pos _ p (by rw [withIx_size]; omega)]; simp
    have hp2 : (d'.extract 0 n).toList.Perm ((withIx d).extract 0 n).toList := hP.2.2
    have e1 : (d'.extract 0 n) = d' := by rw [← hsz]; simp
    have e2 : ((withIx d).extract 0 n) = withIx d := by rw [← hd, ← withIx_size]; simp
    rw [e1, e2] at hp2
    have := hp2.mem_iff.2 hx
    obtain ⟨i, hi, e⟩ := List.mem_iff_getElem.1 this
    have hi' : i < n := by simpa [hsz] using hi
    exact ⟨i, hi', by rw [getElem!_pos d' i (by omega)]; simpa using e⟩
  have hget : ∀ i, i < n → (d'.map (·.1))[i]! = (d'[i]!).1 := fun i hi => by
    rw [getElem!_pos _ i (by simp; omega), getElem!_pos d' i (by omega)]; simp
  have hkey : ∀ i j, i < j → j < n → keyE d'[i]! ≤ keyE d'[j]! := fun i j h1 h2 => ltE_false.1 (hS i j (Nat.zero_le _) h1 h2)
  have hmono : ∀ i j, i < j → j < n → cellK (d'[i]!).1 < cellK (d'[j]!).1 ∨ (cellK (d'[i]!).1 = cellK (d'[j]!).1 ∧ (d'[i]!).2 ≤ (d'[j]!).2) := fun i j h1 h2 => by
    obtain ⟨p, p1, p2⟩ := hmem i (by omega)
    obtain ⟨q, q1, q2⟩ := hmem j h2
    exact key_lt (by rw [p2]; show p < _; omega) (by rw [q2]; show q < _; omega) (hkey i j h1 h2)
  have hWf : ∀ i, i < n → Wf (d'[i]!).1 := fun i hi => by
    obtain ⟨p, p1, p2⟩ := hmem i hi
    rw [p2]; exact hW p p1
  have hsame : ∀ i j, i < n → j < n → (sameS (d'.map (·.1))[i]! (d'.map (·.1))[j]! = true ↔ cellK (d'.map (·.1))[i]! = cellK (d'.map (·.1))[j]!) := fun i j hi hj => by
    rw [hget i hi, hget j hj]; exact sameS_iff (hWf i hi) (hWf j hj)
  refine ⟨cpt_rise (fun i j h1 h2 => by rw [hget i (by omega), hget j h2]; have := hmono i j h1 h2; omega) hsame, fun s => ?_⟩
  rw [cpt_mem]
  have hnd : d'.toList.Nodup := by
    have hp2 : (d'.extract 0 n).toList.Perm ((withIx d).extract 0 n).toList := hP.2.2
    have e1 : (d'.extract 0 n) = d' := by rw [← hsz]; simp
    have e2 : ((withIx d).extract 0 n) = withIx d := by rw [← hd, ← withIx_size]; simp
    rw [e1, e2] at hp2
    refine hp2.nodup_iff.2 ?_
    rw [List.nodup_iff_pairwise_ne, List.pairwise_iff_getElem]
    intro a b ha hb hab
    have ha' : a < d.size := by simpa [withIx_size] using ha
    have hb' : b < d.size := by simpa [withIx_size] using hb
    intro e
    simp [withIx] at e
    omega
  rw [first_ix]
  constructor
  · rintro ⟨i, hi, rfl, h⟩
    obtain ⟨p, p1, p2⟩ := hmem i hi
    refine ⟨p, by omega, by rw [hget i hi, p2], fun q hq e => ?_⟩
    obtain ⟨j, j1, j2⟩ := hall q (by omega)
    have e' : cellK (d'[j]!).1 = cellK (d'[i]!).1 := by rw [j2]; rw [hget i hi] at e; exact e
    rcases Nat.lt_trichotomy j i with r | r | r
    · rcases h with h | h
      · omega
      · have e3 : ¬ cellK (d'.map (·.1))[i]! = cellK (d'.map (·.1))[i - 1]! := fun c => by
          rw [(hsame i (i - 1) hi (by omega)).2 c] at h; cases h
        rw [hget i hi, hget (i - 1) (by omega)] at e3
        have m1 := hmono (i - 1) i (by omega) hi
        rcases Nat.lt_or_ge j (i - 1) with s | s
        · have m2 := hmono j (i - 1) s (by omega); omega
        · obtain rfl : j = i - 1 := by omega
          omega
    · subst r
      rw [j2] at p2
      simp only [Prod.mk.injEq] at p2
      omega
    · have m1 := hmono i j r j1
      rw [j2, p2] at m1 e'
      simp only at m1 e'
      omega
  · rintro ⟨p, p1, rfl, h⟩
    obtain ⟨i, i1, i2⟩ := hall p (by omega)
    refine ⟨i, i1, by rw [hget i i1, i2], ?_⟩
    rcases Nat.eq_zero_or_pos i with r | r
    · exact Or.inl r
    · right
      rw [Bool.eq_false_iff]
      intro c
      have c2 := (hsame i (i - 1) i1 (by omega)).1 c
      rw [hget i i1, hget (i - 1) (by omega)] at c2
      obtain ⟨q, q1, q2⟩ := hmem (i - 1) (by omega)
      have m1 := hmono (i - 1) i (by omega) i1
      rw [q2, i2] at m1 c2
      simp only at m1 c2
      rcases Nat.lt_or_ge q p with s | s
      · exact h q s c2.symm
      · obtain rfl : q = p := by omega
        have hne := (List.nodup_iff_pairwise_ne.1 hnd)
        rw [List.pairwise_iff_getElem] at hne
        have := hne (i - 1) i (by simp; omega) (by simp; omega) (by omega)
        rw [getElem!_pos d' i (by omega)] at i2
        rw [getElem!_pos d' (i - 1) (by omega)] at q2
        simp only [Array.getElem_toList] at this
        exact this (q2.trans i2.symm)
end Go.Proofs.YtflngnnoibkkoaaGreat.Pk
