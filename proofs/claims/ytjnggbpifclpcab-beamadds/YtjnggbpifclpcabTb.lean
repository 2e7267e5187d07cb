/- Lists and tables that can be read; rows of one's own, by their numbers. -/
import Derived.Test.YtjnggbpifclpcabTa
namespace Go.Proofs.Ytjnggbpifclpcab
open Go.ChangeShapes Go.WideShapes Go.ChangeAt Go.RowKit Go.Fl Ieee
attribute [local go_sem] run_store_float run_store_complex call20 call19 run_neg fold_eq fold_ne fold_lt fold_gt abs_eq

abbrev CN := C2
/-- Does F hold of all numbers below n? -/
def allN (F : Nat → Bool) : Nat → Bool
  | 0 => true
  | k + 1 => allN F k && F k
theorem allN_false {F : Nat → Bool} {i : Nat} (hi : F i = false) : ∀ n, i < n → allN F n = false
  | 0, h => by omega
  | n + 1, h => by
    unfold allN
    by_cases e : i = n
    · subst e; rw [hi, Bool.and_false]
    · rw [allN_false hi n (by omega), Bool.false_and]
theorem allN_iff {F : Nat → Bool} : ∀ n, allN F n = true ↔ ∀ i, i < n → F i = true
  | 0 => ⟨fun _ i h => by omega, fun _ => rfl⟩
  | n + 1 => by
    unfold allN
    rw [Bool.and_eq_true, allN_iff n]
    exact ⟨fun ⟨h1, h2⟩ i hi => by by_cases e : i = n; (subst e; exact h2); exact h1 i (by omega), fun h => ⟨fun i hi => h i (by omega), h n (by omega)⟩⟩
/-- A list that can be read; a table that can be. -/
def RowV (w : World) (q : Option Addr) (n : Nat) (f : Nat → Nat × Nat) : Prop := 0 < n → ∃ g k, q = some ⟨g, k, none⟩ ∧ RD w g k n f
def TR (w : World) (p : Option Addr) (n : Nat) (L : Nat → Nat) (f : Nat → Nat → Nat × Nat) : Prop := 0 < n → ∃ b o, p = some ⟨b, o, none⟩ ∧ ∀ i, i < n → ∃ q c, w.cell? ⟨b, o + i, none⟩ = some (.slice q (L i) c) ∧ L i ≤ c ∧ RowV w q (L i) (f i)
theorem RowV.up {w w' : World} {q : Option Addr} {n : Nat} {f : Nat → Nat × Nat} (h : RowV w q n f) (hu : Up w w') : RowV w' q n f := fun hn => by
  obtain ⟨g, k, e, hr⟩ := h hn
  exact ⟨g, k, e, hr.up hu⟩
theorem TR.up {w w' : World} {p : Option Addr} {n : Nat} {L : Nat → Nat} {f : Nat → Nat → Nat × Nat} (h : TR w p n L f) (hu : Up w w') : TR w' p n L f := fun hn => by
  obtain ⟨b, o, e, hr⟩ := h hn
  refine ⟨b, o, e, fun i hi => ?_⟩
  obtain ⟨q, c, h1, h2, h3⟩ := hr i hi
  exact ⟨q, c, cell_up h1 hu, h2, h3.up hu⟩
structure XR (b : Nat) (w : World) (g n : Nat) (x : Nat → CN) : Prop where
  row : ∃ d, CRow b w (.slice (some ⟨g, 0, none⟩) n n) d ∧ ∀ j, j < n → ab2 d[j]! = x j
  lo : b ≤ g
theorem XR.up {b : Nat} {w w' : World} {g n : Nat} {x : Nat → CN} (h : XR b w g n x) (hu : Up w w') : XR b w' g n x := by
  obtain ⟨d, hd, hx⟩ := h.row
  exact ⟨⟨d, hd.up hu, hx⟩, h.lo⟩
theorem XR.cell {b : Nat} {w : World} {g n : Nat} {x : Nat → CN} (h : XR b w g n x) {j : Nat} (hj : j < n) : ∃ p q, w.cell? ⟨g, j, none⟩ = some (.complex .f64 p q) ∧ (ab p, ab q) = x j ∧ w.frozen? ⟨g, j, none⟩ = false := by
  obtain ⟨d, hd, hx⟩ := h.row
  have := hd.len
  exact ⟨_, _, hd.cell (by omega), hx j hj, hd.frz _⟩
theorem XR.put {b : Nat} {w : World} {g n : Nat} {x : Nat → CN} (h : XR b w g n x) {i : Nat} (hi : i < n) (r s : Nat) : XR b (w.setCell ⟨g, i, none⟩ (.complex .f64 r s)) g n (fun a => if a = i then (ab r, ab s) else x a) ∧ But g w (w.setCell ⟨g, i, none⟩ (.complex .f64 r s)) := by
  obtain ⟨d, hd, hx⟩ := h.row
  have hl := hd.len
  obtain ⟨k1, k2⟩ := hd.put i r s
  refine ⟨⟨⟨_, k1, fun j hj => ?_⟩, h.lo⟩, k2⟩
  rw [set_at d _ _ _ (by omega)]
  show ab2 (if j = i then (r, s) else d[j]!) = if j = i then (ab r, ab s) else x j
  by_cases e : j = i
  · rw [if_pos e, if_pos e]; rfl
  · rw [if_neg e, if_neg e]; exact hx j hj
theorem XR.made {w w' : World} {g n : Nat} (h : Made n g w w') : XR w.heap.size w' g n (fun _ => (ab 0, ab 0)) := by
  obtain ⟨h1, h2, h3⟩ := h
  refine ⟨⟨_, h2.down (by omega), fun j hj => ?_⟩, by omega⟩
  rw [getElem!_pos _ j (by simpa using hj)]
  simp [ab2]
def XlR (n : Nat) (x : Nat → CN) (w : World) (e : Ending) (w' : World) : Prop := ∃ g, e = .returned (.slice (some ⟨g, 0, none⟩) n n) ∧ Hid (XR w.heap.size w' g n x) ∧ Hid (Up w w')
theorem XR.down {b b' : Nat} {w : World} {g n : Nat} {x : Nat → CN} (h : XR b w g n x) (hb : b' ≤ b) : XR b' w g n x := by
  obtain ⟨d, hd, hx⟩ := h.row
  exact ⟨⟨d, hd.down hb, hx⟩, Nat.le_trans hb h.lo⟩
theorem XR.rd {b : Nat} {w : World} {g n : Nat} {x : Nat → CN} (h : XR b w g n x) : ∃ f : Nat → Nat × Nat, RD w g 0 n f ∧ ∀ j, j < n → ab2 (f j) = x j := by
  obtain ⟨d, hd, hx⟩ := h.row
  have hl := hd.len
  exact ⟨fun j => d[j]!, fun j hj => by rw [Nat.zero_add]; exact hd.cell (by omega), hx⟩
theorem XR.ext {b : Nat} {w : World} {g n : Nat} {x y : Nat → CN} (h : XR b w g n x) (he : ∀ j, j < n → x j = y j) : XR b w g n y := by
  obtain ⟨d, hd, hx⟩ := h.row
  exact ⟨⟨d, hd, fun j hj => (hx j hj).trans (he j hj)⟩, h.lo⟩
theorem XR.far {b : Nat} {w w' : World} {g g' n : Nat} {x : Nat → CN} (h : XR b w g n x) (hb : But g' w w') (hne : g ≠ g') : XR b w' g n x := by
  obtain ⟨d, hd, hx⟩ := h.row
  exact ⟨⟨d, hd.far hb hne, hx⟩, h.lo⟩
theorem XR.lt {b : Nat} {w : World} {g n : Nat} {x : Nat → CN} (h : XR b w g n x) : g < w.heap.size := by
  obtain ⟨d, hd, hx⟩ := h.row
  exact (World.ownsRow.lt hd _ rfl).2
def smC (z : Nat → CN) (c : Nat) : CN := (sumN (fun j => (z j).1) c, sumN (fun j => (z j).2) c)
theorem sumN_congr {F G : Nat → Option Nat} : ∀ n, (∀ i, i < n → F i = G i) → sumN F n = sumN G n
  | 0, _ => rfl
  | 1, h => h 0 (by omega)
  | n + 2, h => by rw [sumN_step, sumN_step, sumN_congr (n + 1) fun i hi => h i (by omega), h (n + 1) (by omega)]
/-- Two rows of one's own. -/
structure X2 (w wr : World) (A B n c : Nat) (y z : Nat → CN) : Prop where
  a : XR w.heap.size wr A n y
  b : XR w.heap.size wr B c z
  ne : A ≠ B
  up : Up w wr
theorem X2.mono {w wr w' : World} {A B n c : Nat} {y z : Nat → CN} (h : X2 w wr A B n c y z) (hu : Up wr w') : X2 w w' A B n c y z := ⟨h.a.up hu, h.b.up hu, h.ne, h.up.trans hu⟩
theorem X2.putA {w wr : World} {A B n c : Nat} {y z : Nat → CN} (h : X2 w wr A B n c y z) {i : Nat} (hi : i < n) (r s : Nat) : X2 w (wr.setCell ⟨A, i, none⟩ (.complex .f64 r s)) A B n c (fun a => if a = i then (ab r, ab s) else y a) z := by
  obtain ⟨h1, h2⟩ := h.a.put hi r s
  exact ⟨h1, h.b.far h2 (Ne.symm h.ne), h.ne, h2.up h.up h.a.lo⟩
theorem X2.putB {w wr : World} {A B n c : Nat} {y z : Nat → CN} (h : X2 w wr A B n c y z) {i : Nat} (hi : i < c) (r s : Nat) : X2 w (wr.setCell ⟨B, i, none⟩ (.complex .f64 r s)) A B n c y (fun a => if a = i then (ab r, ab s) else z a) := by
  obtain ⟨h1, h2⟩ := h.b.put hi r s
  exact ⟨h.a.far h2 h.ne, h1, h.ne, h2.up h.up h.b.lo⟩
theorem X2.start {w w1 w2 : World} {A B n c k : Nat} (hA : Made n A (w.drewN k) w1) (hB : Made c B w1 w2) : X2 w w2 A B n c (fun _ => (ab 0, ab 0)) (fun _ => (ab 0, ab 0)) := by
  have a := XR.made hA
  have b := XR.made hB
  have s := RowKit.Below.size (show Up (w.drewN k) w1 from hA.2.2)
  exact ⟨(a.up hB.2.2).down (Nat.le_refl _), b.down s, by have := a.lt; have := hB.1; omega, ((Up.drewN w k).trans hA.2.2).trans hB.2.2⟩
theorem X2.start' {w w1 w2 : World} {A B n c k : Nat} (hB : Made c B (w.drewN k) w1) (hA : Made n A w1 w2) : X2 w w2 A B n c (fun _ => (ab 0, ab 0)) (fun _ => (ab 0, ab 0)) := by
  have h := X2.start hB hA
  exact ⟨h.b, h.a, Ne.symm h.ne, h.up⟩
theorem sz1 (w : World) (o : Obj) : (w.alloc o).heap.size = w.heap.size + 1 := by simp
theorem rowNew (w : World) {cs : Array Value} {k : Nat} {f : Nat → Nat × Nat} (h : ∀ j, j < k → cs[j]? = some (ce (f j))) : RowV (w.alloc (.cells cs 26)) (some ⟨w.heap.size, 0, none⟩) k f := fun _ => ⟨_, 0, rfl, fun j hj => by rw [Nat.zero_add, World.cell?_alloc_at _ _ _ _ rfl]; exact h j hj⟩
theorem trNew1 (w : World) {q0 : Option Addr} {m : Nat} {f0 : Nat → Nat × Nat} (h0 : RowV w q0 m f0) : TR (w.alloc (.cells #[.slice q0 m m] 25)) (some ⟨w.heap.size, 0, none⟩) 1 (fun _ => m) (fun _ => f0) := fun _ => ⟨_, 0, rfl, fun i hi => by
  obtain rfl : i = 0 := by omega
  exact ⟨q0, m, World.cell?_alloc_at _ _ _ _ rfl, Nat.le_refl _, h0.up (Up.alloc _ _)⟩⟩
theorem trNew2 (w : World) {q0 q1 : Option Addr} {m : Nat} {f0 f1 : Nat → Nat × Nat} (h0 : RowV w q0 m f0) (h1 : RowV w q1 m f1) : TR (w.alloc (.cells #[.slice q0 m m, .slice q1 m m] 25)) (some ⟨w.heap.size, 0, none⟩) 2 (fun _ => m) (fun i => if i = 0 then f0 else f1) := fun _ => ⟨_, 0, rfl, fun i hi => by
  have : i = 0 ∨ i = 1 := by omega
  rcases this with rfl | rfl
  · exact ⟨q0, m, World.cell?_alloc_at _ _ _ _ rfl, Nat.le_refl _, h0.up (Up.alloc _ _)⟩
  · exact ⟨q1, m, World.cell?_alloc_at _ _ _ _ rfl, Nat.le_refl _, h1.up (Up.alloc _ _)⟩⟩
theorem TR.nil (w : World) (p : Option Addr) (L : Nat → Nat) (f : Nat → Nat → Nat × Nat) : TR w p 0 L f := fun h => by omega
theorem RowV.nil (w : World) (p : Option Addr) (f : Nat → Nat × Nat) : RowV w p 0 f := fun h => by omega
theorem ab_is {s r : Nat} (h : ab s = some r) : s = r := by
  unfold ab at h
  split at h
  · cases h
  · simpa using h
theorem XR.known {b : Nat} {w : World} {g n : Nat} {x : Nat → CN} (h : XR b w g n x) {j : Nat} (hj : j < n) {p q : Nat} (hx : x j = (some p, some q)) : w.cell? ⟨g, j, none⟩ = some (.complex .f64 p q) := by
  obtain ⟨r, s, c, e, -⟩ := h.cell hj
  rw [hx] at e
  simp only [Prod.mk.injEq] at e
  rw [c, ab_is e.1, ab_is e.2]
end Go.Proofs.Ytjnggbpifclpcab
