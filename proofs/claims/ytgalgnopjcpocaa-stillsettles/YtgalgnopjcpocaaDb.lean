/- Rows in memory of their own: copied. -/
import Derived.Test.YtgalgnopjcpocaaDa
import Derived.Laws.IdiomCopy
namespace Go.Proofs.Ytgalgnopjcpocaa
open Go.ChangeShapes Go.WideShapes Go.ChangeAt Go.RowKit Go.Fl Ieee
attribute [local go_sem] run_store_float run_store_c isSome_set call20 call33 run_neg fold_eq fold_ne fold_lt fold_gt abs_eq

/-- A table of rows that stand each in memory of its own, behind b: the rows' values at A. -/
structure RT (b : Nat) (w : World) (A N m : Nat) (B : Nat → Nat) (D : Nat → List (Nat × Nat)) : Prop where
  hdr : ∀ a, a < N → w.cell? ⟨A, a, none⟩ = some (.slice (some ⟨B a, 0, none⟩) m m)
  row : ∀ a, a < N → CRow b w (.slice (some ⟨B a, 0, none⟩) m m) (D a)
  inj : ∀ i j, i < N → j < N → B i = B j → i = j
  neA : ∀ a, a < N → B a ≠ A
  loA : b ≤ A
theorem RT.up {b : Nat} {w w' : World} {A N m : Nat} {B : Nat → Nat} {D : Nat → List (Nat × Nat)} (h : RT b w A N m B D) (hu : Up w w') : RT b w' A N m B D :=
  ⟨fun a ha => cell_up (h.hdr a ha) hu, fun a ha => (h.row a ha).up hu, h.inj, h.neA, h.loA⟩
theorem RT.len {b : Nat} {w : World} {A N m : Nat} {B : Nat → Nat} {D : Nat → List (Nat × Nat)} (h : RT b w A N m B D) {a : Nat} (ha : a < N) : (D a).length = m := (h.row a ha).len
theorem RT.cell {b : Nat} {w : World} {A N m : Nat} {B : Nat → Nat} {D : Nat → List (Nat × Nat)} (h : RT b w A N m B D) {a g : Nat} (ha : a < N) (hg : g < m) : w.cell? ⟨B a, g, none⟩ = some (.complex .f64 (D a)[g]!.1 (D a)[g]!.2) := (h.row a ha).cell (by rw [h.len ha]; exact hg)
theorem RT.lo {b : Nat} {w : World} {A N m : Nat} {B : Nat → Nat} {D : Nat → List (Nat × Nat)} (h : RT b w A N m B D) {a : Nat} (ha : a < N) : b ≤ B a ∧ B a < w.heap.size := World.ownsRow.lt (h.row a ha) _ rfl
/-- One number is laid. -/
theorem RT.put {b : Nat} {w : World} {A N m : Nat} {B : Nat → Nat} {D : Nat → List (Nat × Nat)} (h : RT b w A N m B D) {a : Nat} (ha : a < N) (g x y : Nat) : RT b (w.setCell ⟨B a, g, none⟩ (.complex .f64 x y)) A N m B (fun i => if i = a then (D a).set g (x, y) else D i) ∧ But (B a) w (w.setCell ⟨B a, g, none⟩ (.complex .f64 x y)) := by
  obtain ⟨s1, s2⟩ := (h.row a ha).put g x y
  refine ⟨⟨fun i hi => s2.cell (fun e => h.neA a ha e.symm) (h.hdr i hi), fun i hi => ?_, h.inj, h.neA, h.loA⟩, s2⟩
  by_cases e : i = a
  · subst e; simp only [if_true]; exact s1
  · simp only [if_neg e]
    exact (h.row i hi).far s2 (fun q => e (h.inj i a hi ha q))
/-- The first k rows are copied. -/
structure CP (w wr : World) (A N m k : Nat) (B : Nat → Nat) (D : Nat → List (Nat × Nat)) : Prop where
  hd : ∃ l, l.length = N ∧ wr.ownsRow w.heap.size 54 1 (.slice (some ⟨A, 0, none⟩) N N) N l ∧ ∀ i, i < k → l[i]? = some (.slice (some ⟨B i, 0, none⟩) m m)
  row : ∀ a, a < k → CRow w.heap.size wr (.slice (some ⟨B a, 0, none⟩) m m) (D a)
  inj : ∀ i j, i < k → j < k → B i = B j → i = j
  neA : ∀ a, a < k → B a ≠ A
  up : Up w wr
theorem CP.cell {w wr : World} {A N m k : Nat} {B : Nat → Nat} {D : Nat → List (Nat × Nat)} (h : CP w wr A N m k B D) (i : Nat) (hi : i < N) : ∃ v, wr.cell? ⟨A, i, none⟩ = some v ∧ wr.frozen? ⟨A, i, none⟩ = false := by
  obtain ⟨l, hl, h1, h2⟩ := h.hd
  exact ⟨l[i]'(by omega), by rw [World.ownsRow.cellAt h1 i (by omega), List.getElem?_eq_getElem (by omega)], World.ownsRow.frozenAt h1 i⟩
theorem CP.lo {w wr : World} {A N m k : Nat} {B : Nat → Nat} {D : Nat → List (Nat × Nat)} (h : CP w wr A N m k B D) : w.heap.size ≤ A ∧ A < wr.heap.size := by
  obtain ⟨l, hl, h1, h2⟩ := h.hd
  exact World.ownsRow.lt h1 A rfl
theorem CP.next {w wr w1 w2 : World} {A N m k g : Nat} {B : Nat → Nat} {D : Nat → List (Nat × Nat)} {d : List (Nat × Nat)} (h : CP w wr A N m k B D) (hk : k < N) (hu : Up wr w1) (hg : wr.heap.size ≤ g)
    (h2 : But g (w1.setCell ⟨A, k, none⟩ (.slice (some ⟨g, 0, none⟩) m m)) w2) (hd : CRow wr.heap.size w2 (.slice (some ⟨g, 0, none⟩) m m) d) :
    CP w w2 A N m (k + 1) (fun i => if i < k then B i else g) (fun i => if i < k then D i else d) := by
  obtain ⟨l, hl, e1, e2⟩ := h.hd
  have hA := h.lo
  obtain ⟨s1, s2⟩ := World.ownsRow.stored (owns_up e1 hu) k (.slice (some ⟨g, 0, none⟩) m m)
  have hgA : A ≠ g := by omega
  have hlt : ∀ i, i < k → B i < wr.heap.size := fun i hi => (World.ownsRow.lt (h.row i hi) _ rfl).2
  refine ⟨⟨_, by simpa using hl, owns_far s1 h2 hgA, fun i hi => ?_⟩, fun a ha => ?_, fun i j hi hj e => ?_, fun a ha => ?_, ?_⟩
  · rw [List.getElem?_set]
    by_cases e : k = i
    · subst e; rw [if_pos rfl, if_pos (by omega), if_neg (Nat.lt_irrefl _)]
    · rw [if_neg e, if_pos (by omega)]; exact e2 i (by omega)
  · by_cases e : a < k
    · simp only [if_pos e]
      have := hlt a e
      exact (((h.row a e).up hu).far s2 (h.neA a e)).far h2 (by omega)
    · simp only [if_neg e]
      exact hd.down h.up.size
  · by_cases e1 : i < k <;> by_cases e3 : j < k
    · simp only [if_pos e1, if_pos e3] at e; exact h.inj i j e1 e3 e
    · simp only [if_pos e1, if_neg e3] at e; have := hlt i e1; omega
    · simp only [if_neg e1, if_pos e3] at e; have := hlt j e3; omega
    · omega
  · by_cases e : a < k
    · simp only [if_pos e]; exact h.neA a e
    · simp only [if_neg e]; exact Ne.symm hgA
  · exact h2.up (But.up s2 (h.up.trans hu) hA.1) (Nat.le_trans h.up.size hg)
theorem CP.done {w wr : World} {A N m : Nat} {B : Nat → Nat} {D : Nat → List (Nat × Nat)} (h : CP w wr A N m N B D) : RT w.heap.size wr A N m B D := by
  obtain ⟨l, hl, h1, h2⟩ := h.hd
  exact ⟨fun i hi => by rw [World.ownsRow.cellAt h1 i (by omega)]; exact h2 i hi, h.row, h.inj, h.neA, h.lo.1⟩
theorem set_but' (w : World) (g k : Nat) (v : Value) : But g w (w.setCell ⟨g, k, none⟩ v) :=
  ⟨rfl, rfl, rfl, by simp, fun j _ hk => Below.heap_setCell _ _ _ j (fun e => hk (by rw [e]))⟩
/-- What copied leaves. -/
def CO (w : World) (N m : Nat) (f : Nat → Nat → Nat × Nat) (e : Ending) (w' : World) : Prop := ∃ A B D, e = .returned (.slice (some ⟨A, 0, none⟩) N N) ∧ Hid (RT w.heap.size w' A N m B D) ∧ Hid (Up w w') ∧ Hid (∀ i, i < N → ∀ g, g < m → (D i)[g]! = f i g)
set_option maxRecDepth 20000 in
set_option maxHeartbeats 2000000 in
theorem t31 {w : World} {R N m c : Nat} {P : Nat → Option Addr} {C G O : Nat → Nat} {f : Nat → Nat → Nat × Nat} (h : TI w R N m P C G O f) (hN : N ≤ 256) (hm : m ≤ 16384) (hm1 : 1 ≤ m) : Calls Try.prog 31 #[.slice (some ⟨R, 0, none⟩) N c] w (CO w N m f) := by
  have H : Hid (TI w R N m P C G O f) := h
  clear h
  go_enter Try.func31, Try.ntmps31
  go_wp2_with ((with_reducible refine upon_makeS (by omega) ?_); intro A w1 HA)
  have HS : Hid (CP w w1 A N m 0 (fun _ => 0) (fun _ => [])) := by
    obtain ⟨e, r, u⟩ := HA.out
    exact ⟨⟨_, by simp, owns_down r (by omega), fun i hi => by omega⟩, fun a ha => by omega, fun i j hi => by omega, fun a ha => by omega, u⟩
  clear HA
  go_loopw [4, 5, 11] (fun _ _ vi wr => ∃ (k : Nat) (B : Nat → Nat) (D : Nat → List (Nat × Nat)), k ≤ N ∧ vi = .int .i64 k ∧ Hid (CP w wr A N m k B D) ∧ Hid (∀ i, i < k → ∀ g, g < m → (D i)[g]! = f i g)) (fun _ _ vi _ => N - (intOf vi).toNat)
  case atStart => exact ⟨0, _, _, by omega, rfl, HS, fun i hi => by omega⟩
  case round =>
    clear HS
    obtain ⟨k, B, D, hk, rfl, HS, HD⟩ := hrel
    by_cases hlt : k < N
    · have z1 : (k : Int) < (N : Int) := by omega
      have z2 : (0 : Int) ≤ (k : Int) := by omega
      have c0 := cell_up (H.out.tb k hlt) HS.out.up
      simp only at c0
      obtain ⟨p1, p2⟩ := H.out.rd k hlt (by omega)
      rw [p1] at c0
      have HR : Hid (RD w (G k) (O k) m (f k)) := p2
      obtain ⟨v0, a1, a2⟩ := HS.out.cell k hlt
      go_wp2_with (first
        | ((with_reducible refine upon_makeC (by omega) ?_); intro g w2 HG
           have b1 := cell_up a1 HG.out.2.2
           have b2 : w2.frozen? ⟨A, k, none⟩ = false := (World.frozen?_of_block (w := wr) (a := ⟨A, k, none⟩) (HG.out.2.2.block A (World.block_lt_of_cell? wr _ a1))).trans a2
           have HSB : Hid (But A w2 (w2.setCell ⟨A, k, none⟩ (.slice (some ⟨g, 0, none⟩) m m))) := set_but' _ _ _ _
           have HC : Hid ((w2.setCell ⟨A, k, none⟩ (.slice (some ⟨g, 0, none⟩) m m)).heap[g]? = some (.cells ((List.replicate m (0, 0)).map ce).toArray 53 (0, 0))) := by
             have q := HG.out.1
             have q2 := HS.out.lo
             exact (HG.out.2.1.far HSB.out (by omega)).heap
           have HR2 : Hid (RD (w2.setCell ⟨A, k, none⟩ (.slice (some ⟨g, 0, none⟩) m m)) (G k) (O k) m (f k)) := fun j hj => HSB.out.cell (by
             have q1 := World.block_lt_of_cell? w _ (HR.out j hj)
             have q2 := HS.out.lo.1
             intro e; simp only at q1; omega) (cell_up (HR.out j hj) (HS.out.up.trans HG.out.2.2)))
        | ((with_reducible refine upon_copy (lo := O k) (s := 0) (n := m) HC HR2 rfl (Nat.le_of_eq (Nat.zero_add m)) (Nat.le_refl m) (by simp) ?_); intro w3 hg3 HB3))
      have HN : Hid (CP w w3 A N m (k + 1) (fun i => if i < k then B i else g) (fun i => if i < k then D i else cut (f k) 0 m)) := by
        have e : splice (List.replicate m ((0 : Nat), (0 : Nat))) 0 (cut (f k) 0 m) = cut (f k) 0 m := by simp [splice, cut_len]
        have q := hg3.out
        rw [e] at q
        exact HS.out.next hlt HG.out.2.2 (Nat.le_of_eq HG.out.1) HB3.out (CRow.of_heap (cut_len _ _ _) (Nat.le_of_eq HG.out.1) (by omega) q)
      have HD2 : Hid (∀ i, i < k + 1 → ∀ j, j < m → ((fun i => if i < k then D i else cut (f k) 0 m) i)[j]! = f i j) := fun i hi j hj => by
        by_cases e : i < k
        · simp only [if_pos e]; exact HD.out i e j hj
        · obtain rfl : i = k := by omega
          simp only [if_neg e]
          rw [getElem!_pos _ j (by rw [cut_len]; exact hj)]
          simp [cut]
      go_roundw
      case rel => exact ⟨k + 1, _, _, by omega, by go_num, HN, HD2⟩
      case measure => simp [intOf]; omega
    · obtain rfl : k = N := by omega
      go_wp2
      go_ret
      exact ⟨A, B, D, rfl, HS.out.done, HS.out.up, HD⟩
set_option maxRecDepth 20000 in
theorem upon_copy0 {o : Oper} {a : Act} {next : Act → World → Prop} {Q : Exit → Act → World → Prop} {w : World} {F : Value → World → Result Next} {d s : Option Addr} {c c' : Nat}
    (h : o.upon Try.prog a next Q (F (.int .i64 0) w)) :
    o.upon Try.prog a next Q (((Builtin.copy_ #[54, 54] 3 #[.slice d 0 c, .slice s 0 c']).run Try.prog w).andThen F) := by
  rw [run_copy_none (P := Try.prog) w 54 54 3 53 d s 0 c 0 c' Try.underlying54 sz26 rfl]
  exact h
set_option maxRecDepth 20000 in
theorem upon_makeCz0 {o : Oper} {a : Act} {next : Act → World → Prop} {Q : Exit → Act → World → Prop} {w : World} {F : Value → World → Result Next}
    (hk : ∀ g w', Hid (Made 0 g w w') → o.upon Try.prog a next Q (F (.slice (some ⟨g, 0, none⟩) 0 0) w')) :
    o.upon Try.prog a next Q (((Instr.makeSlice 54 (.int .i64 0) (.int .i64 0)).run Try.prog w).andThen F) := upon_makeC (n := 0) (by omega) hk
set_option maxRecDepth 20000 in
set_option maxHeartbeats 2000000 in
theorem t31z {w : World} {R N c : Nat} {P : Nat → Option Addr} {C G O : Nat → Nat} {f : Nat → Nat → Nat × Nat} (h : TI w R N 0 P C G O f) (hN : N ≤ 256) : Calls Try.prog 31 #[.slice (some ⟨R, 0, none⟩) N c] w (CO w N 0 f) := by
  have H : Hid (TI w R N 0 P C G O f) := h
  clear h
  go_enter Try.func31, Try.ntmps31
  go_wp2_with ((with_reducible refine upon_makeS (by omega) ?_); intro A w1 HA)
  have HS : Hid (CP w w1 A N 0 0 (fun _ => 0) (fun _ => [])) := by
    obtain ⟨e, r, u⟩ := HA.out
    exact ⟨⟨_, by simp, owns_down r (by omega), fun i hi => by omega⟩, fun a ha => by omega, fun i j hi => by omega, fun a ha => by omega, u⟩
  clear HA
  go_loopw [4, 5, 11] (fun _ _ vi wr => ∃ (k : Nat) (B : Nat → Nat) (D : Nat → List (Nat × Nat)), k ≤ N ∧ vi = .int .i64 k ∧ Hid (CP w wr A N 0 k B D)) (fun _ _ vi _ => N - (intOf vi).toNat)
  case atStart => exact ⟨0, _, _, by omega, rfl, HS⟩
  case round =>
    clear HS
    obtain ⟨k, B, D, hk, rfl, HS⟩ := hrel
    by_cases hlt : k < N
    · have z1 : (k : Int) < (N : Int) := by omega
      have z2 : (0 : Int) ≤ (k : Int) := by omega
      have c0 := cell_up (H.out.tb k hlt) HS.out.up
      simp only at c0
      obtain ⟨v0, a1, a2⟩ := HS.out.cell k hlt
      go_wp2_with (first
        | ((with_reducible refine upon_makeCz0 ?_); intro g w2 HG
           have b1 := cell_up a1 HG.out.2.2
           have b2 : w2.frozen? ⟨A, k, none⟩ = false := (World.frozen?_of_block (w := wr) (a := ⟨A, k, none⟩) (HG.out.2.2.block A (World.block_lt_of_cell? wr _ a1))).trans a2)
        | (with_reducible refine upon_copy0 ?_))
      have HN : Hid (CP w (w2.setCell ⟨A, k, none⟩ (.slice (some ⟨g, 0, none⟩) 0 0)) A N 0 (k + 1) (fun i => if i < k then B i else g) (fun i => if i < k then D i else [])) := by
        have q := HG.out.1
        have q2 := HS.out.lo
        refine HS.out.next hlt HG.out.2.2 (Nat.le_of_eq HG.out.1) (But.refl _ _) ?_
        have q3 := HG.out.2.1
        rw [← q] at q3
        rw [← q]
        exact q3.far (set_but' _ _ _ _) (by omega)
      go_roundw
      case rel => exact ⟨k + 1, _, _, by omega, by go_num, HN⟩
      case measure => simp [intOf]; omega
    · obtain rfl : k = N := by omega
      go_wp2
      go_ret
      exact ⟨A, B, D, rfl, HS.out.done, HS.out.up, fun i _ g hg => by omega⟩
end Go.Proofs.Ytgalgnopjcpocaa
