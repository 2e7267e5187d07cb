/- A table of noughts: its rows stand in one list. -/
import Derived.Test.YtgalgnopjcpocaaBb
namespace Go.Proofs.Ytgalgnopjcpocaa
open Go.ChangeShapes Go.WideShapes Go.ChangeAt Go.RowKit Go.Fl Ieee
attribute [local go_sem] run_store_float run_store_complex call20 call33 run_neg fold_eq fold_ne fold_lt fold_gt abs_eq

theorem owns_down {b b' n : Nat} {t : TypeId} {s : Nat} {w : World} {v : Value} {xs : List Value} (h : w.ownsRow b t s v n xs) (hb : b' ≤ b) : w.ownsRow b' t s v n xs := by
  obtain ⟨h1, h2⟩ := h
  refine ⟨h1, ?_⟩
  rcases h2 with h2 | ⟨g, cap, cur, e, k2, k3⟩
  · exact Or.inl h2
  · exact Or.inr ⟨g, cap, cur, e, Nat.le_trans hb k2, k3⟩
theorem owns_far {b g g' n cap : Nat} {t : TypeId} {s : Nat} {w w' : World} {xs : List Value} (h : w.ownsRow b t s (.slice (some ⟨g, 0, none⟩) n cap) n xs) (hb : But g' w w') (hne : g ≠ g') : w'.ownsRow b t s (.slice (some ⟨g, 0, none⟩) n cap) n xs := by
  have hlt := (World.ownsRow.lt h _ rfl).2
  obtain ⟨h1, h2⟩ := h
  refine ⟨h1, ?_⟩
  rcases h2 with h2 | ⟨g0, cap0, cur, e, k2, k3, k4⟩
  · exact Or.inl h2
  · simp only [Value.slice.injEq, Option.some.injEq, Addr.mk.injEq, and_true, true_and] at e
    obtain ⟨rfl, rfl⟩ := e
    refine Or.inr ⟨_, _, cur, rfl, k2, ?_, k4⟩
    rw [hb.block _ hlt (by simpa using hne)]; exact k3
set_option maxRecDepth 20000 in
theorem info27 : (Try.prog.info? 54).map (fun i => (i.zero, i.size, i.bytes)) = some (some (.slice none 0 0), 1, 24) := by kernel_rfl
/-- What a make leaves: a row of rows that have nothing; a row of noughts. -/
def MadeS (n g : Nat) (w w' : World) : Prop := w.heap.size = g ∧ w'.ownsRow g 54 1 (.slice (some ⟨g, 0, none⟩) n n) n (List.replicate n (.slice none 0 0)) ∧ Up w w'
set_option maxRecDepth 20000 in
theorem upon_makeS {o : Oper} {a : Act} {next : Act → World → Prop} {Q : Exit → Act → World → Prop} {n : Nat} {w : World} {F : Value → World → Result Next} (hn : n ≤ 1000000)
    (hk : ∀ g w', Hid (MadeS n g w w') → o.upon Try.prog a next Q (F (.slice (some ⟨g, 0, none⟩) n n) w')) :
    o.upon Try.prog a next Q (((Instr.makeSlice 49 (.int .i64 n) (.int .i64 n)).run Try.prog w).andThen F) := by
  obtain ⟨i0, hi, hz0, hz1, hz2⟩ := info_parts info27
  obtain ⟨w', e, h1, h2⟩ := run_make_full (P := Try.prog) w w.heap.size 49 54 i0 (.slice none 0 0) 1 Try.underlying49 hi hz0 hz1 .i64 .i64 n (by rw [hz2]; omega) (by unfold maxLen; omega) (Nat.le_refl _)
  rw [e]
  refine hk _ _ ⟨rfl, ?_, Below.grown (Below.refl _ _) h2 (Nat.le_refl _) (fun j hj => by cases hj)⟩
  have e : (madeCells (Value.slice none 0 0).cells (n * 1)).toList = List.replicate n (.slice none 0 0) := by
    rw [Nat.mul_one]; exact toList_madeCells_one _ _
  rw [e] at h1
  exact h1
set_option maxRecDepth 20000 in
theorem upon_makeC {o : Oper} {a : Act} {next : Act → World → Prop} {Q : Exit → Act → World → Prop} {n : Nat} {w : World} {F : Value → World → Result Next} (hn : n ≤ 1000000)
    (hk : ∀ g w', Hid (Made n g w w') → o.upon Try.prog a next Q (F (.slice (some ⟨g, 0, none⟩) n n) w')) :
    o.upon Try.prog a next Q (((Instr.makeSlice 54 (.int .i64 n) (.int .i64 n)).run Try.prog w).andThen F) := by
  obtain ⟨i0, hi, hz0, hz1, hz2⟩ := info_parts info41
  obtain ⟨w', e, h1, h2⟩ := run_make_full (P := Try.prog) w w.heap.size 54 53 i0 (.complex .f64 0 0) 1 Try.underlying54 hi hz0 hz1 .i64 .i64 n (by rw [hz2]; omega) (by unfold maxLen; omega) (Nat.le_refl _)
  rw [e]
  exact hk _ _ ⟨rfl, CRow.made rfl h1 h2⟩
/-- A table of one's own: its rows' values at A, all its numbers at B. -/
structure BT (w wr : World) (A B n m : Nat) (d : List (Nat × Nat)) : Prop where
  ne : A ≠ B
  loA : w.heap.size ≤ A
  loB : w.heap.size ≤ B
  ans : TB wr A n (fun i => some ⟨B, i * m, none⟩) (fun _ => m) (fun _ => m)
  all : CRow w.heap.size wr (.slice (some ⟨B, 0, none⟩) (n * m) (n * m)) d
  up : Up w wr
theorem BT.mono {w wr w' : World} {A B n m : Nat} {d : List (Nat × Nat)} (h : BT w wr A B n m d) (hu : Up wr w') : BT w w' A B n m d := ⟨h.ne, h.loA, h.loB, h.ans.up hu, h.all.up hu, h.up.trans hu⟩
theorem TB.far {w w' : World} {R n g : Nat} {P : Nat → Option Addr} {L C : Nat → Nat} (h : TB w R n P L C) (hb : But g w w') (hne : R ≠ g) : TB w' R n P L C := fun i hi => hb.cell hne (h i hi)
theorem BT.put {w wr : World} {A B n m : Nat} {d : List (Nat × Nat)} (h : BT w wr A B n m d) (k r s : Nat) : BT w (wr.setCell ⟨B, k, none⟩ (.complex .f64 r s)) A B n m (d.set k (r, s)) := by
  obtain ⟨h1, h2⟩ := h.all.put k r s
  exact ⟨h.ne, h.loA, h.loB, h.ans.far h2 h.ne, h1, h2.up h.up h.loB⟩
theorem BT.far {w wr w' : World} {A B n m g : Nat} {d : List (Nat × Nat)} (h : BT w wr A B n m d) (hb : But g wr w') (hA : A ≠ g) (hB : B ≠ g) (hg : w.heap.size ≤ g) : BT w w' A B n m d :=
  ⟨h.ne, h.loA, h.loB, h.ans.far hb hA, h.all.far hb hB, hb.up h.up hg⟩
def BL (w : World) (n m : Nat) (e : Ending) (w' : World) : Prop := ∃ A B, e = .returned (.slice (some ⟨A, 0, none⟩) n n) ∧ Hid (BT w w' A B n m (List.replicate (n * m) (0, 0)))
/-- The rows' values, of which k are laid. -/
structure BK (w wr : World) (A B n m k : Nat) : Prop where
  ne : A ≠ B
  loA : w.heap.size ≤ A
  loB : w.heap.size ≤ B
  ans : ∃ l, l.length = n ∧ wr.ownsRow w.heap.size 54 1 (.slice (some ⟨A, 0, none⟩) n n) n l ∧ ∀ i, i < k → l[i]? = some (.slice (some ⟨B, i * m, none⟩) m m)
  all : CRow w.heap.size wr (.slice (some ⟨B, 0, none⟩) (n * m) (n * m)) (List.replicate (n * m) (0, 0))
  up : Up w wr
theorem BK.start {w w3 w4 : World} {A B n m k : Nat} (hB : Made (n * m) B (w.drewN k) w3) (hA : MadeS n A w3 w4) : BK w w4 A B n m 0 := by
  obtain ⟨e1, r1, u1⟩ := hB
  obtain ⟨e2, r2, u2⟩ := hA
  have e1' : w.heap.size = B := e1
  have s2 : B < w3.heap.size := (World.ownsRow.lt r1 _ rfl).2
  exact ⟨by omega, by omega, by omega, ⟨_, by simp, owns_down r2 (by omega), fun i hi => by omega⟩, (r1.up u2).down (by omega), ((Up.drewN w k).trans u1).trans u2⟩
theorem BK.start' {w w3 w4 : World} {A B n m k : Nat} (hA : MadeS n A (w.drewN k) w3) (hB : Made (n * m) B w3 w4) : BK w w4 A B n m 0 := by
  obtain ⟨e1, r1, u1⟩ := hA
  obtain ⟨e2, r2, u2⟩ := hB
  have e1' : w.heap.size = A := e1
  have s2 : A < w3.heap.size := (World.ownsRow.lt r1 _ rfl).2
  exact ⟨by omega, by omega, by omega, ⟨_, by simp, owns_down (owns_up r1 u2) (by omega), fun i hi => by omega⟩, r2.down (by omega), ((Up.drewN w k).trans u1).trans u2⟩
theorem BK.put {w wr : World} {A B n m k x : Nat} (h : BK w wr A B n m k) (hk : k < n) (hx : k * m = x) : BK w (wr.setCell ⟨A, k, none⟩ (.slice (some ⟨B, x, none⟩) m m)) A B n m (k + 1) := by
  obtain ⟨l, hl, h1, h2⟩ := h.ans
  obtain ⟨s1, s2⟩ := World.ownsRow.stored h1 k (.slice (some ⟨B, x, none⟩) m m)
  refine ⟨h.ne, h.loA, h.loB, ⟨_, by simpa using hl, s1, fun i hi => ?_⟩, h.all.far s2 (Ne.symm h.ne), But.up s2 h.up h.loA⟩
  rw [List.getElem?_set]
  by_cases e : k = i
  · subst e; rw [if_pos rfl, if_pos (by omega), hx]
  · rw [if_neg e]; exact h2 i (by omega)
theorem BK.cell {w wr : World} {A B n m k : Nat} (h : BK w wr A B n m k) (i : Nat) (hi : i < n) : ∃ v, wr.cell? ⟨A, i, none⟩ = some v ∧ wr.frozen? ⟨A, i, none⟩ = false := by
  obtain ⟨l, hl, h1, h2⟩ := h.ans
  exact ⟨l[i]'(by omega), by rw [World.ownsRow.cellAt h1 i (by omega), List.getElem?_eq_getElem (by omega)], World.ownsRow.frozenAt h1 i⟩
theorem BK.done {w wr : World} {A B n m : Nat} (h : BK w wr A B n m n) : BT w wr A B n m (List.replicate (n * m) (0, 0)) := by
  obtain ⟨l, hl, h1, h2⟩ := h.ans
  exact ⟨h.ne, h.loA, h.loB, fun i hi => by rw [World.ownsRow.cellAt h1 i (by omega)]; exact h2 i hi, h.all, h.up⟩
end Go.Proofs.Ytgalgnopjcpocaa
