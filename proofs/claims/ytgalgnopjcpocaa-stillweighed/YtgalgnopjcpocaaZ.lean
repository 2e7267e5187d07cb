/- Slow. -/
import Derived.Test.YtgalgnopjcpocaaY
namespace Go.Proofs.Ytgalgnopjcpocaa
open Go.ChangeShapes Go.WideShapes Go.ChangeAt Go.RowKit Go.Fl Ieee
attribute [local go_sem] run_store_float run_store_c isSome_set call20 call33 run_neg fold_eq fold_ne fold_lt fold_gt abs_eq

/-- What a make of a row of numbers leaves. -/
def Made (n g : Nat) (w w' : World) : Prop := w.heap.size = g ∧ CRow g w' (.slice (some ⟨g, 0, none⟩) n n) (List.replicate n (0, 0)) ∧ Up w w'
set_option maxRecDepth 20000 in
theorem upon_make {o : Oper} {a : Act} {next : Act → World → Prop} {Q : Exit → Act → World → Prop} {n : Nat} {w : World} {F : Value → World → Result Next} (hn : n ≤ 100000)
    (hk : ∀ g w', Hid (Made n g w w') → o.upon Try.prog a next Q (F (.slice (some ⟨g, 0, none⟩) n n) w')) :
    o.upon Try.prog a next Q (((Instr.makeSlice 54 (.int .i64 n) (.int .i64 n)).run Try.prog w).andThen F) := by
  obtain ⟨i0, hi, hz0, hz1, hz2⟩ := info_parts info41
  obtain ⟨w', e, h1, h2⟩ := run_make_full (P := Try.prog) w w.heap.size 54 53 i0 (.complex .f64 0 0) 1 Try.underlying54 hi hz0 hz1 .i64 .i64 n (by rw [hz2]; omega) (by unfold maxLen; omega) (Nat.le_refl _)
  rw [e]
  exact hk _ _ ⟨rfl, CRow.made rfl h1 h2⟩
theorem CRow.down {b b' : Nat} {w : World} {v : Value} {d : List (Nat × Nat)} (h : CRow b w v d) (hb : b' ≤ b) : CRow b' w v d := by
  obtain ⟨h1, h2⟩ := h
  refine ⟨h1, ?_⟩
  rcases h2 with h2 | ⟨g, cap, cur, e, k2, k3⟩
  · exact Or.inl h2
  · exact Or.inr ⟨g, cap, cur, e, Nat.le_trans hb k2, k3⟩
theorem CRow.far {b g g' n cap : Nat} {w w' : World} {d : List (Nat × Nat)} (h : CRow b w (.slice (some ⟨g, 0, none⟩) n cap) d) (hb : But g' w w') (hne : g ≠ g') : CRow b w' (.slice (some ⟨g, 0, none⟩) n cap) d := by
  have hlt := (World.ownsRow.lt h _ rfl).2
  obtain ⟨h1, h2⟩ := h
  refine ⟨h1, ?_⟩
  rcases h2 with h2 | ⟨g0, cap0, cur, e, k2, k3, k4⟩
  · exact Or.inl h2
  · simp only [Value.slice.injEq, Option.some.injEq, Addr.mk.injEq] at e
    obtain ⟨⟨rfl, _⟩, rfl, rfl⟩ := e
    refine Or.inr ⟨_, _, cur, rfl, k2, ?_, k4⟩
    rw [hb.block _ hlt (by simpa using hne)]; exact k3
/-- Slow at work: two rows of its own, and the units. -/
structure SI (w wr : World) (A T bp bm q n : Nat) (fu : Nat → Nat × Nat) (da dt : List (Nat × Nat)) : Prop where
  ne : A ≠ T
  loA : w.heap.size ≤ A
  loT : w.heap.size ≤ T
  ans : CRow w.heap.size wr (.slice (some ⟨A, 0, none⟩) n n) da
  ter : CRow w.heap.size wr (.slice (some ⟨T, 0, none⟩) n n) dt
  unA : UnitsAt A wr bp bm q n n fu
  unT : UnitsAt T wr bp bm q n n fu
  up : Up w wr
theorem SI.mono {w wr w' : World} {A T bp bm q n : Nat} {fu : Nat → Nat × Nat} {da dt : List (Nat × Nat)} (h : SI w wr A T bp bm q n fu da dt) (hu : Up wr w') : SI w w' A T bp bm q n fu da dt :=
  ⟨h.ne, h.loA, h.loT, h.ans.up hu, h.ter.up hu, h.unA.but (But.of_up hu), h.unT.but (But.of_up hu), h.up.trans hu⟩
theorem SI.putT {w wr : World} {A T bp bm q n : Nat} {fu : Nat → Nat × Nat} {da dt : List (Nat × Nat)} (h : SI w wr A T bp bm q n fu da dt) (k r s : Nat) : SI w (wr.setCell ⟨T, k, none⟩ (.complex .f64 r s)) A T bp bm q n fu da (dt.set k (r, s)) := by
  obtain ⟨h1, h2⟩ := h.ter.put k r s
  have hU : Units wr #[.pointer (some ⟨bp, 0, none⟩), .pointer (some ⟨bm, 0, none⟩)] n n fu := h.unA.units
  obtain ⟨a1, a2, a3, a4, a5, a6⟩ := h.unA
  obtain ⟨b1, b2, b3, _, _, _⟩ := h.unT
  have c1 := h2.cell b1 a4
  have c2 := h2.cell b2 a5
  have c3 := h2.rd b3 a6
  exact ⟨h.ne, h.loA, h.loT, h.ans.far h2 h.ne, h1, ⟨a1, a2, a3, c1, c2, c3⟩, ⟨b1, b2, b3, c1, c2, c3⟩, h2.up h.up h.loT⟩
theorem SI.putA {w wr : World} {A T bp bm q n : Nat} {fu : Nat → Nat × Nat} {da dt : List (Nat × Nat)} (h : SI w wr A T bp bm q n fu da dt) (k r s : Nat) : SI w (wr.setCell ⟨A, k, none⟩ (.complex .f64 r s)) A T bp bm q n fu (da.set k (r, s)) dt := by
  obtain ⟨h1, h2⟩ := h.ans.put k r s
  obtain ⟨a1, a2, a3, a4, a5, a6⟩ := h.unA
  obtain ⟨b1, b2, b3, _, _, _⟩ := h.unT
  have c1 := h2.cell a1 a4
  have c2 := h2.cell a2 a5
  have c3 := h2.rd a3 a6
  exact ⟨h.ne, h.loA, h.loT, h1, h.ter.far h2 (Ne.symm h.ne), ⟨a1, a2, a3, c1, c2, c3⟩, ⟨b1, b2, b3, c1, c2, c3⟩, h2.up h.up h.loA⟩
theorem SI.start {w w2 w3 w4 : World} {A T bp bm q n k : Nat} {fu : Nat → Nat × Nat} (hA : Made n A (w2.drewN k) w3) (hT : Made n T w3 w4) (hU : w2.cell? ⟨bp, 0, none⟩ = some (.slice (some ⟨q, 0, none⟩) n n) ∧ w2.cell? ⟨bm, 0, none⟩ = some (.int .i64 n) ∧ RD w2 q 0 n fu)
    (hB : w.heap.size ≤ bp ∧ w.heap.size ≤ bm ∧ w.heap.size ≤ q ∧ bp < w2.heap.size ∧ bm < w2.heap.size ∧ q < w2.heap.size) (hP : Up w w2) : SI w w4 A T bp bm q n fu (List.replicate n (0, 0)) (List.replicate n (0, 0)) ∧ SI w w4 T A bp bm q n fu (List.replicate n (0, 0)) (List.replicate n (0, 0)) := by
  obtain ⟨e1, r1, u1⟩ := hA
  obtain ⟨e2, r2, u2⟩ := hT
  have e1' : w2.heap.size = A := e1
  have s1 := hP.size
  have s2 : A < w3.heap.size := (World.ownsRow.lt r1 _ rfl).2
  obtain ⟨b1, b2, b3, b4, b5, b6⟩ := hB
  have u : Up w2 w4 := ((Up.drewN w2 k).trans u1).trans u2
  have c1 := cell_up hU.1 u
  have c2 := cell_up hU.2.1 u
  have c3 := hU.2.2.up u
  have rA : CRow w.heap.size w4 (.slice (some ⟨A, 0, none⟩) n n) (List.replicate n (0, 0)) := (r1.up u2).down (by omega)
  have rT : CRow w.heap.size w4 (.slice (some ⟨T, 0, none⟩) n n) (List.replicate n (0, 0)) := r2.down (by omega)
  have uA : UnitsAt A w4 bp bm q n n fu := ⟨by omega, by omega, by omega, c1, c2, c3⟩
  have uT : UnitsAt T w4 bp bm q n n fu := ⟨by omega, by omega, by omega, c1, c2, c3⟩
  exact ⟨⟨by omega, by omega, by omega, rA, rT, uA, uT, hP.trans u⟩, ⟨by omega, by omega, by omega, rT, rA, uT, uA, hP.trans u⟩⟩
/-- The product for j and k. -/
def slowM (back : Bool) (n : Nat) (F : Nat → C2) (j k : Nat) : C2 := mulC (F k) (unitF (wayOf back) n (j * k % n))
def slowAt (back : Bool) (n : Nat) (F : Nat → C2) (j : Nat) : C2 := (sumN (fun k => (slowM back n F j k).1) n, sumN (fun k => (slowM back n F j k).2) n)
def slowL (back : Bool) (n : Nat) (F : Nat → C2) : List C2 := if back then ((List.range n).map (slowAt back n F)).map (divF n) else (List.range n).map (slowAt back n F)
theorem sumN_congr {F G : Nat → Option Nat} : ∀ {n : Nat}, (∀ i, i < n → F i = G i) → sumN F n = sumN G n
  | 0, _ => rfl
  | 1, h => h 0 (by omega)
  | n + 2, h => by rw [sumN_step, sumN_step, sumN_congr (n := n + 1) (fun i hi => h i (by omega)), h (n + 1) (by omega)]
theorem slow_done {n : Nat} {G : Nat → C2} {da : List (Nat × Nat)} (hl : da.length = n) (h : ∀ i, i < n → ab2 da[i]! = G i) : da.map ab2 = (List.range n).map G := by
  refine List.ext_getElem? fun i => ?_
  by_cases hi : i < n
  · rw [ab2_at (by omega), h i hi, List.getElem?_map, List.getElem?_range hi]; rfl
  · rw [List.getElem?_eq_none (by simp; omega), List.getElem?_eq_none (by simp; omega)]
end Go.Proofs.Ytgalgnopjcpocaa
