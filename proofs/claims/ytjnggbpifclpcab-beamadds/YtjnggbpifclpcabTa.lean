/- Tables: rows of numbers; a table of noughts whose rows stand in one list. -/
import Derived.Test.YtjnggbpifclpcabX
import Derived.Test.YtjnggbpifclpcabSd
namespace Go.Proofs.Ytjnggbpifclpcab
open Go.ChangeShapes Go.WideShapes Go.ChangeAt Go.RowKit Go.Fl Ieee
attribute [local go_sem] run_store_float run_store_complex call20 call19 run_neg fold_eq fold_ne fold_lt fold_gt abs_eq

/-- What a make of a row of numbers leaves. -/
def Made (n g : Nat) (w w' : World) : Prop := w.heap.size = g ∧ CRow g w' (.slice (some ⟨g, 0, none⟩) n n) (List.replicate n (0, 0)) ∧ Up w w'
theorem upon_make {o : Oper} {a : Act} {next : Act → World → Prop} {Q : Exit → Act → World → Prop} {n : Nat} {w : World} {F : Value → World → Result Next} (hn : n ≤ 100000)
    (hk : ∀ g w', Hid (Made n g w w') → o.upon Try.prog a next Q (F (.slice (some ⟨g, 0, none⟩) n n) w')) :
    o.upon Try.prog a next Q (((Instr.makeSlice 25 (.int .i64 n) (.int .i64 n)).run Try.prog w).andThen F) := by
  obtain ⟨i0, hi, hz0, hz1, hz2⟩ := info_parts info26
  obtain ⟨w', e, h1, h2⟩ := run_make_full (P := Try.prog) w w.heap.size 25 26 i0 (.complex .f64 0 0) 1 Try.underlying25 hi hz0 hz1 .i64 .i64 n (by rw [hz2]; omega) (by unfold maxLen; omega) (Nat.le_refl _)
  rw [e]
  exact hk _ _ ⟨rfl, CRow.made rfl h1 h2⟩
theorem CRow.down {b b' : Nat} {w : World} {v : Value} {d : List (Nat × Nat)} (h : CRow b w v d) (hb : b' ≤ b) : CRow b' w v d := by
  obtain ⟨h1, h2⟩ := h
  refine ⟨h1, ?_⟩
  rcases h2 with h2 | ⟨g, cap, cur, e, k2, k3⟩
  · exact Or.inl h2
  · exact Or.inr ⟨g, cap, cur, e, Nat.le_trans hb k2, k3⟩
theorem CRow.far {b g g' n cap : Nat} {w w' : World} {d : List (Nat × Nat)} (h : CRow b w (.slice (some ⟨g, 0, none⟩) n cap) d) (hb : But g' w w') (hne : g ≠ g') : CRow b w' (.slice (some ⟨g, 0, none⟩) n cap) d := by
  have hlt := (World.ownsRow.lt h _ rfl).2
  obtain ⟨h1, h2⟩ := h
  refine ⟨h1, ?_⟩
  rcases h2 with h2 | ⟨g0, cap0, cur, e, k2, k3, k4⟩
  · exact Or.inl h2
  · simp only [Value.slice.injEq, Option.some.injEq, Addr.mk.injEq] at e
    obtain ⟨⟨rfl, _⟩, rfl, rfl⟩ := e
    refine Or.inr ⟨_, _, cur, rfl, k2, ?_, k4⟩
    rw [hb.block _ hlt (by simpa using hne)]; exact k3
/-- What a call leaves that answers yes or no, a number, and turns nothing. -/
def BR (b : Bool) (w : World) (e : Ending) (w' : World) : Prop := e = .returned (.bool b) ∧ w' = w
def IR (z : Int) (w : World) (e : Ending) (w' : World) : Prop := e = .returned (.int .i64 z) ∧ w' = w
/-- A table's value: n rows, of which the first has m numbers. -/
def TV (w : World) (v : Value) (n m : Nat) : Prop := ∃ p c, v = .slice p n c ∧ (n = 0 → m = 0) ∧ (0 < n → ∃ R q c0, p = some ⟨R, 0, none⟩ ∧ w.cell? ⟨R, 0, none⟩ = some (.slice q m c0))
theorem TV.up {w w' : World} {v : Value} {n m : Nat} (h : TV w v n m) (hu : Up w w') : TV w' v n m := by
  obtain ⟨p, c, h1, h2, h3⟩ := h
  refine ⟨p, c, h1, h2, fun hp => ?_⟩
  obtain ⟨R, q, c0, k1, k2⟩ := h3 hp
  exact ⟨R, q, c0, k1, cell_up k2 hu⟩
theorem TV.nil (w : World) (p : Option Addr) (c : Nat) : TV w (.slice p 0 c) 0 0 := ⟨p, c, rfl, fun _ => rfl, fun h => by omega⟩
/-- The rows of a table as they stand in memory: where each begins, how many it has, its room. -/
def TB (w : World) (R n : Nat) (P : Nat → Option Addr) (L C : Nat → Nat) : Prop := ∀ i, i < n → w.cell? ⟨R, i, none⟩ = some (.slice (P i) (L i) (C i))
theorem TB.up {w w' : World} {R n : Nat} {P : Nat → Option Addr} {L C : Nat → Nat} (h : TB w R n P L C) (hu : Up w w') : TB w' R n P L C := fun i hi => cell_up (h i hi) hu
theorem TB.tv {w : World} {R n c : Nat} {P : Nat → Option Addr} {L C : Nat → Nat} (h : TB w R n P L C) (hp : 0 < n) : TV w (.slice (some ⟨R, 0, none⟩) n c) n (L 0) := ⟨_, c, rfl, fun e => by omega, fun _ => ⟨R, P 0, C 0, rfl, h 0 hp⟩⟩
theorem owns_down {b b' n : Nat} {t : TypeId} {s : Nat} {w : World} {v : Value} {xs : List Value} (h : w.ownsRow b t s v n xs) (hb : b' ≤ b) : w.ownsRow b' t s v n xs := by
  obtain ⟨h1, h2⟩ := h
  refine ⟨h1, ?_⟩
  rcases h2 with h2 | ⟨g, cap, cur, e, k2, k3⟩
  · exact Or.inl h2
  · exact Or.inr ⟨g, cap, cur, e, Nat.le_trans hb k2, k3⟩
theorem owns_far {b g g' n cap : Nat} {t : TypeId} {s : Nat} {w w' : World} {xs : List Value} (h : w.ownsRow b t s (.slice (some ⟨g, 0, none⟩) n cap) n xs) (hb : But g' w w') (hne : g ≠ g') : w'.ownsRow b t s (.slice (some ⟨g, 0, none⟩) n cap) n xs := by
  have hlt := (World.ownsRow.lt h _ rfl).2
  obtain ⟨h1, h2⟩ := h
  refine ⟨h1, ?_⟩
  rcases h2 with h2 | ⟨g0, cap0, cur, e, k2, k3, k4⟩
  · exact Or.inl h2
  · simp only [Value.slice.injEq, Option.some.injEq, Addr.mk.injEq, and_true, true_and] at e
    obtain ⟨rfl, rfl⟩ := e
    refine Or.inr ⟨_, _, cur, rfl, k2, ?_, k4⟩
    rw [hb.block _ hlt (by simpa using hne)]; exact k3
theorem info27 : (Try.prog.info? 25).map (fun i => (i.zero, i.size, i.bytes)) = some (some (.slice none 0 0), 1, 24) := by kernel_rfl
/-- What a make leaves: a row of rows that have nothing; a row of noughts. -/
def MadeS (n g : Nat) (w w' : World) : Prop := w.heap.size = g ∧ w'.ownsRow g 25 1 (.slice (some ⟨g, 0, none⟩) n n) n (List.replicate n (.slice none 0 0)) ∧ Up w w'
theorem upon_makeS {o : Oper} {a : Act} {next : Act → World → Prop} {Q : Exit → Act → World → Prop} {n : Nat} {w : World} {F : Value → World → Result Next} (hn : n ≤ 1000000)
    (hk : ∀ g w', Hid (MadeS n g w w') → o.upon Try.prog a next Q (F (.slice (some ⟨g, 0, none⟩) n n) w')) :
    o.upon Try.prog a next Q (((Instr.makeSlice 24 (.int .i64 n) (.int .i64 n)).run Try.prog w).andThen F) := by
  obtain ⟨i0, hi, hz0, hz1, hz2⟩ := info_parts info27
  obtain ⟨w', e, h1, h2⟩ := run_make_full (P := Try.prog) w w.heap.size 24 25 i0 (.slice none 0 0) 1 Try.underlying24 hi hz0 hz1 .i64 .i64 n (by rw [hz2]; omega) (by unfold maxLen; omega) (Nat.le_refl _)
  rw [e]
  refine hk _ _ ⟨rfl, ?_, Below.grown (Below.refl _ _) h2 (Nat.le_refl _) (fun j hj => by cases hj)⟩
  have e : (madeCells (Value.slice none 0 0).cells (n * 1)).toList = List.replicate n (.slice none 0 0) := by
    rw [Nat.mul_one]; exact toList_madeCells_one _ _
  rw [e] at h1
  exact h1
theorem upon_makeC {o : Oper} {a : Act} {next : Act → World → Prop} {Q : Exit → Act → World → Prop} {n : Nat} {w : World} {F : Value → World → Result Next} (hn : n ≤ 1000000)
    (hk : ∀ g w', Hid (Made n g w w') → o.upon Try.prog a next Q (F (.slice (some ⟨g, 0, none⟩) n n) w')) :
    o.upon Try.prog a next Q (((Instr.makeSlice 25 (.int .i64 n) (.int .i64 n)).run Try.prog w).andThen F) := by
  obtain ⟨i0, hi, hz0, hz1, hz2⟩ := info_parts info26
  obtain ⟨w', e, h1, h2⟩ := run_make_full (P := Try.prog) w w.heap.size 25 26 i0 (.complex .f64 0 0) 1 Try.underlying25 hi hz0 hz1 .i64 .i64 n (by rw [hz2]; omega) (by unfold maxLen; omega) (Nat.le_refl _)
  rw [e]
  exact hk _ _ ⟨rfl, CRow.made rfl h1 h2⟩
/-- A table of one's own: its rows' values at A, all its numbers at B. -/
structure BT (w wr : World) (A B n m : Nat) (d : List (Nat × Nat)) : Prop where
  ne : A ≠ B
  loA : w.heap.size ≤ A
  loB : w.heap.size ≤ B
  ans : TB wr A n (fun i => some ⟨B, i * m, none⟩) (fun _ => m) (fun _ => m)
  all : CRow w.heap.size wr (.slice (some ⟨B, 0, none⟩) (n * m) (n * m)) d
  up : Up w wr
theorem BT.mono {w wr w' : World} {A B n m : Nat} {d : List (Nat × Nat)} (h : BT w wr A B n m d) (hu : Up wr w') : BT w w' A B n m d := ⟨h.ne, h.loA, h.loB, h.ans.up hu, h.all.up hu, h.up.trans hu⟩
theorem TB.far {w w' : World} {R n g : Nat} {P : Nat → Option Addr} {L C : Nat → Nat} (h : TB w R n P L C) (hb : But g w w') (hne : R ≠ g) : TB w' R n P L C := fun i hi => hb.cell hne (h i hi)
theorem BT.put {w wr : World} {A B n m : Nat} {d : List (Nat × Nat)} (h : BT w wr A B n m d) (k r s : Nat) : BT w (wr.setCell ⟨B, k, none⟩ (.complex .f64 r s)) A B n m (d.set k (r, s)) := by
  obtain ⟨h1, h2⟩ := h.all.put k r s
  exact ⟨h.ne, h.loA, h.loB, h.ans.far h2 h.ne, h1, h2.up h.up h.loB⟩
theorem BT.far {w wr w' : World} {A B n m g : Nat} {d : List (Nat × Nat)} (h : BT w wr A B n m d) (hb : But g wr w') (hA : A ≠ g) (hB : B ≠ g) (hg : w.heap.size ≤ g) : BT w w' A B n m d :=
  ⟨h.ne, h.loA, h.loB, h.ans.far hb hA, h.all.far hb hB, hb.up h.up hg⟩
/-- The rows' values, of which k are laid. -/
structure BK (w wr : World) (A B n m k : Nat) : Prop where
  ne : A ≠ B
  loA : w.heap.size ≤ A
  loB : w.heap.size ≤ B
  ans : ∃ l, l.length = n ∧ wr.ownsRow w.heap.size 25 1 (.slice (some ⟨A, 0, none⟩) n n) n l ∧ ∀ i, i < k → l[i]? = some (.slice (some ⟨B, i * m, none⟩) m m)
  all : CRow w.heap.size wr (.slice (some ⟨B, 0, none⟩) (n * m) (n * m)) (List.replicate (n * m) (0, 0))
  up : Up w wr
def BL (w : World) (n m : Nat) (e : Ending) (w' : World) : Prop := ∃ A B, e = .returned (.slice (some ⟨A, 0, none⟩) n n) ∧ Hid (BK w w' A B n m n)
theorem BK.start {w w3 w4 : World} {A B n m k : Nat} (hB : Made (n * m) B (w.drewN k) w3) (hA : MadeS n A w3 w4) : BK w w4 A B n m 0 := by
  obtain ⟨e1, r1, u1⟩ := hB
  obtain ⟨e2, r2, u2⟩ := hA
  have e1' : w.heap.size = B := e1
  have s2 : B < w3.heap.size := (World.ownsRow.lt r1 _ rfl).2
  exact ⟨by omega, by omega, by omega, ⟨_, by simp, owns_down r2 (by omega), fun i hi => by omega⟩, (r1.up u2).down (by omega), ((Up.drewN w k).trans u1).trans u2⟩
theorem BK.start' {w w3 w4 : World} {A B n m k : Nat} (hA : MadeS n A (w.drewN k) w3) (hB : Made (n * m) B w3 w4) : BK w w4 A B n m 0 := by
  obtain ⟨e1, r1, u1⟩ := hA
  obtain ⟨e2, r2, u2⟩ := hB
  have e1' : w.heap.size = A := e1
  have s2 : A < w3.heap.size := (World.ownsRow.lt r1 _ rfl).2
  exact ⟨by omega, by omega, by omega, ⟨_, by simp, owns_down (owns_up r1 u2) (by omega), fun i hi => by omega⟩, r2.down (by omega), ((Up.drewN w k).trans u1).trans u2⟩
theorem BK.put {w wr : World} {A B n m k x : Nat} (h : BK w wr A B n m k) (hk : k < n) (hx : k * m = x) : BK w (wr.setCell ⟨A, k, none⟩ (.slice (some ⟨B, x, none⟩) m m)) A B n m (k + 1) := by
  obtain ⟨l, hl, h1, h2⟩ := h.ans
  obtain ⟨s1, s2⟩ := World.ownsRow.stored h1 k (.slice (some ⟨B, x, none⟩) m m)
  refine ⟨h.ne, h.loA, h.loB, ⟨_, by simpa using hl, s1, fun i hi => ?_⟩, h.all.far s2 (Ne.symm h.ne), But.up s2 h.up h.loA⟩
  rw [List.getElem?_set]
  by_cases e : k = i
  · subst e; rw [if_pos rfl, if_pos (by omega), hx]
  · rw [if_neg e]; exact h2 i (by omega)
theorem BK.cell {w wr : World} {A B n m k : Nat} (h : BK w wr A B n m k) (i : Nat) (hi : i < n) : ∃ v, wr.cell? ⟨A, i, none⟩ = some v ∧ wr.frozen? ⟨A, i, none⟩ = false := by
  obtain ⟨l, hl, h1, h2⟩ := h.ans
  exact ⟨l[i]'(by omega), by rw [World.ownsRow.cellAt h1 i (by omega), List.getElem?_eq_getElem (by omega)], World.ownsRow.frozenAt h1 i⟩
theorem BK.done {w wr : World} {A B n m : Nat} (h : BK w wr A B n m n) : BT w wr A B n m (List.replicate (n * m) (0, 0)) := by
  obtain ⟨l, hl, h1, h2⟩ := h.ans
  exact ⟨h.ne, h.loA, h.loB, fun i hi => by rw [World.ownsRow.cellAt h1 i (by omega)]; exact h2 i hi, h.all, h.up⟩
set_option maxHeartbeats 2000000 in
theorem t32 (n m : Nat) (w : World) (hn : n ≤ 16384) (hm : m ≤ 16384) (hnm : n * m ≤ 262144) : Calls Try.prog 32 #[.int .i64 n, .int .i64 m] w (BL w n m) := by
  obtain ⟨K, hK⟩ : ∃ K, n * m = K := ⟨_, rfl⟩
  have hz : (n : Int) * (m : Int) = K := by rw [← hK, Int.natCast_mul]
  have HK : Hid (n * m = K) := hK
  rw [hK] at hnm
  clear hK
  have e4 : IntKind.i64.wrap (K : Int) = K := i64_id (by omega)
  go_enter Try.func32, Try.ntmps32
  go_wp2
  go_region_held3 (fun _ => True) (exact True.intro) (first | ((with_reducible refine upon_makeC (by omega) ?_); intro _ _ _) | ((with_reducible refine upon_makeS (by omega) ?_); intro _ _ _))
  rename_i B wa HB A w1 HA _
  have HS : Hid (BK w w1 A B n m 0) := by have q := HK.out; subst q; exact BK.start (k := 1) HB.out HA.out
  clear HA HB
  rotate_left
  rename_i A wa HA B w1 HB _
  have HS : Hid (BK w w1 A B n m 0) := by have q := HK.out; subst q; exact BK.start' (k := 1) HA.out HB.out
  clear HA HB
  all_goals
    go_wp2
    go_loopw [7, 16] (fun _ vi wr => ∃ (k : Nat), k ≤ n ∧ vi = .int .i64 k ∧ Hid (BK w wr A B n m k)) (fun _ vi _ => n - (intOf vi).toNat)
    case atStart => exact ⟨0, by omega, rfl, HS⟩
    case round =>
      clear HS
      obtain ⟨k, hk, rfl, HS⟩ := hrel
      by_cases hlt : k < n
      · have z1 : (k : Int) < (n : Int) := by omega
        have z2 : (0 : Int) ≤ (k : Int) := by omega
        obtain ⟨v1, i1, f1⟩ := HS.out.cell k hlt
        obtain ⟨x, hx⟩ : ∃ x, k * m = x := ⟨_, rfl⟩
        obtain ⟨y, hy⟩ : ∃ y, (k + 1) * m = y := ⟨_, rfl⟩
        have hyx : y = x + m := by rw [← hx, ← hy, Nat.add_mul]; omega
        have hyK : y ≤ K := by rw [← hy, ← HK.out]; exact Nat.mul_le_mul_right _ hlt
        have HX : Hid (k * m = x) := hx
        have q1 : (k : Int) * (m : Int) = x := by rw [← hx, Int.natCast_mul]
        have q2 : ((k : Int) + 1) * (m : Int) = y := by rw [← hy, Int.natCast_mul]; rfl
        clear hx hy
        rcases Nat.eq_zero_or_pos m with rfl | hp
        · have HX0 : Hid (BK w (wr.setCell ⟨A, k, none⟩ (.slice (some ⟨B, 0, none⟩) 0 0)) A B n 0 (k + 1)) := HS.out.put hlt (Nat.mul_zero k)
          obtain rfl : x = 0 := by rw [← HX.out, Nat.mul_zero]
          obtain rfl : y = 0 := by omega
          obtain rfl : K = 0 := by rw [← HK.out, Nat.mul_zero]
          clear hz e4 q1 q2 hyx hyK
          go_wp2
          go_roundw
          case rel => exact ⟨k + 1, by omega, by go_num, HX0⟩
          case measure => simp [intOf]; omega
        · have HX1 : Hid (BK w (wr.setCell ⟨A, k, none⟩ (.slice (some ⟨B, x, none⟩) m m)) A B n m (k + 1)) := HS.out.put hlt HX.out
          subst hyx
          go_wp2
          go_roundw
          case rel => exact ⟨k + 1, by omega, by go_num, HX1⟩
          case measure => simp [intOf]; omega
      · obtain rfl : k = n := by omega
        go_wp2
        go_ret
        exact ⟨A, B, rfl, HS⟩
end Go.Proofs.Ytjnggbpifclpcab
