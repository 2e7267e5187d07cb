/- A table of noughts: its rows stand in one list. -/
import Derived.Test.YthifemkbemhmnaaBa
namespace Go.Proofs.Ythifemkbemhmnaa
open Go.ChangeShapes Go.WideShapes Go.ChangeAt Go.RowKit Go.Fl Ieee
attribute [local go_sem] run_store_float run_store_complex call69 call32 run_neg fold_eq fold_ne fold_lt fold_gt abs_eq

theorem owns_down {b b' n : Nat} {t : TypeId} {s : Nat} {w : World} {v : Value} {xs : List Value} (h : w.ownsRow b t s v n xs) (hb : b' ≤ b) : w.ownsRow b' t s v n xs := by
  obtain ⟨h1, h2⟩ := h
  refine ⟨h1, ?_⟩
  rcases h2 with h2 | ⟨g, cap, cur, e, k2, k3⟩
  · exact Or.inl h2
  · exact Or.inr ⟨g, cap, cur, e, Nat.le_trans hb k2, k3⟩
theorem owns_far {b g g' n cap : Nat} {t : TypeId} {s : Nat} {w w' : World} {xs : List Value} (h : w.ownsRow b t s (.slice (some ⟨g, 0, none⟩) n cap) n xs) (hb : But g' w w') (hne : g ≠ g') : w'.ownsRow b t s (.slice (some ⟨g, 0, none⟩) n cap) n xs := by
  have hlt := (World.ownsRow.lt h _ rfl).2
  obtain ⟨h1, h2⟩ := h
  refine ⟨h1, ?_⟩
  rcases h2 with h2 | ⟨g0, cap0, cur, e, k2, k3, k4⟩
  · exact Or.inl h2
  · simp only [Value.slice.injEq, Option.some.injEq, Addr.mk.injEq, and_true, true_and] at e
    obtain ⟨rfl, rfl⟩ := e
    refine Or.inr ⟨_, _, cur, rfl, k2, ?_, k4⟩
    rw [hb.block _ hlt (by simpa using hne)]; exact k3
set_option maxRecDepth 20000 in
theorem info27 : (Try.prog.info? 27).map (fun i => (i.zero, i.size, i.bytes)) = some (some (.slice none 0 0), 1, 24) := by kernel_rfl
/-- What a make leaves: a row of rows that have nothing; a row of noughts. -/
def MadeS (n g : Nat) (w w' : World) : Prop := w.heap.size = g ∧ w'.ownsRow g 27 1 (.slice (some ⟨g, 0, none⟩) n n) n (List.replicate n (.slice none 0 0)) ∧ Up w w'
set_option maxRecDepth 20000 in
theorem upon_makeS {o : Oper} {a : Act} {next : Act → World → Prop} {Q : Exit → Act → World → Prop} {n : Nat} {w : World} {F : Value → World → Result Next} (hn : n ≤ 1000000)
    (hk : ∀ g w', Hid (MadeS n g w w') → o.upon Try.prog a next Q (F (.slice (some ⟨g, 0, none⟩) n n) w')) :
    o.upon Try.prog a next Q (((Instr.makeSlice 35 (.int .i64 n) (.int .i64 n)).run Try.prog w).andThen F) := by
  obtain ⟨i0, hi, hz0, hz1, hz2⟩ := info_parts info27
  obtain ⟨w', e, h1, h2⟩ := run_make_full (P := Try.prog) w w.heap.size 35 27 i0 (.slice none 0 0) 1 Try.underlying35 hi hz0 hz1 .i64 .i64 n (by rw [hz2]; omega) (by unfold maxLen; omega) (Nat.le_refl _)
  rw [e]
  refine hk _ _ ⟨rfl, ?_, Below.grown (Below.refl _ _) h2 (Nat.le_refl _) (fun j hj => by cases hj)⟩
  have e : (madeCells (Value.slice none 0 0).cells (n * 1)).toList = List.replicate n (.slice none 0 0) := by
    rw [Nat.mul_one]; exact toList_madeCells_one _ _
  rw [e] at h1
  exact h1
set_option maxRecDepth 20000 in
theorem upon_makeC {o : Oper} {a : Act} {next : Act → World → Prop} {Q : Exit → Act → World → Prop} {n : Nat} {w : World} {F : Value → World → Result Next} (hn : n ≤ 1000000)
    (hk : ∀ g w', Hid (Made n g w w') → o.upon Try.prog a next Q (F (.slice (some ⟨g, 0, none⟩) n n) w')) :
    o.upon Try.prog a next Q (((Instr.makeSlice 27 (.int .i64 n) (.int .i64 n)).run Try.prog w).andThen F) := by
  obtain ⟨i0, hi, hz0, hz1, hz2⟩ := info_parts info41
  obtain ⟨w', e, h1, h2⟩ := run_make_full (P := Try.prog) w w.heap.size 27 28 i0 (.complex .f64 0 0) 1 Try.underlying27 hi hz0 hz1 .i64 .i64 n (by rw [hz2]; omega) (by unfold maxLen; omega) (Nat.le_refl _)
  rw [e]
  exact hk _ _ ⟨rfl, CRow.made rfl h1 h2⟩
/-- A table of one's own: its rows' values at A, all its numbers at B. -/
structure BT (w wr : World) (A B n m : Nat) (d : List (Nat × Nat)) : Prop where
  ne : A ≠ B
  loA : w.heap.size ≤ A
  loB : w.heap.size ≤ B
  ans : TB wr A n (fun i => some ⟨B, i * m, none⟩) (fun _ => m) (fun _ => m)
  all : CRow w.heap.size wr (.slice (some ⟨B, 0, none⟩) (n * m) (n * m)) d
  up : Up w wr
theorem BT.mono {w wr w' : World} {A B n m : Nat} {d : List (Nat × Nat)} (h : BT w wr A B n m d) (hu : Up wr w') : BT w w' A B n m d := ⟨h.ne, h.loA, h.loB, h.ans.up hu, h.all.up hu, h.up.trans hu⟩
theorem TB.far {w w' : World} {R n g : Nat} {P : Nat → Option Addr} {L C : Nat → Nat} (h : TB w R n P L C) (hb : But g w w') (hne : R ≠ g) : TB w' R n P L C := fun i hi => hb.cell hne (h i hi)
theorem BT.put {w wr : World} {A B n m : Nat} {d : List (Nat × Nat)} (h : BT w wr A B n m d) (k r s : Nat) : BT w (wr.setCell ⟨B, k, none⟩ (.complex .f64 r s)) A B n m (d.set k (r, s)) := by
  obtain ⟨h1, h2⟩ := h.all.put k r s
  exact ⟨h.ne, h.loA, h.loB, h.ans.far h2 h.ne, h1, h2.up h.up h.loB⟩
theorem BT.far {w wr w' : World} {A B n m g : Nat} {d : List (Nat × Nat)} (h : BT w wr A B n m d) (hb : But g wr w') (hA : A ≠ g) (hB : B ≠ g) (hg : w.heap.size ≤ g) : BT w w' A B n m d :=
  ⟨h.ne, h.loA, h.loB, h.ans.far hb hA, h.all.far hb hB, hb.up h.up hg⟩
def BL (w : World) (n m : Nat) (e : Ending) (w' : World) : Prop := ∃ A B, e = .returned (.slice (some ⟨A, 0, none⟩) n n) ∧ Hid (BT w w' A B n m (List.replicate (n * m) (0, 0)))
/-- The rows' values, of which k are laid. -/
structure BK (w wr : World) (A B n m k : Nat) : Prop where
  ne : A ≠ B
  loA : w.heap.size ≤ A
  loB : w.heap.size ≤ B
  ans : ∃ l, l.length = n ∧ wr.ownsRow w.heap.size 27 1 (.slice (some ⟨A, 0, none⟩) n n) n l ∧ ∀ i, i < k → l[i]? = some (.slice (some ⟨B, i * m, none⟩) m m)
  all : CRow w.heap.size wr (.slice (some ⟨B, 0, none⟩) (n * m) (n * m)) (List.replicate (n * m) (0, 0))
  up : Up w wr
theorem BK.start {w w3 w4 : World} {A B n m k : Nat} (hB : Made (n * m) B (w.drewN k) w3) (hA : MadeS n A w3 w4) : BK w w4 A B n m 0 := by
  obtain ⟨e1, r1, u1⟩ := hB
  obtain ⟨e2, r2, u2⟩ := hA
  have e1' : w.heap.size = B := e1
  have s2 : B < w3.heap.size := (World.ownsRow.lt r1 _ rfl).2
  exact ⟨by omega, by omega, by omega, ⟨_, by simp, owns_down r2 (by omega), fun i hi => by omega⟩, (r1.up u2).down (by omega), ((Up.drewN w k).trans u1).trans u2⟩
theorem BK.start' {w w3 w4 : World} {A B n m k : Nat} (hA : MadeS n A (w.drewN k) w3) (hB : Made (n * m) B w3 w4) : BK w w4 A B n m 0 := by
  obtain ⟨e1, r1, u1⟩ := hA
  obtain ⟨e2, r2, u2⟩ := hB
  have e1' : w.heap.size = A := e1
  have s2 : A < w3.heap.size := (World.ownsRow.lt r1 _ rfl).2
  exact ⟨by omega, by omega, by omega, ⟨_, by simp, owns_down (owns_up r1 u2) (by omega), fun i hi => by omega⟩, r2.down (by omega), ((Up.drewN w k).trans u1).trans u2⟩
theorem BK.put {w wr : World} {A B n m k x : Nat} (h : BK w wr A B n m k) (hk : k < n) (hx : k * m = x) : BK w (wr.setCell ⟨A, k, none⟩ (.slice (some ⟨B, x, none⟩) m m)) A B n m (k + 1) := by
  obtain ⟨l, hl, h1, h2⟩ := h.ans
  obtain ⟨s1, s2⟩ := World.ownsRow.stored h1 k (.slice (some ⟨B, x, none⟩) m m)
  refine ⟨h.ne, h.loA, h.loB, ⟨_, by simpa using hl, s1, fun i hi => ?_⟩, h.all.far s2 (Ne.symm h.ne), But.up s2 h.up h.loA⟩
  rw [List.getElem?_set]
  by_cases e : k = i
  · subst e; rw [if_pos rfl, if_pos (by omega), hx]
  · rw [if_neg e]; exact h2 i (by omega)
theorem BK.cell {w wr : World} {A B n m k : Nat} (h : BK w wr A B n m k) (i : Nat) (hi : i < n) : ∃ v, wr.cell? ⟨A, i, none⟩ = some v ∧ wr.frozen? ⟨A, i, none⟩ = false := by
  obtain ⟨l, hl, h1, h2⟩ := h.ans
  exact ⟨l[i]'(by omega), by rw [World.ownsRow.cellAt h1 i (by omega), List.getElem?_eq_getElem (by omega)], World.ownsRow.frozenAt h1 i⟩
theorem BK.done {w wr : World} {A B n m : Nat} (h : BK w wr A B n m n) : BT w wr A B n m (List.replicate (n * m) (0, 0)) := by
  obtain ⟨l, hl, h1, h2⟩ := h.ans
  exact ⟨h.ne, h.loA, h.loB, fun i hi => by rw [World.ownsRow.cellAt h1 i (by omega)]; exact h2 i hi, h.all, h.up⟩
set_option maxRecDepth 20000 in
set_option maxHeartbeats 2000000 in
theorem t50 (n m : Nat) (w : World) (hn : n ≤ 16384) (hm : m ≤ 16384) (hnm : n * m ≤ 262144) : Calls Try.prog 50 #[.int .i64 n, .int .i64 m] w (BL w n m) := by
  obtain ⟨K, hK⟩ : ∃ K, n * m = K := ⟨_, rfl⟩
  have hz : (n : Int) * (m : Int) = K := by rw [← hK, Int.natCast_mul]
  have HK : Hid (n * m = K) := hK
  rw [hK] at hnm
  clear hK
  have e4 : IntKind.i64.wrap (K : Int) = K := i64_id (by omega)
  go_enter Try.func50, Try.ntmps50
  go_wp2
  go_region_held3 (fun _ => True) (exact True.intro) (first | ((with_reducible refine upon_makeC (by omega) ?_); intro _ _ _) | ((with_reducible refine upon_makeS (by omega) ?_); intro _ _ _))
  rename_i B wa HB A w1 HA _
  have HS : Hid (BK w w1 A B n m 0) := by have q := HK.out; subst q; exact BK.start (k := 1) HB.out HA.out
  clear HA HB
  rotate_left
  rename_i A wa HA B w1 HB _
  have HS : Hid (BK w w1 A B n m 0) := by have q := HK.out; subst q; exact BK.start' (k := 1) HA.out HB.out
  clear HA HB
  all_goals
    go_wp2
    go_loopw [15] (fun vi wr => ∃ (k : Nat), k ≤ n ∧ vi = .int .i64 k ∧ Hid (BK w wr A B n m k)) (fun vi _ => n - (intOf vi).toNat)
    case atStart => exact ⟨0, by omega, rfl, HS⟩
    case round =>
      clear HS
      obtain ⟨k, hk, rfl, HS⟩ := hrel
      by_cases hlt : k < n
      · have z1 : (k : Int) < (n : Int) := by omega
        have z2 : (0 : Int) ≤ (k : Int) := by omega
        obtain ⟨v1, i1, f1⟩ := HS.out.cell k hlt
        obtain ⟨x, hx⟩ : ∃ x, k * m = x := ⟨_, rfl⟩
        obtain ⟨y, hy⟩ : ∃ y, (k + 1) * m = y := ⟨_, rfl⟩
        have hyx : y = x + m := by rw [← hx, ← hy, Nat.add_mul]; omega
        have hyK : y ≤ K := by rw [← hy, ← HK.out]; exact Nat.mul_le_mul_right _ hlt
        have HX : Hid (k * m = x) := hx
        have q1 : (k : Int) * (m : Int) = x := by rw [← hx, Int.natCast_mul]
        have q2 : ((k : Int) + 1) * (m : Int) = y := by rw [← hy, Int.natCast_mul]; rfl
        clear hx hy
        rcases Nat.eq_zero_or_pos m with rfl | hp
        · have HX0 : Hid (BK w (wr.setCell ⟨A, k, none⟩ (.slice (some ⟨B, 0, none⟩) 0 0)) A B n 0 (k + 1)) := HS.out.put hlt (Nat.mul_zero k)
          obtain rfl : x = 0 := by rw [← HX.out, Nat.mul_zero]
          obtain rfl : y = 0 := by omega
          obtain rfl : K = 0 := by rw [← HK.out, Nat.mul_zero]
          clear hz e4 q1 q2 hyx hyK
          go_wp2
          go_roundw
          case rel => exact ⟨k + 1, by omega, by go_num, HX0⟩
          case measure => simp [intOf]; omega
        · have HX1 : Hid (BK w (wr.setCell ⟨A, k, none⟩ (.slice (some ⟨B, x, none⟩) m m)) A B n m (k + 1)) := HS.out.put hlt HX.out
          subst hyx
          go_wp2
          go_roundw
          case rel => exact ⟨k + 1, by omega, by go_num, HX1⟩
          case measure => simp [intOf]; omega
      · obtain rfl : k = n := by omega
        go_wp2
        go_ret
        exact ⟨A, B, rfl, HS.out.done⟩
end Go.Proofs.Ythifemkbemhmnaa
/- Across. -/
namespace Go.Proofs.Ythifemkbemhmnaa
open Go.ChangeShapes Go.WideShapes Go.ChangeAt Go.RowKit Go.Fl Ieee
attribute [local go_sem] run_store_float run_store_c isSome_set call69 call32 run_neg fold_eq fold_ne fold_lt fold_gt abs_eq

set_option maxRecDepth 20000 in
theorem eg45 (args : Array Value) (w : World) : (callFunc 45 args).run Try.prog w = .ok (.enter 45 args) w := enters Try.func45 (by kernel_rfl) (by kernel_rfl) _ _
theorem eg47 (args : Array Value) (w : World) : (callFunc 47 args).run Try.prog w = .ok (.enter 47 args) w := enters Try.func47 (by kernel_rfl) (by kernel_rfl) _ _
theorem eg46 (args : Array Value) (w : World) : (callFunc 46 args).run Try.prog w = .ok (.enter 46 args) w := enters Try.func46 (by kernel_rfl) (by kernel_rfl) _ _
set_option maxRecDepth 20000 in
theorem eg48 (args : Array Value) (w : World) : (callFunc 48 args).run Try.prog w = .ok (.enter 48 args) w := enters Try.func48 (by kernel_rfl) (by kernel_rfl) _ _
abbrev new2 (w : World) (v : Value) : World := w.alloc (.cells #[.func (.func 45) #[v] #[], .int .i64 5, .func (.func 47) #[v] #[], .int .i64 3] 86)
theorem new_cell (w : World) (cs : Array Value) (t : TypeId) (k : Nat) (v : Value) (h : cs[k]? = some v) : (w.alloc (.cells cs t)).cell? ⟨w.heap.size, k, none⟩ = some v := (World.cell?_alloc_at _ _ _ _ rfl).trans h
set_option maxRecDepth 20000 in
theorem ask2 {w : World} {v : Value} {b0 b1 : Bool} {z : Int} (h0 : ∀ w', Up w w' → Calls Try.prog 45 #[v] w' (BR b0 w')) (h1 : b0 = false → ∀ w', Up w w' → Calls Try.prog 47 #[v] w' (BR b1 w')) (hz : z = if b0 then 5 else if b1 then 3 else 0) :
    Calls Try.prog 44 #[.slice (some ⟨w.heap.size, 0, none⟩) 2 2] (new2 w v) (EU z (new2 w v)) := by
  have hQ : ∀ i, i < 2 → (new2 w v).cell? ⟨w.heap.size, i * 2, none⟩ = some (.func (.func ([45, 47][i]!)) (([#[v], #[v]] : List (Array Value))[i]!) (([#[], #[]] : List (Array Value))[i]!)) ∧ (new2 w v).cell? ⟨w.heap.size, i * 2 + 1, none⟩ = some (.int .i64 (([5, 3] : List Int)[i]!)) := by
    intro i hi
    obtain rfl | rfl : i = 0 ∨ i = 1 := by omega
    · exact ⟨new_cell _ _ _ _ _ rfl, new_cell _ _ _ _ _ rfl⟩
    · exact ⟨new_cell _ _ _ _ _ rfl, new_cell _ _ _ _ _ rfl⟩
  have eg : ∀ i, i < 2 → ∀ args w, (callFunc ([45, 47][i]!) args).run Try.prog w = .ok (.enter ([45, 47][i]!) args) w := by
    intro i hi
    obtain rfl | rfl : i = 0 ∨ i = 1 := by omega
    · exact eg45
    · exact eg47
  have hu : Up w (new2 w v) := Up.alloc _ _
  subst hz
  cases b0
  · cases b1
    · refine t44 w.heap.size 2 2 2 _ _ _ _ (fun _ => false) 0 _ (by omega) hQ eg (fun i hi _ w' h => ?_) (fun _ _ => rfl) (Or.inr ⟨rfl, rfl⟩)
      obtain rfl | rfl : i = 0 ∨ i = 1 := by omega
      · exact h0 w' (hu.trans h)
      · exact h1 rfl w' (hu.trans h)
    · refine t44 w.heap.size 2 2 1 _ _ _ _ (fun i => decide (i = 1)) 3 _ (by omega) hQ eg (fun i hi _ w' h => ?_) (fun i hi => by simp; omega) (Or.inl ⟨by omega, rfl, rfl⟩)
      obtain rfl | rfl : i = 0 ∨ i = 1 := by omega
      · exact h0 w' (hu.trans h)
      · exact h1 rfl w' (hu.trans h)
  · refine t44 w.heap.size 2 2 0 _ _ _ _ (fun i => decide (i = 0)) 5 _ (by omega) hQ eg (fun i hi _ w' h => ?_) (fun i hi => by omega) (Or.inl ⟨by omega, rfl, rfl⟩)
    obtain rfl : i = 0 := by omega
    exact h0 w' (hu.trans h)
/-- What a call leaves that tells an error: nothing. -/
def ER (z : Int) (w : World) (e : Ending) (w' : World) : Prop := e = .returned (.tuple #[.slice none 0 0, .int .i64 z]) ∧ Hid (Up w w')
/-- A table that is handed in: n rows of m numbers; where each row begins, its room, and what it holds. -/
structure TI (w : World) (R n m : Nat) (P : Nat → Option Addr) (C G O : Nat → Nat) (f : Nat → Nat → Nat × Nat) : Prop where
  tb : TB w R n P (fun _ => m) C
  rd : ∀ i, i < n → 0 < m → P i = some ⟨G i, O i, none⟩ ∧ RD w (G i) (O i) m (f i)
  room : ∀ i, i < n → m ≤ C i
theorem TI.up {w w' : World} {R n m : Nat} {P : Nat → Option Addr} {C G O : Nat → Nat} {f : Nat → Nat → Nat × Nat} (h : TI w R n m P C G O f) (hu : Up w w') : TI w' R n m P C G O f :=
  ⟨h.tb.up hu, fun i hi hm => ⟨(h.rd i hi hm).1, (h.rd i hi hm).2.up hu⟩, h.room⟩
theorem TI.tv {w : World} {R n m c : Nat} {P : Nat → Option Addr} {C G O : Nat → Nat} {f : Nat → Nat → Nat × Nat} (h : TI w R n m P C G O f) (hp : 0 < n) : TV w (.slice (some ⟨R, 0, none⟩) n c) n m := h.tb.tv hp
theorem TI.cell {w : World} {R n m : Nat} {P : Nat → Option Addr} {C G O : Nat → Nat} {f : Nat → Nat → Nat × Nat} (h : TI w R n m P C G O f) {p g : Nat} (hp : p < n) (hg : g < m) : w.cell? ⟨R, p, none⟩ = some (.slice (some ⟨G p, O p, none⟩) m (C p)) ∧ w.cell? ⟨G p, O p + g, none⟩ = some (.complex .f64 (f p g).1 (f p g).2) := by
  obtain ⟨h1, h2⟩ := h.rd p hp (by omega)
  have := h.tb p hp
  rw [h1] at this
  exact ⟨this, h2 g hg⟩
/-- What a call leaves that hands back a table of its own. -/
def OKT (w : World) (n m : Nat) (F : Nat → Nat → Option Nat × Option Nat) (e : Ending) (w' : World) : Prop :=
  ∃ A B d, e = .returned (.tuple #[.slice (some ⟨A, 0, none⟩) n n, .int .i64 0]) ∧ Hid (BT w w' A B n m d) ∧ Hid (∀ k, k < n → ∀ g, g < m → ab2 d[k * m + g]! = F k g)
theorem idx_inj {a b c d n : Nat} (h : a * n + b = c * n + d) (hb : b < n) (hd : d < n) : a = c ∧ b = d := by
  rcases Nat.lt_trichotomy a c with e | e | e
  · have := Nat.mul_le_mul_right n e
    rw [Nat.succ_mul] at this
    omega
  · subst e; exact ⟨rfl, by omega⟩
  · have := Nat.mul_le_mul_right n e
    rw [Nat.succ_mul] at this
    omega
theorem idx_lt {a b n m : Nat} (ha : a < m) (hb : b < n) : a * n + b < m * n := by
  have := Nat.mul_le_mul_right n ha
  rw [Nat.succ_mul] at this
  omega
theorem BT.rows {w wr : World} {A B n m : Nat} {d : List (Nat × Nat)} (h : BT w wr A B n m d) {k g x : Nat} (hk : k < n) (hg : g < m) (hx : k * m = x) : wr.cell? ⟨A, k, none⟩ = some (.slice (some ⟨B, x, none⟩) m m) ∧ (wr.cell? ⟨B, x + g, none⟩).isSome = true ∧ wr.frozen? ⟨B, x + g, none⟩ = false := by
  subst hx
  refine ⟨h.ans k hk, ?_, h.all.frz _⟩
  rw [h.all.cell (by rw [h.all.len]; exact idx_lt hk hg)]; rfl
theorem BT.base {w0 w wr : World} {A B n m : Nat} {d : List (Nat × Nat)} (h : BT w wr A B n m d) (hu : Up w0 w) : BT w0 wr A B n m d :=
  ⟨h.ne, Nat.le_trans hu.size h.loA, Nat.le_trans hu.size h.loB, h.ans, h.all.down hu.size, hu.trans h.up⟩
end Go.Proofs.Ythifemkbemhmnaa
/- Four questions; Doppler where it tells an error. -/
namespace Go.Proofs.Ythifemkbemhmnaa
open Go.ChangeShapes Go.WideShapes Go.ChangeAt Go.RowKit Go.Fl Ieee
attribute [local go_sem] run_store_float run_store_complex call69 call32 run_neg fold_eq fold_ne fold_lt fold_gt abs_eq

abbrev new4 (w : World) (g0 g1 g2 g3 : FuncId) (a0 c0 a1 c1 a2 c2 a3 c3 : Array Value) (k0 k1 k2 k3 : Int) : World := w.alloc (.cells #[.func (.func g0) a0 c0, .int .i64 k0, .func (.func g1) a1 c1, .int .i64 k1, .func (.func g2) a2 c2, .int .i64 k2, .func (.func g3) a3 c3, .int .i64 k3] 86)
set_option maxRecDepth 20000 in
theorem ask4 {w : World} {g0 g1 g2 g3 : FuncId} {a0 c0 a1 c1 a2 c2 a3 c3 : Array Value} {k0 k1 k2 k3 : Int} {b0 b1 b2 b3 : Bool} {z : Int}
    (e0 : ∀ args w, (callFunc g0 args).run Try.prog w = .ok (.enter g0 args) w) (e1 : ∀ args w, (callFunc g1 args).run Try.prog w = .ok (.enter g1 args) w) (e2 : ∀ args w, (callFunc g2 args).run Try.prog w = .ok (.enter g2 args) w) (e3 : ∀ args w, (callFunc g3 args).run Try.prog w = .ok (.enter g3 args) w)
    (h0 : ∀ w', Up w w' → Calls Try.prog g0 (a0 ++ c0) w' (BR b0 w')) (h1 : b0 = false → ∀ w', Up w w' → Calls Try.prog g1 (a1 ++ c1) w' (BR b1 w')) (h2 : b0 = false → b1 = false → ∀ w', Up w w' → Calls Try.prog g2 (a2 ++ c2) w' (BR b2 w')) (h3 : b0 = false → b1 = false → b2 = false → ∀ w', Up w w' → Calls Try.prog g3 (a3 ++ c3) w' (BR b3 w'))
    (hz : z = if b0 then k0 else if b1 then k1 else if b2 then k2 else if b3 then k3 else 0) :
    Calls Try.prog 44 #[.slice (some ⟨w.heap.size, 0, none⟩) 4 4] (new4 w g0 g1 g2 g3 a0 c0 a1 c1 a2 c2 a3 c3 k0 k1 k2 k3) (EU z (new4 w g0 g1 g2 g3 a0 c0 a1 c1 a2 c2 a3 c3 k0 k1 k2 k3)) := by
  have hQ : ∀ i, i < 4 → (new4 w g0 g1 g2 g3 a0 c0 a1 c1 a2 c2 a3 c3 k0 k1 k2 k3).cell? ⟨w.heap.size, i * 2, none⟩ = some (.func (.func ([g0, g1, g2, g3][i]!)) ([a0, a1, a2, a3][i]!) ([c0, c1, c2, c3][i]!)) ∧ (new4 w g0 g1 g2 g3 a0 c0 a1 c1 a2 c2 a3 c3 k0 k1 k2 k3).cell? ⟨w.heap.size, i * 2 + 1, none⟩ = some (.int .i64 ([k0, k1, k2, k3][i]!)) := by
    intro i hi
    obtain rfl | rfl | rfl | rfl : i = 0 ∨ i = 1 ∨ i = 2 ∨ i = 3 := by omega
    all_goals exact ⟨new_cell _ _ _ _ _ rfl, new_cell _ _ _ _ _ rfl⟩
  have eg : ∀ i, i < 4 → ∀ args w, (callFunc ([g0, g1, g2, g3][i]!) args).run Try.prog w = .ok (.enter ([g0, g1, g2, g3][i]!) args) w := by
    intro i hi
    obtain rfl | rfl | rfl | rfl : i = 0 ∨ i = 1 ∨ i = 2 ∨ i = 3 := by omega
    · exact e0
    · exact e1
    · exact e2
    · exact e3
  have hu : Up w (new4 w g0 g1 g2 g3 a0 c0 a1 c1 a2 c2 a3 c3 k0 k1 k2 k3) := Up.alloc _ _
  subst hz
  cases b0
  · cases b1
    · cases b2
      · cases b3
        · refine t44 w.heap.size 4 4 4 _ _ _ _ (fun _ => false) 0 _ (by omega) hQ eg (fun i hi _ w' h => ?_) (fun _ _ => rfl) (Or.inr ⟨rfl, rfl⟩)
          obtain rfl | rfl | rfl | rfl : i = 0 ∨ i = 1 ∨ i = 2 ∨ i = 3 := by omega
          · exact h0 w' (hu.trans h)
          · exact h1 rfl w' (hu.trans h)
          · exact h2 rfl rfl w' (hu.trans h)
          · exact h3 rfl rfl rfl w' (hu.trans h)
        · refine t44 w.heap.size 4 4 3 _ _ _ _ (fun i => decide (i = 3)) k3 _ (by omega) hQ eg (fun i hi _ w' h => ?_) (fun i hi => by simp; omega) (Or.inl ⟨by omega, rfl, rfl⟩)
          obtain rfl | rfl | rfl | rfl : i = 0 ∨ i = 1 ∨ i = 2 ∨ i = 3 := by omega
          · exact h0 w' (hu.trans h)
          · exact h1 rfl w' (hu.trans h)
          · exact h2 rfl rfl w' (hu.trans h)
          · exact h3 rfl rfl rfl w' (hu.trans h)
      · refine t44 w.heap.size 4 4 2 _ _ _ _ (fun i => decide (i = 2)) k2 _ (by omega) hQ eg (fun i hi _ w' h => ?_) (fun i hi => by simp; omega) (Or.inl ⟨by omega, rfl, rfl⟩)
        obtain rfl | rfl | rfl : i = 0 ∨ i = 1 ∨ i = 2 := by omega
        · exact h0 w' (hu.trans h)
        · exact h1 rfl w' (hu.trans h)
        · exact h2 rfl rfl w' (hu.trans h)
    · refine t44 w.heap.size 4 4 1 _ _ _ _ (fun i => decide (i = 1)) k1 _ (by omega) hQ eg (fun i hi _ w' h => ?_) (fun i hi => by simp; omega) (Or.inl ⟨by omega, rfl, rfl⟩)
      obtain rfl | rfl : i = 0 ∨ i = 1 := by omega
      · exact h0 w' (hu.trans h)
      · exact h1 rfl w' (hu.trans h)
  · refine t44 w.heap.size 4 4 0 _ _ _ _ (fun i => decide (i = 0)) k0 _ (by omega) hQ eg (fun i hi _ w' h => ?_) (fun i hi => by omega) (Or.inl ⟨by omega, rfl, rfl⟩)
    obtain rfl : i = 0 := by omega
    exact h0 w' (hu.trans h)
/-- The memory that Doppler and Compress have of their own ahead of their questions. -/
abbrev boxD (w : World) (v x : Value) (n : Int) : World := ((w.alloc (.cells #[x] 109)).alloc (.cells #[v] 83)).alloc (.cells #[.int .i64 n] 3)
abbrev askDw (w : World) (v x : Value) (n : Int) : World := new4 (boxD w v x n) 9 10 11 12 #[v] #[] #[] #[.pointer (some ⟨w.heap.size, 0, none⟩), .pointer (some ⟨w.heap.size + 1 + 1, 0, none⟩)] #[v] #[] #[] #[.pointer (some ⟨w.heap.size + 1, 0, none⟩), .pointer (some ⟨w.heap.size + 1 + 1, 0, none⟩)] 5 5 3 3
theorem size_one (w : World) (o : Obj) : (w.alloc o).heap.size = w.heap.size + 1 := by simp
theorem boxD_cells (w : World) (v x : Value) (n : Int) : (boxD w v x n).cell? ⟨w.heap.size, 0, none⟩ = some x ∧ (boxD w v x n).cell? ⟨w.heap.size + 1, 0, none⟩ = some v ∧ (boxD w v x n).cell? ⟨w.heap.size + 1 + 1, 0, none⟩ = some (.int .i64 n) ∧ Up w (boxD w v x n) := by
  have s1 := size_one w (.cells #[x] 109)
  have s2 := size_one (w.alloc (.cells #[x] 109)) (.cells #[v] 83)
  have c1 := new_cell w #[x] 109 0 x rfl
  have c2 := new_cell (w.alloc (.cells #[x] 109)) #[v] 83 0 v rfl
  have c3 := new_cell ((w.alloc (.cells #[x] 109)).alloc (.cells #[v] 83)) #[.int .i64 n] 3 0 _ rfl
  rw [s1] at c2 s2
  rw [s2] at c3
  exact ⟨cell_up c1 ((Up.alloc _ _).trans (Up.alloc _ _)), cell_up c2 (Up.alloc _ _), c3, ((Up.alloc _ _).trans (Up.alloc _ _)).trans (Up.alloc _ _)⟩
abbrev boxC (w : World) (v : Value) (n : Int) : World := (w.alloc (.cells #[v] 83)).alloc (.cells #[.int .i64 n] 3)
abbrev askCw (w : World) (v : Value) (n : Int) : World := new4 (boxC w v n) 45 46 47 48 #[v] #[] #[] #[.pointer (some ⟨w.heap.size + 1, 0, none⟩)] #[v] #[] #[] #[.pointer (some ⟨w.heap.size + 1, 0, none⟩), .pointer (some ⟨w.heap.size, 0, none⟩)] 5 2 3 3
theorem boxC_cells (w : World) (v : Value) (n : Int) : (boxC w v n).cell? ⟨w.heap.size, 0, none⟩ = some v ∧ (boxC w v n).cell? ⟨w.heap.size + 1, 0, none⟩ = some (.int .i64 n) ∧ Up w (boxC w v n) := by
  have s1 := size_one w (.cells #[v] 83)
  have c1 := new_cell w #[v] 83 0 v rfl
  have c2 := new_cell (w.alloc (.cells #[v] 83)) #[.int .i64 n] 3 0 _ rfl
  rw [s1] at c2
  exact ⟨cell_up c1 (Up.alloc _ _), c2, (Up.alloc _ _).trans (Up.alloc _ _)⟩
set_option maxRecDepth 20000 in
theorem askC {w : World} {p : Option Addr} {n c x : Nat} {b0 b1 b2 b3 : Bool} {z : Int} (h0 : ∀ w', Up w w' → Calls Try.prog 45 #[.slice p n c] w' (BR b0 w')) (h1 : decide (x = 0) = b1) (h2 : b0 = false → b1 = false → ∀ w', Up w w' → Calls Try.prog 47 #[.slice p n c] w' (BR b2 w'))
    (h3 : b0 = false → b1 = false → b2 = false → ∃ m, TV w (.slice p n c) n m ∧ n ≤ 256 ∧ m ≤ 16384 ∧ (16384 < x ∧ b3 = true ∨ x ≤ 16384 ∧ decide (16777216 < n * m * x) = b3)) (hz : z = if b0 then 5 else if b1 then 2 else if b2 then 3 else if b3 then 3 else 0) :
    Calls Try.prog 44 #[.slice (some ⟨w.heap.size + 1 + 1, 0, none⟩) 4 4] (askCw w (.slice p n c) x) (EU z (askCw w (.slice p n c) x)) := by
  obtain ⟨c1, c2, hu⟩ := boxC_cells w (.slice p n c) x
  have e : w.heap.size + 1 + 1 = (boxC w (.slice p n c) x).heap.size := by simp
  rw [e]
  refine ask4 (b0 := b0) (b1 := b1) (b2 := b2) (b3 := b3) eg45 eg46 eg47 eg48 (fun w' h => h0 w' (hu.trans h)) (fun _ w' h => ?_) (fun q0 q1 w' h => h2 q0 q1 w' (hu.trans h)) (fun q0 q1 q2 w' h => ?_) hz
  · exact t46 _ x b1 w' (cell_up c2 h) h1
  · obtain ⟨m, k1, k2, k3, k4⟩ := h3 q0 q1 q2
    rcases k4 with ⟨k4, rfl⟩ | ⟨k4, k5⟩
    · exact t48a _ _ x w' (cell_up c2 h) k4
    · exact t48 _ _ x n m _ b3 w' (cell_up c2 h) (cell_up c1 h) (k1.up (hu.trans h)) k2 k3 k4 k5
set_option maxRecDepth 20000 in
theorem t21e {w : World} {p q : Option Addr} {n c x y : Nat} {b0 b1 b2 b3 : Bool} {z : Int} (h0 : ∀ w', Up w w' → Calls Try.prog 45 #[.slice p n c] w' (BR b0 w')) (h1 : decide (x = 0) = b1) (h2 : b0 = false → b1 = false → ∀ w', Up w w' → Calls Try.prog 47 #[.slice p n c] w' (BR b2 w'))
    (h3 : b0 = false → b1 = false → b2 = false → ∃ m, TV w (.slice p n c) n m ∧ n ≤ 256 ∧ m ≤ 16384 ∧ (16384 < x ∧ b3 = true ∨ x ≤ 16384 ∧ decide (16777216 < n * m * x) = b3)) (hz : z = if b0 then 5 else if b1 then 2 else if b2 then 3 else if b3 then 3 else 0) (hne : (z != 0) = true) :
    Calls Try.prog 21 #[.slice p n c, .slice q x y] w (ER z w) := by
  have HA : Hid (Calls Try.prog 44 #[.slice (some ⟨w.heap.size + 1 + 1, 0, none⟩) 4 4] (askCw w (.slice p n c) x) (EU z (askCw w (.slice p n c) x))) := askC h0 h1 h2 h3 hz
  clear h0 h1 h2 h3 hz
  go_enter Try.func21, Try.ntmps21
  go_wp2_with (go_at_call 44; (with_reducible refine HA.out.mono ?_); rintro e w' ⟨rfl, HU⟩)
  go_ret2
  exact ⟨rfl, ((boxC_cells w (.slice p n c) x).2.2.trans (Up.alloc _ _)).trans HU.out⟩
set_option maxRecDepth 20000 in
/-- A number times a float. -/
theorem t61 (a b c : Nat) (w : World) : Calls Try.prog 61 #[.complex .f64 a b, .float .f64 c] w (DR w (bin .mul (ab a) (ab c)) (bin .mul (ab b) (ab c))) := by
  go_enter Try.func61, Try.ntmps61
  go_wp2_with ((with_reducible refine upon_fl (by simp) ?_); intro r n hr)
  go_ret
  refine DR.mkN ?_ ?_ <;> simp_all [Hid]
end Go.Proofs.Ythifemkbemhmnaa
