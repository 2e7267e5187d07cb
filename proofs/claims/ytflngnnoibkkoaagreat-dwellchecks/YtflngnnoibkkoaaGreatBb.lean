/- The first thing that is wrong. -/
import Derived.Test.YtflngnnoibkkoaaGreatZ
namespace Go.Proofs.YtflngnnoibkkoaaGreat
open Go.ChangeShapes Go.WideShapes Go.ChangeAt Go.RowKit Go.Fl Ieee
set_option maxRecDepth 200000
set_option maxHeartbeats 8000000
attribute [local go_sem] run_store_float run_store_complex call34 call33 run_neg fold_eq fold_ne fold_lt fold_gt abs_eq

theorem run_store_fn {P : Program} (w : World) (a : Addr) (m : Mode) (fn : Fn) (x y : Array Value) : (store a (.func fn x y) m).run P w = stored P w a (.func fn x y) m := run_store P w a _ m rfl
attribute [local go_sem] run_store_fn
/-- What a call leaves that answers a code. -/
def EU (z : Int) (w : World) (e : Ending) (w' : World) : Prop := e = .returned (.int .i64 z) ∧ Hid (Up w w')
set_option maxHeartbeats 2000000 in
/-- firstWrong: n questions, of which k are answered no. -/
theorem t95 (Q n c k : Nat) (G : Nat → FuncId) (A B : Nat → Array Value) (code : Nat → Int) (b : Nat → Bool) (z : Int) (w : World) (hn : n ≤ 100)
    (hQ : ∀ i, i < n → w.cell? ⟨Q, i * 2, none⟩ = some (.func (.func (G i)) (A i) (B i)) ∧ w.cell? ⟨Q, i * 2 + 1, none⟩ = some (.int .i64 (code i)))
    (eg : ∀ i, i < n → ∀ args w, (callFunc (G i) args).run Tryz.prog w = .ok (.enter (G i) args) w)
    (hat : ∀ i, i < n → i ≤ k → ∀ w', Up w w' → Calls Tryz.prog (G i) (A i ++ B i) w' (BR (b i) w'))
    (hk : ∀ i, i < k → b i = false) (hz : k < n ∧ b k = true ∧ code k = z ∨ k = n ∧ z = 0) :
    Calls Tryz.prog 95 #[.slice (some ⟨Q, 0, none⟩) n c] w (EU z w) := by
  have HQ : Hid (∀ i, i < n → w.cell? ⟨Q, i * 2, none⟩ = some (.func (.func (G i)) (A i) (B i)) ∧ w.cell? ⟨Q, i * 2 + 1, none⟩ = some (.int .i64 (code i))) := hQ
  have HE : Hid (∀ i, i < n → ∀ args w, (callFunc (G i) args).run Tryz.prog w = .ok (.enter (G i) args) w) := eg
  have HA : Hid (∀ i, i < n → i ≤ k → ∀ w', Up w w' → Calls Tryz.prog (G i) (A i ++ B i) w' (BR (b i) w')) := hat
  have HK : Hid (∀ i, i < k → b i = false) := hk
  have HZ : Hid (k < n ∧ b k = true ∧ code k = z ∨ k = n ∧ z = 0) := hz
  have hkn : k ≤ n := by omega
  clear hQ eg hat hk hz
  go_enter Tryz.func95, Tryz.ntmps95
  go_wp2
  go_loopw [4, 7] (fun _ vi wr => ∃ i : Nat, i ≤ k ∧ vi = .int .i64 i ∧ Hid (Up w wr)) (fun _ vi _ => n - (intOf vi).toNat)
  case atStart => exact ⟨0, by omega, rfl, Up.refl _⟩
  case round =>
    obtain ⟨i, hi, rfl, HU⟩ := hrel
    by_cases hlt : i < n
    · have z1 : (i : Int) < (n : Int) := by omega
      have z2 : (0 : Int) ≤ (i : Int) := by omega
      obtain ⟨g, hg⟩ : ∃ g, G i = g := ⟨_, rfl⟩
      obtain ⟨x, hx⟩ : ∃ x, A i = x := ⟨_, rfl⟩
      obtain ⟨y, hy⟩ : ∃ y, B i = y := ⟨_, rfl⟩
      have c1 := cell_up (HQ.out i hlt).1 HU.out
      have c2 := cell_up (HQ.out i hlt).2 HU.out
      have e1 := HE.out i hlt
      rw [hg, hx, hy] at c1
      rw [hg] at e1
      have HC : Hid (Calls Tryz.prog g (x ++ y) (wr.alloc (.cells #[.func (.func g) x y, .int .i64 (code i)] 130)) (BR (b i) (wr.alloc (.cells #[.func (.func g) x y, .int .i64 (code i)] 130)))) := by
        have := HA.out i hlt hi _ (HU.out.trans (Up.alloc wr (.cells #[.func (.func g) x y, .int .i64 (code i)] 130)))
        rw [hg, hx, hy] at this; exact this
      obtain ⟨bi, hbi⟩ : ∃ bi, b i = bi := ⟨_, rfl⟩
      rw [hbi] at HC
      obtain ⟨ci, hci⟩ : ∃ ci, code i = ci := ⟨_, rfl⟩
      rw [hci] at HC c2
      have HCi : Hid (code i = ci) := hci
      have HBi : Hid (b i = bi) := hbi
      clear hci hbi hg hx hy
      by_cases hik : i < k
      · obtain rfl : bi = false := by rw [← HBi.out]; exact HK.out i hik
        go_wp2_with fail
        (with_reducible refine HC.out.mono ?_)
        rintro e w' ⟨rfl, rfl⟩
        go_wp2
        go_roundw
        case rel => exact ⟨i + 1, by omega, by go_num, HU.out.trans (Up.alloc _ _)⟩
        case measure => simp [intOf]; omega
      · obtain rfl : i = k := by omega
        obtain ⟨rfl, rfl⟩ : bi = true ∧ ci = z := by
          rcases HZ.out with ⟨_, q, r⟩ | ⟨q, r⟩
          · exact ⟨HBi.out ▸ q, HCi.out ▸ r⟩
          · omega
        go_wp2_with fail
        (with_reducible refine HC.out.mono ?_)
        rintro e w' ⟨rfl, rfl⟩
        go_wp2
        go_ret
        exact ⟨rfl, HU.out.trans (Up.alloc _ _)⟩
    · obtain rfl : i = n := by omega
      obtain rfl : z = 0 := by
        rcases HZ.out with ⟨q, _⟩ | ⟨_, r⟩
        · omega
        · exact r
      go_wp2
      go_ret
      exact ⟨rfl, HU⟩
end Go.Proofs.YtflngnnoibkkoaaGreat
/- A table of noughts: its rows stand in one list. -/
namespace Go.Proofs.YtflngnnoibkkoaaGreat
open Go.ChangeShapes Go.WideShapes Go.ChangeAt Go.RowKit Go.Fl Ieee
set_option maxRecDepth 200000
set_option maxHeartbeats 8000000
attribute [local go_sem] run_store_float run_store_complex call34 call33 run_neg fold_eq fold_ne fold_lt fold_gt abs_eq

theorem owns_down {b b' n : Nat} {t : TypeId} {s : Nat} {w : World} {v : Value} {xs : List Value} (h : w.ownsRow b t s v n xs) (hb : b' ≤ b) : w.ownsRow b' t s v n xs := by
  obtain ⟨h1, h2⟩ := h
  refine ⟨h1, ?_⟩
  rcases h2 with h2 | ⟨g, cap, cur, e, k2, k3⟩
  · exact Or.inl h2
  · exact Or.inr ⟨g, cap, cur, e, Nat.le_trans hb k2, k3⟩
theorem owns_far {b g g' n cap : Nat} {t : TypeId} {s : Nat} {w w' : World} {xs : List Value} (h : w.ownsRow b t s (.slice (some ⟨g, 0, none⟩) n cap) n xs) (hb : But g' w w') (hne : g ≠ g') : w'.ownsRow b t s (.slice (some ⟨g, 0, none⟩) n cap) n xs := by
  have hlt := (World.ownsRow.lt h _ rfl).2
  obtain ⟨h1, h2⟩ := h
  refine ⟨h1, ?_⟩
  rcases h2 with h2 | ⟨g0, cap0, cur, e, k2, k3, k4⟩
  · exact Or.inl h2
  · simp only [Value.slice.injEq, Option.some.injEq, Addr.mk.injEq, and_true, true_and] at e
    obtain ⟨rfl, rfl⟩ := e
    refine Or.inr ⟨_, _, cur, rfl, k2, ?_, k4⟩
    rw [hb.block _ hlt (by simpa using hne)]; exact k3
theorem info27 : (Tryz.prog.info? 34).map (fun i => (i.zero, i.size, i.bytes)) = some (some (.slice none 0 0), 1, 24) := by kernel_rfl
/-- What a make leaves: a row of rows that have nothing; a row of noughts. -/
def MadeS (n g : Nat) (w w' : World) : Prop := w.heap.size = g ∧ w'.ownsRow g 34 1 (.slice (some ⟨g, 0, none⟩) n n) n (List.replicate n (.slice none 0 0)) ∧ Up w w'
theorem upon_makeS {o : Oper} {a : Act} {next : Act → World → Prop} {Q : Exit → Act → World → Prop} {n : Nat} {w : World} {F : Value → World → Result Next} (hn : n ≤ 1000000)
    (hk : ∀ g w', Hid (MadeS n g w w') → o.upon Tryz.prog a next Q (F (.slice (some ⟨g, 0, none⟩) n n) w')) :
    o.upon Tryz.prog a next Q (((Instr.makeSlice 37 (.int .i64 n) (.int .i64 n)).run Tryz.prog w).andThen F) := by
  obtain ⟨i0, hi, hz0, hz1, hz2⟩ := info_parts info27
  obtain ⟨w', e, h1, h2⟩ := run_make_full (P := Tryz.prog) w w.heap.size 37 34 i0 (.slice none 0 0) 1 Tryz.underlying37 hi hz0 hz1 .i64 .i64 n (by rw [hz2]; omega) (by unfold maxLen; omega) (Nat.le_refl _)
  rw [e]
  refine hk _ _ ⟨rfl, ?_, Below.grown (Below.refl _ _) h2 (Nat.le_refl _) (fun j hj => by cases hj)⟩
  have e : (madeCells (Value.slice none 0 0).cells (n * 1)).toList = List.replicate n (.slice none 0 0) := by
    rw [Nat.mul_one]; exact toList_madeCells_one _ _
  rw [e] at h1
  exact h1
theorem upon_makeC {o : Oper} {a : Act} {next : Act → World → Prop} {Q : Exit → Act → World → Prop} {n : Nat} {w : World} {F : Value → World → Result Next} (hn : n ≤ 1000000)
    (hk : ∀ g w', Hid (Made n g w w') → o.upon Tryz.prog a next Q (F (.slice (some ⟨g, 0, none⟩) n n) w')) :
    o.upon Tryz.prog a next Q (((Instr.makeSlice 34 (.int .i64 n) (.int .i64 n)).run Tryz.prog w).andThen F) := by
  obtain ⟨i0, hi, hz0, hz1, hz2⟩ := info_parts info41
  obtain ⟨w', e, h1, h2⟩ := run_make_full (P := Tryz.prog) w w.heap.size 34 65 i0 (.complex .f64 0 0) 1 Tryz.underlying34 hi hz0 hz1 .i64 .i64 n (by rw [hz2]; omega) (by unfold maxLen; omega) (Nat.le_refl _)
  rw [e]
  exact hk _ _ ⟨rfl, CRow.made rfl h1 h2⟩
/-- A table of one's own: its rows' values at A, all its numbers at B. -/
structure BT (w wr : World) (A B n m : Nat) (d : List (Nat × Nat)) : Prop where
  ne : A ≠ B
  loA : w.heap.size ≤ A
  loB : w.heap.size ≤ B
  ans : TB wr A n (fun i => some ⟨B, i * m, none⟩) (fun _ => m) (fun _ => m)
  all : CRow w.heap.size wr (.slice (some ⟨B, 0, none⟩) (n * m) (n * m)) d
  up : Up w wr
theorem BT.mono {w wr w' : World} {A B n m : Nat} {d : List (Nat × Nat)} (h : BT w wr A B n m d) (hu : Up wr w') : BT w w' A B n m d := ⟨h.ne, h.loA, h.loB, h.ans.up hu, h.all.up hu, h.up.trans hu⟩
theorem TB.far {w w' : World} {R n g : Nat} {P : Nat → Option Addr} {L C : Nat → Nat} (h : TB w R n P L C) (hb : But g w w') (hne : R ≠ g) : TB w' R n P L C := fun i hi => hb.cell hne (h i hi)
theorem BT.put {w wr : World} {A B n m : Nat} {d : List (Nat × Nat)} (h : BT w wr A B n m d) (k r s : Nat) : BT w (wr.setCell ⟨B, k, none⟩ (.complex .f64 r s)) A B n m (d.set k (r, s)) := by
  obtain ⟨h1, h2⟩ := h.all.put k r s
  exact ⟨h.ne, h.loA, h.loB, h.ans.far h2 h.ne, h1, h2.up h.up h.loB⟩
theorem BT.far {w wr w' : World} {A B n m g : Nat} {d : List (Nat × Nat)} (h : BT w wr A B n m d) (hb : But g wr w') (hA : A ≠ g) (hB : B ≠ g) (hg : w.heap.size ≤ g) : BT w w' A B n m d :=
  ⟨h.ne, h.loA, h.loB, h.ans.far hb hA, h.all.far hb hB, hb.up h.up hg⟩
def BL (w : World) (n m : Nat) (e : Ending) (w' : World) : Prop := ∃ A B, e = .returned (.slice (some ⟨A, 0, none⟩) n n) ∧ Hid (BT w w' A B n m (List.replicate (n * m) (0, 0)))
/-- The rows' values, of which k are laid. -/
structure BK (w wr : World) (A B n m k : Nat) : Prop where
  ne : A ≠ B
  loA : w.heap.size ≤ A
  loB : w.heap.size ≤ B
  ans : ∃ l, l.length = n ∧ wr.ownsRow w.heap.size 34 1 (.slice (some ⟨A, 0, none⟩) n n) n l ∧ ∀ i, i < k → l[i]? = some (.slice (some ⟨B, i * m, none⟩) m m)
  all : CRow w.heap.size wr (.slice (some ⟨B, 0, none⟩) (n * m) (n * m)) (List.replicate (n * m) (0, 0))
  up : Up w wr
theorem BK.start {w w3 w4 : World} {A B n m k : Nat} (hB : Made (n * m) B (w.drewN k) w3) (hA : MadeS n A w3 w4) : BK w w4 A B n m 0 := by
  obtain ⟨e1, r1, u1⟩ := hB
  obtain ⟨e2, r2, u2⟩ := hA
  have e1' : w.heap.size = B := e1
  have s2 : B < w3.heap.size := (World.ownsRow.lt r1 _ rfl).2
  exact ⟨by omega, by omega, by omega, ⟨_, by simp, owns_down r2 (by omega), fun i hi => by omega⟩, (r1.up u2).down (by omega), ((Up.drewN w k).trans u1).trans u2⟩
theorem BK.start' {w w3 w4 : World} {A B n m k : Nat} (hA : MadeS n A (w.drewN k) w3) (hB : Made (n * m) B w3 w4) : BK w w4 A B n m 0 := by
  obtain ⟨e1, r1, u1⟩ := hA
  obtain ⟨e2, r2, u2⟩ := hB
  have e1' : w.heap.size = A := e1
  have s2 : A < w3.heap.size := (World.ownsRow.lt r1 _ rfl).2
  exact ⟨by omega, by omega, by omega, ⟨_, by simp, owns_down (owns_up r1 u2) (by omega), fun i hi => by omega⟩, r2.down (by omega), ((Up.drewN w k).trans u1).trans u2⟩
theorem BK.put {w wr : World} {A B n m k x : Nat} (h : BK w wr A B n m k) (hk : k < n) (hx : k * m = x) : BK w (wr.setCell ⟨A, k, none⟩ (.slice (some ⟨B, x, none⟩) m m)) A B n m (k + 1) := by
  obtain ⟨l, hl, h1, h2⟩ := h.ans
  obtain ⟨s1, s2⟩ := World.ownsRow.stored h1 k (.slice (some ⟨B, x, none⟩) m m)
  refine ⟨h.ne, h.loA, h.loB, ⟨_, by simpa using hl, s1, fun i hi => ?_⟩, h.all.far s2 (Ne.symm h.ne), But.up s2 h.up h.loA⟩
  rw [List.getElem?_set]
  by_cases e : k = i
  · subst e; rw [if_pos rfl, if_pos (by omega), hx]
  · rw [if_neg e]; exact h2 i (by omega)
theorem BK.cell {w wr : World} {A B n m k : Nat} (h : BK w wr A B n m k) (i : Nat) (hi : i < n) : ∃ v, wr.cell? ⟨A, i, none⟩ = some v ∧ wr.frozen? ⟨A, i, none⟩ = false := by
  obtain ⟨l, hl, h1, h2⟩ := h.ans
  exact ⟨l[i]'(by omega), by rw [World.ownsRow.cellAt h1 i (by omega), List.getElem?_eq_getElem (by omega)], World.ownsRow.frozenAt h1 i⟩
theorem BK.done {w wr : World} {A B n m : Nat} (h : BK w wr A B n m n) : BT w wr A B n m (List.replicate (n * m) (0, 0)) := by
  obtain ⟨l, hl, h1, h2⟩ := h.ans
  exact ⟨h.ne, h.loA, h.loB, fun i hi => by rw [World.ownsRow.cellAt h1 i (by omega)]; exact h2 i hi, h.all, h.up⟩
set_option maxHeartbeats 2000000 in
theorem t101 (n m : Nat) (w : World) (hn : n ≤ 16384) (hm : m ≤ 16384) (hnm : n * m ≤ 262144) : Calls Tryz.prog 101 #[.int .i64 n, .int .i64 m] w (BL w n m) := by
  obtain ⟨K, hK⟩ : ∃ K, n * m = K := ⟨_, rfl⟩
  have hz : (n : Int) * (m : Int) = K := by rw [← hK, Int.natCast_mul]
  have HK : Hid (n * m = K) := hK
  rw [hK] at hnm
  clear hK
  have e4 : IntKind.i64.wrap (K : Int) = K := i64_id (by omega)
  go_enter Tryz.func101, Tryz.ntmps101
  go_wp2
  go_region_held3 (fun _ => True) (exact True.intro) (first | ((with_reducible refine upon_makeC (by omega) ?_); intro _ _ _) | ((with_reducible refine upon_makeS (by omega) ?_); intro _ _ _))
  rename_i B wa HB A w1 HA _
  have HS : Hid (BK w w1 A B n m 0) := by have q := HK.out; subst q; exact BK.start (k := 1) HB.out HA.out
  clear HA HB
  rotate_left
  rename_i A wa HA B w1 HB _
  have HS : Hid (BK w w1 A B n m 0) := by have q := HK.out; subst q; exact BK.start' (k := 1) HA.out HB.out
  clear HA HB
  all_goals
    go_wp2
    go_loopw [15] (fun vi wr => ∃ (k : Nat), k ≤ n ∧ vi = .int .i64 k ∧ Hid (BK w wr A B n m k)) (fun vi _ => n - (intOf vi).toNat)
    case atStart => exact ⟨0, by omega, rfl, HS⟩
    case round =>
      clear HS
      obtain ⟨k, hk, rfl, HS⟩ := hrel
      by_cases hlt : k < n
      · have z1 : (k : Int) < (n : Int) := by omega
        have z2 : (0 : Int) ≤ (k : Int) := by omega
        obtain ⟨v1, i1, f1⟩ := HS.out.cell k hlt
        obtain ⟨x, hx⟩ : ∃ x, k * m = x := ⟨_, rfl⟩
        obtain ⟨y, hy⟩ : ∃ y, (k + 1) * m = y := ⟨_, rfl⟩
        have hyx : y = x + m := by rw [← hx, ← hy, Nat.add_mul]; omega
        have hyK : y ≤ K := by rw [← hy, ← HK.out]; exact Nat.mul_le_mul_right _ hlt
        have HX : Hid (k * m = x) := hx
        have q1 : (k : Int) * (m : Int) = x := by rw [← hx, Int.natCast_mul]
        have q2 : ((k : Int) + 1) * (m : Int) = y := by rw [← hy, Int.natCast_mul]; rfl
        clear hx hy
        rcases Nat.eq_zero_or_pos m with rfl | hp
        · have HX0 : Hid (BK w (wr.setCell ⟨A, k, none⟩ (.slice (some ⟨B, 0, none⟩) 0 0)) A B n 0 (k + 1)) := HS.out.put hlt (Nat.mul_zero k)
          obtain rfl : x = 0 := by rw [← HX.out, Nat.mul_zero]
          obtain rfl : y = 0 := by omega
          obtain rfl : K = 0 := by rw [← HK.out, Nat.mul_zero]
          clear hz e4 q1 q2 hyx hyK
          go_wp2
          go_roundw
          case rel => exact ⟨k + 1, by omega, by go_num, HX0⟩
          case measure => simp [intOf]; omega
        · have HX1 : Hid (BK w (wr.setCell ⟨A, k, none⟩ (.slice (some ⟨B, x, none⟩) m m)) A B n m (k + 1)) := HS.out.put hlt HX.out
          subst hyx
          go_wp2
          go_roundw
          case rel => exact ⟨k + 1, by omega, by go_num, HX1⟩
          case measure => simp [intOf]; omega
      · obtain rfl : k = n := by omega
        go_wp2
        go_ret
        exact ⟨A, B, rfl, HS.out.done⟩
end Go.Proofs.YtflngnnoibkkoaaGreat
/- Across. -/
namespace Go.Proofs.YtflngnnoibkkoaaGreat
open Go.ChangeShapes Go.WideShapes Go.ChangeAt Go.RowKit Go.Fl Ieee
set_option maxRecDepth 200000
set_option maxHeartbeats 8000000
attribute [local go_sem] run_store_float run_store_c isSome_set call34 call33 run_neg fold_eq fold_ne fold_lt fold_gt abs_eq

theorem eg96 (args : Array Value) (w : World) : (callFunc 96 args).run Tryz.prog w = .ok (.enter 96 args) w := enters Tryz.func96 (by kernel_rfl) (by kernel_rfl) _ _
theorem eg107 (args : Array Value) (w : World) : (callFunc 107 args).run Tryz.prog w = .ok (.enter 107 args) w := enters Tryz.func107 (by kernel_rfl) (by kernel_rfl) _ _
theorem eg98 (args : Array Value) (w : World) : (callFunc 98 args).run Tryz.prog w = .ok (.enter 98 args) w := enters Tryz.func98 (by kernel_rfl) (by kernel_rfl) _ _
theorem eg108 (args : Array Value) (w : World) : (callFunc 108 args).run Tryz.prog w = .ok (.enter 108 args) w := enters Tryz.func108 (by kernel_rfl) (by kernel_rfl) _ _
theorem eg97 (args : Array Value) (w : World) : (callFunc 97 args).run Tryz.prog w = .ok (.enter 97 args) w := enters Tryz.func97 (by kernel_rfl) (by kernel_rfl) _ _
theorem eg99 (args : Array Value) (w : World) : (callFunc 99 args).run Tryz.prog w = .ok (.enter 99 args) w := enters Tryz.func99 (by kernel_rfl) (by kernel_rfl) _ _
theorem new_cell (w : World) (cs : Array Value) (t : TypeId) (k : Nat) (v : Value) (h : cs[k]? = some v) : (w.alloc (.cells cs t)).cell? ⟨w.heap.size, k, none⟩ = some v := (World.cell?_alloc_at _ _ _ _ rfl).trans h
/-- A table that is handed in: n rows of m numbers; where each row begins, its room, and what it holds. -/
structure TI (w : World) (R n m : Nat) (P : Nat → Option Addr) (C G O : Nat → Nat) (f : Nat → Nat → Nat × Nat) : Prop where
  tb : TB w R n P (fun _ => m) C
  rd : ∀ i, i < n → 0 < m → P i = some ⟨G i, O i, none⟩ ∧ RD w (G i) (O i) m (f i)
  room : ∀ i, i < n → m ≤ C i
theorem TI.up {w w' : World} {R n m : Nat} {P : Nat → Option Addr} {C G O : Nat → Nat} {f : Nat → Nat → Nat × Nat} (h : TI w R n m P C G O f) (hu : Up w w') : TI w' R n m P C G O f :=
  ⟨h.tb.up hu, fun i hi hm => ⟨(h.rd i hi hm).1, (h.rd i hi hm).2.up hu⟩, h.room⟩
theorem TI.tv {w : World} {R n m c : Nat} {P : Nat → Option Addr} {C G O : Nat → Nat} {f : Nat → Nat → Nat × Nat} (h : TI w R n m P C G O f) (hp : 0 < n) : TV w (.slice (some ⟨R, 0, none⟩) n c) n m := h.tb.tv hp
theorem TI.cell {w : World} {R n m : Nat} {P : Nat → Option Addr} {C G O : Nat → Nat} {f : Nat → Nat → Nat × Nat} (h : TI w R n m P C G O f) {p g : Nat} (hp : p < n) (hg : g < m) : w.cell? ⟨R, p, none⟩ = some (.slice (some ⟨G p, O p, none⟩) m (C p)) ∧ w.cell? ⟨G p, O p + g, none⟩ = some (.complex .f64 (f p g).1 (f p g).2) := by
  obtain ⟨h1, h2⟩ := h.rd p hp (by omega)
  have := h.tb p hp
  rw [h1] at this
  exact ⟨this, h2 g hg⟩
/-- What a call leaves that hands back a table of its own. -/
def OKT (w : World) (n m : Nat) (F : Nat → Nat → Option Nat × Option Nat) (e : Ending) (w' : World) : Prop :=
  ∃ A B d, e = .returned (.tuple #[.slice (some ⟨A, 0, none⟩) n n, .int .i64 0]) ∧ Hid (BT w w' A B n m d) ∧ Hid (∀ k, k < n → ∀ g, g < m → ab2 d[k * m + g]! = F k g)
theorem idx_inj {a b c d n : Nat} (h : a * n + b = c * n + d) (hb : b < n) (hd : d < n) : a = c ∧ b = d := by
  rcases Nat.lt_trichotomy a c with e | e | e
  · have := Nat.mul_le_mul_right n e
    rw [Nat.succ_mul] at this
    omega
  · subst e; exact ⟨rfl, by omega⟩
  · have := Nat.mul_le_mul_right n e
    rw [Nat.succ_mul] at this
    omega
theorem idx_lt {a b n m : Nat} (ha : a < m) (hb : b < n) : a * n + b < m * n := by
  have := Nat.mul_le_mul_right n ha
  rw [Nat.succ_mul] at this
  omega
theorem BT.rows {w wr : World} {A B n m : Nat} {d : List (Nat × Nat)} (h : BT w wr A B n m d) {k g x : Nat} (hk : k < n) (hg : g < m) (hx : k * m = x) : wr.cell? ⟨A, k, none⟩ = some (.slice (some ⟨B, x, none⟩) m m) ∧ (wr.cell? ⟨B, x + g, none⟩).isSome = true ∧ wr.frozen? ⟨B, x + g, none⟩ = false := by
  subst hx
  refine ⟨h.ans k hk, ?_, h.all.frz _⟩
  rw [h.all.cell (by rw [h.all.len]; exact idx_lt hk hg)]; rfl
theorem BT.base {w0 w wr : World} {A B n m : Nat} {d : List (Nat × Nat)} (h : BT w wr A B n m d) (hu : Up w0 w) : BT w0 wr A B n m d :=
  ⟨h.ne, Nat.le_trans hu.size h.loA, Nat.le_trans hu.size h.loB, h.ans, h.all.down hu.size, hu.trans h.up⟩
end Go.Proofs.YtflngnnoibkkoaaGreat
/- Four questions; Doppler where it tells an error. -/
namespace Go.Proofs.YtflngnnoibkkoaaGreat
open Go.ChangeShapes Go.WideShapes Go.ChangeAt Go.RowKit Go.Fl Ieee
set_option maxRecDepth 200000
set_option maxHeartbeats 8000000
attribute [local go_sem] run_store_float run_store_complex call34 call33 run_neg fold_eq fold_ne fold_lt fold_gt abs_eq

abbrev new4 (w : World) (g0 g1 g2 g3 : FuncId) (a0 c0 a1 c1 a2 c2 a3 c3 : Array Value) (k0 k1 k2 k3 : Int) : World := w.alloc (.cells #[.func (.func g0) a0 c0, .int .i64 k0, .func (.func g1) a1 c1, .int .i64 k1, .func (.func g2) a2 c2, .int .i64 k2, .func (.func g3) a3 c3, .int .i64 k3] 130)
theorem ask4 {w : World} {g0 g1 g2 g3 : FuncId} {a0 c0 a1 c1 a2 c2 a3 c3 : Array Value} {k0 k1 k2 k3 : Int} {b0 b1 b2 b3 : Bool} {z : Int}
    (e0 : ∀ args w, (callFunc g0 args).run Tryz.prog w = .ok (.enter g0 args) w) (e1 : ∀ args w, (callFunc g1 args).run Tryz.prog w = .ok (.enter g1 args) w) (e2 : ∀ args w, (callFunc g2 args).run Tryz.prog w = .ok (.enter g2 args) w) (e3 : ∀ args w, (callFunc g3 args).run Tryz.prog w = .ok (.enter g3 args) w)
    (h0 : ∀ w', Up w w' → Calls Tryz.prog g0 (a0 ++ c0) w' (BR b0 w')) (h1 : b0 = false → ∀ w', Up w w' → Calls Tryz.prog g1 (a1 ++ c1) w' (BR b1 w')) (h2 : b0 = false → b1 = false → ∀ w', Up w w' → Calls Tryz.prog g2 (a2 ++ c2) w' (BR b2 w')) (h3 : b0 = false → b1 = false → b2 = false → ∀ w', Up w w' → Calls Tryz.prog g3 (a3 ++ c3) w' (BR b3 w'))
    (hz : z = if b0 then k0 else if b1 then k1 else if b2 then k2 else if b3 then k3 else 0) :
    Calls Tryz.prog 95 #[.slice (some ⟨w.heap.size, 0, none⟩) 4 4] (new4 w g0 g1 g2 g3 a0 c0 a1 c1 a2 c2 a3 c3 k0 k1 k2 k3) (EU z (new4 w g0 g1 g2 g3 a0 c0 a1 c1 a2 c2 a3 c3 k0 k1 k2 k3)) := by
  have hQ : ∀ i, i < 4 → (new4 w g0 g1 g2 g3 a0 c0 a1 c1 a2 c2 a3 c3 k0 k1 k2 k3).cell? ⟨w.heap.size, i * 2, none⟩ = some (.func (.func ([g0, g1, g2, g3][i]!)) ([a0, a1, a2, a3][i]!) ([c0, c1, c2, c3][i]!)) ∧ (new4 w g0 g1 g2 g3 a0 c0 a1 c1 a2 c2 a3 c3 k0 k1 k2 k3).cell? ⟨w.heap.size, i * 2 + 1, none⟩ = some (.int .i64 ([k0, k1, k2, k3][i]!)) := by
    intro i hi
    obtain rfl | rfl | rfl | rfl : i = 0 ∨ i = 1 ∨ i = 2 ∨ i = 3 := by omega
    all_goals exact ⟨new_cell _ _ _ _ _ rfl, new_cell _ _ _ _ _ rfl⟩
  have eg : ∀ i, i < 4 → ∀ args w, (callFunc ([g0, g1, g2, g3][i]!) args).run Tryz.prog w = .ok (.enter ([g0, g1, g2, g3][i]!) args) w := by
    intro i hi
    obtain rfl | rfl | rfl | rfl : i = 0 ∨ i = 1 ∨ i = 2 ∨ i = 3 := by omega
    · exact e0
    · exact e1
    · exact e2
    · exact e3
  have hu : Up w (new4 w g0 g1 g2 g3 a0 c0 a1 c1 a2 c2 a3 c3 k0 k1 k2 k3) := Up.alloc _ _
  subst hz
  cases b0
  · cases b1
    · cases b2
      · cases b3
        · refine t95 w.heap.size 4 4 4 _ _ _ _ (fun _ => false) 0 _ (by omega) hQ eg (fun i hi _ w' h => ?_) (fun _ _ => rfl) (Or.inr ⟨rfl, rfl⟩)
          obtain rfl | rfl | rfl | rfl : i = 0 ∨ i = 1 ∨ i = 2 ∨ i = 3 := by omega
          · exact h0 w' (hu.trans h)
          · exact h1 rfl w' (hu.trans h)
          · exact h2 rfl rfl w' (hu.trans h)
          · exact h3 rfl rfl rfl w' (hu.trans h)
        · refine t95 w.heap.size 4 4 3 _ _ _ _ (fun i => decide (i = 3)) k3 _ (by omega) hQ eg (fun i hi _ w' h => ?_) (fun i hi => by simp; omega) (Or.inl ⟨by omega, rfl, rfl⟩)
          obtain rfl | rfl | rfl | rfl : i = 0 ∨ i = 1 ∨ i = 2 ∨ i = 3 := by omega
          · exact h0 w' (hu.trans h)
          · exact h1 rfl w' (hu.trans h)
          · exact h2 rfl rfl w' (hu.trans h)
          · exact h3 rfl rfl rfl w' (hu.trans h)
      · refine t95 w.heap.size 4 4 2 _ _ _ _ (fun i => decide (i = 2)) k2 _ (by omega) hQ eg (fun i hi _ w' h => ?_) (fun i hi => by simp; omega) (Or.inl ⟨by omega, rfl, rfl⟩)
        obtain rfl | rfl | rfl : i = 0 ∨ i = 1 ∨ i = 2 := by omega
        · exact h0 w' (hu.trans h)
        · exact h1 rfl w' (hu.trans h)
        · exact h2 rfl rfl w' (hu.trans h)
    · refine t95 w.heap.size 4 4 1 _ _ _ _ (fun i => decide (i = 1)) k1 _ (by omega) hQ eg (fun i hi _ w' h => ?_) (fun i hi => by simp; omega) (Or.inl ⟨by omega, rfl, rfl⟩)
      obtain rfl | rfl : i = 0 ∨ i = 1 := by omega
      · exact h0 w' (hu.trans h)
      · exact h1 rfl w' (hu.trans h)
  · refine t95 w.heap.size 4 4 0 _ _ _ _ (fun i => decide (i = 0)) k0 _ (by omega) hQ eg (fun i hi _ w' h => ?_) (fun i hi => by omega) (Or.inl ⟨by omega, rfl, rfl⟩)
    obtain rfl : i = 0 := by omega
    exact h0 w' (hu.trans h)
/-- The memory that Doppler and Compress have of their own ahead of their questions. -/
abbrev boxD (w : World) (v x : Value) (n : Int) : World := ((w.alloc (.cells #[x] 47)).alloc (.cells #[v] 127)).alloc (.cells #[.int .i64 n] 3)
abbrev askDw (w : World) (v x : Value) (n : Int) : World := new4 (boxD w v x n) 96 107 98 108 #[v] #[] #[] #[.pointer (some ⟨w.heap.size, 0, none⟩), .pointer (some ⟨w.heap.size + 1 + 1, 0, none⟩)] #[v] #[] #[] #[.pointer (some ⟨w.heap.size + 1, 0, none⟩), .pointer (some ⟨w.heap.size + 1 + 1, 0, none⟩)] 5 5 3 3
theorem size_one (w : World) (o : Obj) : (w.alloc o).heap.size = w.heap.size + 1 := by simp
theorem boxD_cells (w : World) (v x : Value) (n : Int) : (boxD w v x n).cell? ⟨w.heap.size, 0, none⟩ = some x ∧ (boxD w v x n).cell? ⟨w.heap.size + 1, 0, none⟩ = some v ∧ (boxD w v x n).cell? ⟨w.heap.size + 1 + 1, 0, none⟩ = some (.int .i64 n) ∧ Up w (boxD w v x n) := by
  have s1 := size_one w (.cells #[x] 47)
  have s2 := size_one (w.alloc (.cells #[x] 47)) (.cells #[v] 127)
  have c1 := new_cell w #[x] 47 0 x rfl
  have c2 := new_cell (w.alloc (.cells #[x] 47)) #[v] 127 0 v rfl
  have c3 := new_cell ((w.alloc (.cells #[x] 47)).alloc (.cells #[v] 127)) #[.int .i64 n] 3 0 _ rfl
  rw [s1] at c2 s2
  rw [s2] at c3
  exact ⟨cell_up c1 ((Up.alloc _ _).trans (Up.alloc _ _)), cell_up c2 (Up.alloc _ _), c3, ((Up.alloc _ _).trans (Up.alloc _ _)).trans (Up.alloc _ _)⟩
theorem askD {w : World} {p q : Option Addr} {n c x y : Nat} {b0 b1 b2 b3 : Bool} {z : Int} (h0 : ∀ w', Up w w' → Calls Tryz.prog 96 #[.slice p n c] w' (BR b0 w')) (h1 : decide (x ≠ n) = b1) (h2 : b0 = false → b1 = false → ∀ w', Up w w' → Calls Tryz.prog 98 #[.slice p n c] w' (BR b2 w'))
    (h3 : b0 = false → b1 = false → b2 = false → ∃ m, TV w (.slice p n c) n m ∧ n ≤ 256 ∧ m ≤ 16384 ∧ decide (16777216 < n * m * n) = b3) (hz : z = if b0 then 5 else if b1 then 5 else if b2 then 3 else if b3 then 3 else 0) :
    Calls Tryz.prog 95 #[.slice (some ⟨w.heap.size + 1 + 1 + 1, 0, none⟩) 4 4] (askDw w (.slice p n c) (.slice q x y) n) (EU z (askDw w (.slice p n c) (.slice q x y) n)) := by
  obtain ⟨c1, c2, c3, hu⟩ := boxD_cells w (.slice p n c) (.slice q x y) n
  have e : w.heap.size + 1 + 1 + 1 = (boxD w (.slice p n c) (.slice q x y) n).heap.size := by simp
  rw [e]
  refine ask4 (b0 := b0) (b1 := b1) (b2 := b2) (b3 := b3) eg96 eg107 eg98 eg108 (fun w' h => h0 w' (hu.trans h)) (fun _ w' h => ?_) (fun q0 q1 w' h => h2 q0 q1 w' (hu.trans h)) (fun q0 q1 q2 w' h => ?_) hz
  · exact t107 _ _ n x q y b1 w' (cell_up c1 h) (cell_up c3 h) h1
  · obtain ⟨m, k1, k2, k3, k4⟩ := h3 q0 q1 q2
    exact t108 _ _ n n m _ b3 w' (cell_up c3 h) (cell_up c2 h) (k1.up (hu.trans h)) k2 k3 (by omega) k4
abbrev boxC (w : World) (v : Value) (n : Int) : World := (w.alloc (.cells #[v] 127)).alloc (.cells #[.int .i64 n] 3)
abbrev askCw (w : World) (v : Value) (n : Int) : World := new4 (boxC w v n) 96 97 98 99 #[v] #[] #[] #[.pointer (some ⟨w.heap.size + 1, 0, none⟩)] #[v] #[] #[] #[.pointer (some ⟨w.heap.size + 1, 0, none⟩), .pointer (some ⟨w.heap.size, 0, none⟩)] 5 2 3 3
theorem boxC_cells (w : World) (v : Value) (n : Int) : (boxC w v n).cell? ⟨w.heap.size, 0, none⟩ = some v ∧ (boxC w v n).cell? ⟨w.heap.size + 1, 0, none⟩ = some (.int .i64 n) ∧ Up w (boxC w v n) := by
  have s1 := size_one w (.cells #[v] 127)
  have c1 := new_cell w #[v] 127 0 v rfl
  have c2 := new_cell (w.alloc (.cells #[v] 127)) #[.int .i64 n] 3 0 _ rfl
  rw [s1] at c2
  exact ⟨cell_up c1 (Up.alloc _ _), c2, (Up.alloc _ _).trans (Up.alloc _ _)⟩
theorem askC {w : World} {p : Option Addr} {n c x : Nat} {b0 b1 b2 b3 : Bool} {z : Int} (h0 : ∀ w', Up w w' → Calls Tryz.prog 96 #[.slice p n c] w' (BR b0 w')) (h1 : decide (x = 0) = b1) (h2 : b0 = false → b1 = false → ∀ w', Up w w' → Calls Tryz.prog 98 #[.slice p n c] w' (BR b2 w'))
    (h3 : b0 = false → b1 = false → b2 = false → ∃ m, TV w (.slice p n c) n m ∧ n ≤ 256 ∧ m ≤ 16384 ∧ (16384 < x ∧ b3 = true ∨ x ≤ 16384 ∧ decide (16777216 < n * m * x) = b3)) (hz : z = if b0 then 5 else if b1 then 2 else if b2 then 3 else if b3 then 3 else 0) :
    Calls Tryz.prog 95 #[.slice (some ⟨w.heap.size + 1 + 1, 0, none⟩) 4 4] (askCw w (.slice p n c) x) (EU z (askCw w (.slice p n c) x)) := by
  obtain ⟨c1, c2, hu⟩ := boxC_cells w (.slice p n c) x
  have e : w.heap.size + 1 + 1 = (boxC w (.slice p n c) x).heap.size := by simp
  rw [e]
  refine ask4 (b0 := b0) (b1 := b1) (b2 := b2) (b3 := b3) eg96 eg97 eg98 eg99 (fun w' h => h0 w' (hu.trans h)) (fun _ w' h => ?_) (fun q0 q1 w' h => h2 q0 q1 w' (hu.trans h)) (fun q0 q1 q2 w' h => ?_) hz
  · exact t97 _ x b1 w' (cell_up c2 h) h1
  · obtain ⟨m, k1, k2, k3, k4⟩ := h3 q0 q1 q2
    rcases k4 with ⟨k4, rfl⟩ | ⟨k4, k5⟩
    · exact t99a _ _ x w' (cell_up c2 h) k4
    · exact t99 _ _ x n m _ b3 w' (cell_up c2 h) (cell_up c1 h) (k1.up (hu.trans h)) k2 k3 k4 k5
/-- A number times a float. -/
theorem t92 (a b c : Nat) (w : World) : Calls Tryz.prog 92 #[.complex .f64 a b, .float .f64 c] w (DR w (bin .mul (ab a) (ab c)) (bin .mul (ab b) (ab c))) := by
  go_enter Tryz.func92, Tryz.ntmps92
  go_wp2_with ((with_reducible refine upon_fl (by simp) ?_); intro r n hr)
  go_ret
  refine DR.mkN ?_ ?_ <;> simp_all [Hid]
end Go.Proofs.YtflngnnoibkkoaaGreat
