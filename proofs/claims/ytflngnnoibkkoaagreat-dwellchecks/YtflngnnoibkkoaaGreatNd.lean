/- Cancel. -/
import Derived.Test.YtflngnnoibkkoaaGreatEd
import Derived.Test.YtflngnnoibkkoaaGreatBg
import Derived.Test.YtflngnnoibkkoaaGreatM
namespace Go.Proofs.YtflngnnoibkkoaaGreat
open Go.ChangeShapes Go.WideShapes Go.ChangeAt Go.RowKit Go.Fl Ieee
set_option maxRecDepth 200000
set_option maxHeartbeats 8000000
attribute [local go_sem] run_store_float run_store_c isSome_set call34 call33 run_neg fold_eq fold_ne fold_lt fold_gt abs_eq

/-- The differences, so many times. -/
def dk (F : Nat → Nat → C2) : Nat → Nat → Nat → C2
  | 0, a, g => F a g
  | k + 1, a, g => if k < a then difC (dk F k a g) (dk F k (a - 1) g) else dk F k a g
/-- What Cancel leaves: n rows. -/
def CZ (w : World) (N m o n : Nat) (F : Nat → Nat → C2) (e : Ending) (w' : World) : Prop :=
  ∃ A B D, e = .returned (.tuple #[.slice (some ⟨A, o, none⟩) n n, .int .i64 0]) ∧ Hid (RT w.heap.size w' A N m B D) ∧ Hid (Up w w') ∧ Hid (∀ a, a < N → ∀ g, g < m → ab2 (D a)[g]! = dk F o a g)
set_option maxHeartbeats 2000000 in
theorem t62 {w : World} {R N m c o n : Nat} {P : Nat → Option Addr} {C G O : Nat → Nat} {f : Nat → Nat → Nat × Nat} (h : TI w R N m P C G O f) (hc : N ≤ c) (hN : N ≤ 256) (hm : m ≤ 16384) (hNm : N * m ≤ 262144) (ho : o < 9) (hn : o + n = N) (hn1 : 1 ≤ n) : Calls Tryz.prog 62 #[.slice (some ⟨R, 0, none⟩) N c, .int .i64 o] w (CZ w N m o n (fun a g => ab2 (f a g))) := by
  have HC : Hid (TC w R N c m P C) := ⟨h.tb, by omega, hc, hN, hm, hNm⟩
  have H31 : Hid (Calls Tryz.prog 105 #[.slice (some ⟨R, 0, none⟩) N c] w (CO w N m f)) := by
    rcases Nat.eq_zero_or_pos m with h0 | h0
    · subst h0; exact t105z h hN
    · exact t105 h hN hm h0
  have HN : Hid (o + n = N) := hn
  have z1 : (o : Int) ≤ 8 := by omega
  have z2 : (0 : Int) ≤ (o : Int) := by omega
  clear h hn
  go_enter Tryz.func62, Tryz.ntmps62
  go_wp2_with (first
    | (go_at_call 104; (with_reducible refine (t104 HC.out ho (by have := HN.out; omega)).mono ?_); rintro e w' ⟨rfl, hw⟩; subst w')
    | (go_at_call 105; (with_reducible refine H31.out.mono ?_); rintro e w1 ⟨A, B, D, rfl, HR, HU, HV⟩))
  have HV0 : Hid (∀ a, a < N → ∀ g, g < m → ab2 (D a)[g]! = dk (fun a g => ab2 (f a g)) 0 a g) := fun a ha g hg => by rw [HV.out a ha g hg]; rfl
  clear HC H31 HV
  go_loopw [7, 17] (fun v7 vi wr => ∃ (k n' : Nat) (D : Nat → List (Nat × Nat)), k ≤ o ∧ vi = .int .i64 k ∧ v7 = .slice (some ⟨A, k, none⟩) n' n' ∧ Hid (k + n' = N) ∧ Hid (RT w.heap.size wr A N m B D) ∧ Hid (Up w wr) ∧ Hid (∀ a, a < N → ∀ g, g < m → ab2 (D a)[g]! = dk (fun a g => ab2 (f a g)) k a g)) (fun _ vi _ => o - (intOf vi).toNat)
  case atStart => exact ⟨0, N, D, by omega, rfl, rfl, Nat.zero_add N, HR, HU, HV0⟩
  case round =>
    clear HR HU HV0
    obtain ⟨k, n', D, hk, rfl, rfl, HK, HR, HU, HV⟩ := hrel
    by_cases hlt : k < o
    · have y1 : (k : Int) < (o : Int) := by omega
      obtain ⟨n1, e1⟩ : ∃ n1, n' = n1 + 1 := ⟨n' - 1, by have := HK.out; have := HN.out; omega⟩
      have HE : Hid (n' = n1 + 1) := e1
      have e2 : n' - 1 = n1 := by omega
      clear e1
      go_wp2_with (go_at_call 106; (with_reducible refine (t106 (c := n') HR.out HU.out HV.out HK.out HE.out (by have := HK.out; have := HN.out; have := HE.out; omega) hN hm (Nat.le_refl n') (by have := HK.out; omega)).mono ?_); rintro e w2 ⟨D2, rfl, HR2, HU2, HV2⟩; rw [e2])
      go_roundw
      case rel => exact ⟨k + 1, n1, D2, by omega, by go_num, rfl, by have q1 := HK.out; have q2 := HE.out; show _ = _; omega, HR2, HU2, HV2⟩
      case measure => simp [intOf]; omega
    · obtain rfl : k = o := by omega
      obtain rfl : n' = n := by have := HK.out; have := HN.out; omega
      go_wp2
      go_ret2
      exact ⟨A, B, D, rfl, HR, HU, HV⟩
end Go.Proofs.YtflngnnoibkkoaaGreat
/- Powers. -/
namespace Go.Proofs.YtflngnnoibkkoaaGreat
open Go.ChangeShapes Go.WideShapes Go.ChangeAt Go.RowKit Go.Fl Ieee
set_option maxRecDepth 200000
set_option maxHeartbeats 8000000
/-- A float is stored where some value lies. -/
theorem run_store_f {P : Program} (w : World) (a : Addr) (m : Mode) (k : FloatKind) (x : Nat) (h : (w.cell? a).isSome = true) (hf : w.frozen? a = false) : (store a (.float k x) m).run P w = .ok () (w.setCell a (.float k x)) := by
  obtain ⟨u, hu⟩ := Option.isSome_iff_exists.1 h
  rw [run_store_float]
  simp [stored, hu, hf]
attribute [local go_sem] run_store_f run_store_c isSome_set call34 call33 run_neg fold_eq fold_ne fold_lt fold_gt abs_eq

def pow2F (p : Nat × Nat) : Option Nat := bin .add (bin .mul (ab p.1) (ab p.1)) (bin .mul (ab p.2) (ab p.2))
/-- What a call leaves that hands back a float. -/
def FV (w : World) (v : Option Nat) (e : Ending) (w' : World) : Prop := ∃ r, e = .returned (.float .f64 r) ∧ Hid (ab r = v) ∧ Hid (Up w w')
theorem t111 (a b : Nat) (w : World) : Calls Tryz.prog 111 #[.complex .f64 a b] w (FV w (pow2F (a, b))) := by
  go_enter Tryz.func111, Tryz.ntmps111
  go_wp2_with ((with_reducible refine upon_fl (by simp) ?_); intro r n hr)
  go_ret
  refine ⟨_, rfl, ?_, Up.drewN _ _⟩
  simp_all [pow2F, Hid]
theorem info31 : (Tryz.prog.info? 47).map (fun i => (i.zero, i.size, i.bytes)) = some (some (.slice none 0 0), 1, 24) := by kernel_rfl
theorem info30 : (Tryz.prog.info? 22).map (fun i => (i.zero, i.size, i.bytes)) = some (some (.float .f64 0), 1, 8) := by kernel_rfl
def MadeQ (n g : Nat) (w w' : World) : Prop := w.heap.size = g ∧ w'.ownsRow g 47 1 (.slice (some ⟨g, 0, none⟩) n n) n (List.replicate n (.slice none 0 0)) ∧ Up w w'
def MadeF (n g : Nat) (w w' : World) : Prop := w.heap.size = g ∧ w'.ownsRow g 22 1 (.slice (some ⟨g, 0, none⟩) n n) n (List.replicate n (.float .f64 0)) ∧ Up w w'
theorem upon_makeQ {o : Oper} {a : Act} {next : Act → World → Prop} {Q : Exit → Act → World → Prop} {n : Nat} {w : World} {F : Value → World → Result Next} (hn : n ≤ 1000000)
    (hk : ∀ g w', Hid (MadeQ n g w w') → o.upon Tryz.prog a next Q (F (.slice (some ⟨g, 0, none⟩) n n) w')) :
    o.upon Tryz.prog a next Q (((Instr.makeSlice 44 (.int .i64 n) (.int .i64 n)).run Tryz.prog w).andThen F) := by
  obtain ⟨i0, hi, hz0, hz1, hz2⟩ := info_parts info31
  obtain ⟨w', e, h1, h2⟩ := run_make_full (P := Tryz.prog) w w.heap.size 44 47 i0 (.slice none 0 0) 1 Tryz.underlying44 hi hz0 hz1 .i64 .i64 n (by rw [hz2]; omega) (by unfold maxLen; omega) (Nat.le_refl _)
  rw [e]
  refine hk _ _ ⟨rfl, ?_, Below.grown (Below.refl _ _) h2 (Nat.le_refl _) (fun j hj => by cases hj)⟩
  have e : (madeCells (Value.slice none 0 0).cells (n * 1)).toList = List.replicate n (.slice none 0 0) := by
    rw [Nat.mul_one]; exact toList_madeCells_one _ _
  rw [e] at h1
  exact h1
theorem upon_makeF {o : Oper} {a : Act} {next : Act → World → Prop} {Q : Exit → Act → World → Prop} {n : Nat} {w : World} {F : Value → World → Result Next} (hn : n ≤ 1000000)
    (hk : ∀ g w', Hid (MadeF n g w w') → o.upon Tryz.prog a next Q (F (.slice (some ⟨g, 0, none⟩) n n) w')) :
    o.upon Tryz.prog a next Q (((Instr.makeSlice 47 (.int .i64 n) (.int .i64 n)).run Tryz.prog w).andThen F) := by
  obtain ⟨i0, hi, hz0, hz1, hz2⟩ := info_parts info30
  obtain ⟨w', e, h1, h2⟩ := run_make_full (P := Tryz.prog) w w.heap.size 47 22 i0 (.float .f64 0) 1 Tryz.underlying47 hi hz0 hz1 .i64 .i64 n (by rw [hz2]; omega) (by unfold maxLen; omega) (Nat.le_refl _)
  rw [e]
  refine hk _ _ ⟨rfl, ?_, Below.grown (Below.refl _ _) h2 (Nat.le_refl _) (fun j hj => by cases hj)⟩
  have e : (madeCells (Value.float .f64 0).cells (n * 1)).toList = List.replicate n (.float .f64 0) := by
    rw [Nat.mul_one]; exact toList_madeCells_one _ _
  rw [e] at h1
  exact h1
/-- The rows that are told already; of the block X nothing is theirs. -/
def PD (wr : World) (A X : Nat) (L : Nat → Nat) (f : Nat → Nat → Nat × Nat) (p : Nat) (l : List Value) : Prop := ∀ i, i < p → ∃ B, l[i]? = some (.slice (some ⟨B, 0, none⟩) (L i) (L i)) ∧ B < wr.heap.size ∧ B ≠ A ∧ B ≠ X ∧ ∀ g, g < L i → ∃ r, wr.cell? ⟨B, g, none⟩ = some (.float .f64 r) ∧ ab r = pow2F (f i g)
theorem PD.up {wr w' : World} {A X : Nat} {L : Nat → Nat} {f : Nat → Nat → Nat × Nat} {p : Nat} {l : List Value} (h : PD wr A X L f p l) (hu : Up wr w') : PD w' A X L f p l := fun i hi => by
  obtain ⟨B, h1, h2, h3, h4, h5⟩ := h i hi
  exact ⟨B, h1, Nat.lt_of_lt_of_le h2 hu.size, h3, h4, fun g hg => by obtain ⟨r, k1, k2⟩ := h5 g hg; exact ⟨r, cell_up k1 hu, k2⟩⟩
theorem But.size {g : Nat} {w w' : World} (h : But g w w') : w.heap.size ≤ w'.heap.size := by
  obtain ⟨_, _, _, h4, _⟩ := h
  exact h4
theorem PD.far {wr w' : World} {A X Y : Nat} {L : Nat → Nat} {f : Nat → Nat → Nat × Nat} {p : Nat} {l : List Value} (h : PD wr A X L f p l) (hb : But Y wr w') (hY : Y = A ∨ Y = X) : PD w' A X L f p l := fun i hi => by
  obtain ⟨B, h1, h2, h3, h4, h5⟩ := h i hi
  have hs : wr.heap.size ≤ w'.heap.size := hb.size
  have hne : B ≠ Y := by rcases hY with rfl | rfl <;> assumption
  exact ⟨B, h1, Nat.lt_of_lt_of_le h2 hs, h3, h4, fun g hg => by obtain ⟨r, k1, k2⟩ := h5 g hg; exact ⟨r, hb.cell hne k1, k2⟩⟩
theorem PD.fresh {wr : World} {A X Y : Nat} {L : Nat → Nat} {f : Nat → Nat → Nat × Nat} {p : Nat} {l : List Value} (h : PD wr A X L f p l) (hY : wr.heap.size ≤ Y) : PD wr A Y L f p l := fun i hi => by
  obtain ⟨B, h1, h2, h3, h4, h5⟩ := h i hi
  exact ⟨B, h1, h2, h3, by omega, h5⟩
theorem PD.set {wr : World} {A X : Nat} {L : Nat → Nat} {f : Nat → Nat → Nat × Nat} {p : Nat} {l : List Value} (h : PD wr A X L f p l) (v : Value) : PD wr A X L f p (l.set p v) := fun i hi => by
  obtain ⟨B, h1, h2⟩ := h i hi
  exact ⟨B, by rw [List.getElem?_set, if_neg (by omega)]; exact h1, h2⟩
/-- Powers at work. -/
structure PI (w wr : World) (A X n : Nat) (L : Nat → Nat) (f : Nat → Nat → Nat × Nat) (p : Nat) (l : List Value) : Prop where
  row : wr.ownsRow w.heap.size 47 1 (.slice (some ⟨A, 0, none⟩) n n) n l
  len : l.length = n
  lo : w.heap.size ≤ A
  done : PD wr A X L f p l
  up : Up w wr
theorem PI.mono {w wr w' : World} {A X n : Nat} {L : Nat → Nat} {f : Nat → Nat → Nat × Nat} {p : Nat} {l : List Value} (h : PI w wr A X n L f p l) (hu : Up wr w') : PI w w' A X n L f p l :=
  ⟨owns_up h.row hu, h.len, h.lo, h.done.up hu, h.up.trans hu⟩
/-- .. and the row that is being told. -/
structure PJ (w wr : World) (A X n : Nat) (L : Nat → Nat) (f : Nat → Nat → Nat × Nat) (p g : Nat) (l xs : List Value) : Prop where
  base : PI w wr A X n L f p l
  ne : X ≠ A
  lo : w.heap.size ≤ X
  slot : l[p]? = some (.slice (some ⟨X, 0, none⟩) (L p) (L p))
  own : wr.ownsRow w.heap.size 22 1 (.slice (some ⟨X, 0, none⟩) (L p) (L p)) (L p) xs
  len : xs.length = L p
  told : ∀ i, i < g → ∃ r, xs[i]? = some (.float .f64 r) ∧ ab r = pow2F (f p i)
theorem PJ.mono {w wr w' : World} {A X n : Nat} {L : Nat → Nat} {f : Nat → Nat → Nat × Nat} {p g : Nat} {l xs : List Value} (h : PJ w wr A X n L f p g l xs) (hu : Up wr w') : PJ w w' A X n L f p g l xs :=
  ⟨h.base.mono hu, h.ne, h.lo, h.slot, owns_up h.own hu, h.len, h.told⟩
theorem PJ.start {w wr w1 : World} {A X Y n : Nat} {L : Nat → Nat} {f : Nat → Nat → Nat × Nat} {p : Nat} {l : List Value} (h : PI w wr A X n L f p l) (hp : p < n) (hm : MadeF (L p) Y wr w1) : PJ w (w1.setCell ⟨A, p, none⟩ (.slice (some ⟨Y, 0, none⟩) (L p) (L p))) A Y n L f p 0 (l.set p (.slice (some ⟨Y, 0, none⟩) (L p) (L p))) (List.replicate (L p) (.float .f64 0)) := by
  obtain ⟨e1, r1, u1⟩ := hm
  have hA : A < wr.heap.size := (World.ownsRow.lt h.row _ rfl).2
  have hs := h.up.size
  have h1 : PI w w1 A Y n L f p l := by
    have q := h.mono u1
    exact ⟨q.row, q.len, q.lo, (h.done.fresh (by omega)).up u1, q.up⟩
  obtain ⟨s1, s2⟩ := World.ownsRow.stored h1.row p (.slice (some ⟨Y, 0, none⟩) (L p) (L p))
  refine ⟨⟨s1, by simp [h.len], h.lo, (h1.done.far s2 (Or.inl rfl)).set _, But.up s2 h1.up h.lo⟩, by omega, by omega, ?_, owns_far (owns_down r1 (by omega)) s2 (by omega), by simp, fun i hi => by omega⟩
  rw [List.getElem?_set, if_pos rfl, if_pos (by have := h.len; omega)]
theorem PI.cell {w wr : World} {A X n : Nat} {L : Nat → Nat} {f : Nat → Nat → Nat × Nat} {p : Nat} {l : List Value} (h : PI w wr A X n L f p l) {i : Nat} (hi : i < n) : ∃ v, wr.cell? ⟨A, i, none⟩ = some v ∧ wr.frozen? ⟨A, i, none⟩ = false := by
  have hl := h.len
  exact ⟨l[i]'(by omega), by rw [World.ownsRow.cellAt h.row i (by omega), List.getElem?_eq_getElem (by omega)], World.ownsRow.frozenAt h.row i⟩
theorem PJ.cells {w wr : World} {A X n : Nat} {L : Nat → Nat} {f : Nat → Nat → Nat × Nat} {p g : Nat} {l xs : List Value} (h : PJ w wr A X n L f p g l xs) (hp : p < n) {i : Nat} (hi : i < L p) : wr.cell? ⟨A, p, none⟩ = some (.slice (some ⟨X, 0, none⟩) (L p) (L p)) ∧ (wr.cell? ⟨X, i, none⟩).isSome = true ∧ wr.frozen? ⟨X, i, none⟩ = false := by
  have hl := h.len
  refine ⟨by rw [World.ownsRow.cellAt h.base.row p (by omega)]; exact h.slot, ?_, World.ownsRow.frozenAt h.own i⟩
  rw [World.ownsRow.cellAt h.own i (by omega), List.getElem?_eq_getElem (by omega)]; rfl
theorem PJ.put {w wr : World} {A X n : Nat} {L : Nat → Nat} {f : Nat → Nat → Nat × Nat} {p g : Nat} {l xs : List Value} (h : PJ w wr A X n L f p g l xs) (hg : g < L p) {r : Nat} (hr : ab r = pow2F (f p g)) : PJ w (wr.setCell ⟨X, g, none⟩ (.float .f64 r)) A X n L f p (g + 1) l (xs.set g (.float .f64 r)) := by
  have hl := h.len
  obtain ⟨s1, s2⟩ := World.ownsRow.stored h.own g (.float .f64 r)
  refine ⟨⟨owns_far h.base.row s2 (Ne.symm h.ne), h.base.len, h.base.lo, h.base.done.far s2 (Or.inr rfl), But.up s2 h.base.up h.lo⟩, h.ne, h.lo, h.slot, s1, by simpa using hl, fun i hi => ?_⟩
  rw [List.getElem?_set]
  by_cases e : g = i
  · subst e; rw [if_pos rfl, if_pos (by omega)]; exact ⟨r, rfl, hr⟩
  · rw [if_neg e]; exact h.told i (by omega)
theorem PJ.done {w wr : World} {A X n : Nat} {L : Nat → Nat} {f : Nat → Nat → Nat × Nat} {p : Nat} {l xs : List Value} (h : PJ w wr A X n L f p (L p) l xs) : PI w wr A A n L f (p + 1) l := by
  refine ⟨h.base.row, h.base.len, h.base.lo, fun i hi => ?_, h.base.up⟩
  by_cases e : i = p
  · subst e
    refine ⟨X, h.slot, (World.ownsRow.lt h.own _ rfl).2, h.ne, h.ne, fun g hg => ?_⟩
    obtain ⟨r, k1, k2⟩ := h.told g hg
    exact ⟨r, by rw [World.ownsRow.cellAt h.own g (by omega)]; exact k1, k2⟩
  · obtain ⟨B, h1, h2, h3, h4, h5⟩ := h.base.done i (by omega)
    exact ⟨B, h1, h2, h3, h3, h5⟩
/-- What Powers leaves. -/
def PW (w : World) (n : Nat) (L : Nat → Nat) (f : Nat → Nat → Nat × Nat) (e : Ending) (w' : World) : Prop := ∃ A l, e = .returned (.slice (some ⟨A, 0, none⟩) n n) ∧ Hid (PI w w' A A n L f n l)
theorem kept3_up {w w' : World} {a1 a4 o1 o4 : Nat} {x1 : Value} (h : w.cell? ⟨a1, o1, none⟩ = some x1 ∧ (w.cell? ⟨a4, o4, none⟩).isSome = true ∧ w.frozen? ⟨a4, o4, none⟩ = false) (hu : Up w w') :
    w'.cell? ⟨a1, o1, none⟩ = some x1 ∧ (w'.cell? ⟨a4, o4, none⟩).isSome = true ∧ w'.frozen? ⟨a4, o4, none⟩ = false := by
  obtain ⟨h1, h4, h5⟩ := h
  obtain ⟨v, hv⟩ := Option.isSome_iff_exists.1 h4
  refine ⟨cell_up h1 hu, by rw [cell_up hv hu]; rfl, ?_⟩
  have hb := World.block_lt_of_cell? w _ hv
  have e := hu.block _ hb
  simp only [World.frozen?] at h5 ⊢
  rw [e]; exact h5
theorem kept3_set {w : World} {a1 a4 o1 o4 : Nat} {x1 y : Value} (n1 : a4 ≠ a1) (h : w.cell? ⟨a1, o1, none⟩ = some x1 ∧ (w.cell? ⟨a4, o4, none⟩).isSome = true ∧ w.frozen? ⟨a4, o4, none⟩ = false) :
    (w.setCell ⟨a4, o4, none⟩ y).cell? ⟨a1, o1, none⟩ = some x1 ∧ ((w.setCell ⟨a4, o4, none⟩ y).cell? ⟨a4, o4, none⟩).isSome = true ∧ (w.setCell ⟨a4, o4, none⟩ y).frozen? ⟨a4, o4, none⟩ = false := by
  obtain ⟨h1, h4, h5⟩ := h
  refine ⟨by rw [World.cell?_setCell_far _ _ _ _ n1]; exact h1, ?_, by simpa using h5⟩
  rw [World.cell?_setCell_same' _ _ _ h4]; rfl
set_option maxHeartbeats 4000000 in
theorem t67 {w : World} {R n c : Nat} {P : Nat → Option Addr} {L C G O : Nat → Nat} {f : Nat → Nat → Nat × Nat} (h : TB w R n P L C) (hr : ∀ i, i < n → 0 < L i → P i = some ⟨G i, O i, none⟩ ∧ RD w (G i) (O i) (L i) (f i)) (hn : n ≤ 1000000) (hL : ∀ i, i < n → L i ≤ 1000000) :
    Calls Tryz.prog 67 #[.slice (some ⟨R, 0, none⟩) n c] w (PW w n L f) := by
  have HT : Hid (TB w R n P L C) := h
  have HR : Hid (∀ i, i < n → 0 < L i → P i = some ⟨G i, O i, none⟩ ∧ RD w (G i) (O i) (L i) (f i)) := hr
  have HL : Hid (∀ i, i < n → L i ≤ 1000000) := hL
  clear h hr hL
  go_enter Tryz.func67, Tryz.ntmps67
  go_wp2_with ((with_reducible refine upon_makeQ (by omega) ?_); intro A w1 HM)
  have HS : Hid (PI w w1 A A n L f 0 (List.replicate n (.slice none 0 0))) := ⟨owns_down HM.out.2.1 (by have := HM.out.1; omega), by simp, by have := HM.out.1; omega, fun i hi => by omega, HM.out.2.2⟩
  clear HM
  go_loopw [13] (fun vi wr => ∃ (p : Nat) (l : List Value), p ≤ n ∧ vi = .int .i64 p ∧ Hid (PI w wr A A n L f p l)) (fun vi _ => n - (intOf vi).toNat)
  case atStart => exact ⟨0, _, by omega, rfl, HS⟩
  case round =>
    clear HS
    obtain ⟨p, l, hp, rfl, HS⟩ := hrel
    by_cases hlt : p < n
    · have y1 : (p : Int) < (n : Int) := by omega
      have y2 : (0 : Int) ≤ (p : Int) := by omega
      have c1 := (HT.out.up HS.out.up) p hlt
      obtain ⟨k, hk, hkb⟩ : ∃ k, L p = k ∧ k ≤ 1000000 := ⟨_, rfl, HL.out p hlt⟩
      rw [hk] at c1
      have HK : Hid (L p = k) := hk
      clear hk
      go_wp2_with ((with_reducible refine upon_makeF hkb ?_); intro Y w2 HM
                   have HJ : Hid (PJ w (w2.setCell ⟨A, p, none⟩ (.slice (some ⟨Y, 0, none⟩) k k)) A Y n L f p 0 (l.set p (.slice (some ⟨Y, 0, none⟩) k k)) (List.replicate k (.float .f64 0))) := (by
                     have q := HK.out; subst q; exact PJ.start HS.out hlt HM.out)
                   obtain ⟨v2, c2, c3⟩ := (HS.out.mono HM.out.2.2).cell hlt
                   clear HM HS)
      go_loopw [26] (fun vi wr => ∃ (g : Nat) (xs : List Value), g ≤ k ∧ vi = .int .i64 g ∧ Hid (PJ w wr A Y n L f p g (l.set p (.slice (some ⟨Y, 0, none⟩) k k)) xs)) (fun vi _ => k - (intOf vi).toNat)
      case atStart => exact ⟨0, _, by omega, rfl, HJ⟩
      case round =>
        clear HJ c2 c3 c1
        obtain ⟨g, xs, hg, rfl, HJ⟩ := hrel
        by_cases hlt2 : g < k
        · have z1 : (g : Int) < (k : Int) := by omega
          have z2 : (0 : Int) ≤ (g : Int) := by omega
          obtain ⟨d1, d2, d3⟩ := HJ.out.cells hlt (i := g) (by rw [HK.out]; exact hlt2)
          rw [HK.out] at d1
          obtain ⟨q1, q2⟩ := HR.out p hlt (by rw [HK.out]; omega)
          have d4 := (q2.up HJ.out.base.up) g (by rw [HK.out]; exact hlt2)
          obtain ⟨u, v, HF⟩ : ∃ u v, Hid (f p g = (u, v)) := ⟨_, _, rfl⟩
          rw [HF.out] at d4
          simp only [ce] at d4
          have hne := HJ.out.ne
          rw [q1]
          clear q1 q2
          go_wp2
          go_region_held3 (fun w' => w'.cell? ⟨A, p, none⟩ = some (.slice (some ⟨Y, 0, none⟩) k k) ∧ (w'.cell? ⟨Y, g, none⟩).isSome = true ∧ w'.frozen? ⟨Y, g, none⟩ = false)
            (first | (exact kept3_up ⟨d1, d2, d3⟩ (Up.drewN _ 1)) | (exact kept3_up ‹_› hu.out) | (exact kept3_set hne ‹_›) | go_keep)
            ((go_at_call 111; (with_reducible refine (t111 _ _ _).mono ?_); rintro e w2 ⟨r, rfl, hr, hu⟩))
          clear d1 d2 d3 d4
          go_wp2
          go_roundw
          case rel =>
            refine ⟨g + 1, _, by omega, by go_num, (HJ.out.mono ((Up.drewN _ 1).trans hu.out)).put (by rw [HK.out]; exact hlt2) (by rw [HF.out]; exact hr.out)⟩
          case measure => simp [intOf]; omega
        · obtain rfl : g = k := by omega
          go_wp2
          go_roundw
          case rel =>
            have q := HK.out
            subst q
            exact ⟨p + 1, _, by omega, by go_num, HJ.out.done⟩
          case measure => simp [intOf]; omega
    · obtain rfl : p = n := by omega
      go_wp2
      go_ret
      exact ⟨A, l, rfl, HS⟩
end Go.Proofs.YtflngnnoibkkoaaGreat
/- Windows. -/
namespace Go.Proofs.YtflngnnoibkkoaaGreat
open Go.ChangeShapes Go.WideShapes Go.ChangeAt Go.RowKit Go.Fl Ieee
set_option maxRecDepth 200000
set_option maxHeartbeats 8000000
attribute [local go_sem] run_store_float run_store_complex call34 call33 run_neg fold_eq fold_ne fold_lt fold_gt abs_eq

/-- How far from the middle, in half steps. -/
def offI (k n : Int) : Int := if 2 * k + 1 - n < 0 then -(2 * k + 1 - n) else 2 * k + 1 - n
def weightF (kind : Int) (n k : Nat) : Option Nat :=
  if kind = 1 then bin .sub (ab 4602678819172646912) (bin .mul (ab 4602678819172646912) (unitC k n))
  else if kind = 2 then bin .sub (ab 4603039107142836552) (bin .mul (ab 4601958243232267633) (unitC k n))
  else if kind = 3 then bin .sub (ab 4607182418800017408) (bin .quo (ab (floatOfInt .f64 (offI k n))) (ab (floatOfInt .f64 n)))
  else ab 4607182418800017408
theorem t110a (k n : Nat) (w : World) (hn : n ≤ 16384) : Calls Tryz.prog 110 #[.int .i8 1, .int .i64 k, .int .i64 n] w (FU w (weightF 1 n k)) := by
  go_enter Tryz.func110, Tryz.ntmps110
  go_wp2_with (first
    | ((with_reducible refine upon_fl (by simp) ?_); intro r n hr)
    | (go_at_call 50; refine (t50 _ _ _ (by omega) (by omega)).mono ?_; rintro e w1 ⟨r, s, rfl, hr, hs, hu⟩))
  go_ret
  refine FU.mk ?_ (Up.trans hu (Up.drewN _ _))
  simp_all [weightF, Hid]
theorem t110b (k n : Nat) (w : World) (hn : n ≤ 16384) : Calls Tryz.prog 110 #[.int .i8 2, .int .i64 k, .int .i64 n] w (FU w (weightF 2 n k)) := by
  go_enter Tryz.func110, Tryz.ntmps110
  go_wp2_with (first
    | ((with_reducible refine upon_fl (by simp) ?_); intro r n hr)
    | (go_at_call 50; refine (t50 _ _ _ (by omega) (by omega)).mono ?_; rintro e w1 ⟨r, s, rfl, hr, hs, hu⟩))
  go_ret
  refine FU.mk ?_ (Up.trans hu (Up.drewN _ _))
  simp_all [weightF, Hid]
theorem t110c (k n : Nat) (w : World) (hk : k < n) (hn : n ≤ 16384) : Calls Tryz.prog 110 #[.int .i8 3, .int .i64 k, .int .i64 n] w (FU w (weightF 3 n k)) := by
  rcases Int.lt_or_le (2 * (k : Int) + 1 - n) 0 with h | h
  · have e : offI k n = -(2 * (k : Int) + 1 - n) := if_pos h
    have H : Hid _ := e
    have h' : (2 * (k : Int) + 1 - n) < -(2 * (k : Int) + 1 - n) := by omega
    clear e
    go_enter Tryz.func110, Tryz.ntmps110
    go_wp2_with ((with_reducible refine upon_fl (by simp) ?_); intro r n hr)
    go_ret
    refine FU.mk ?_ (Up.drewN _ _)
    rw [weightF, if_neg (by omega), if_neg (by omega), if_pos rfl, H.out]
    simp_all [Hid]
  · have e : offI k n = 2 * (k : Int) + 1 - n := if_neg (by omega)
    have H : Hid _ := e
    have h' : ¬ (2 * (k : Int) + 1 - n) < -(2 * (k : Int) + 1 - n) := by omega
    clear e
    go_enter Tryz.func110, Tryz.ntmps110
    go_wp2_with ((with_reducible refine upon_fl (by simp) ?_); intro r n hr)
    go_ret
    refine FU.mk ?_ (Up.drewN _ _)
    rw [weightF, if_neg (by omega), if_neg (by omega), if_pos rfl, H.out]
    simp_all [Hid]
theorem t110d (kind : Int) (k n : Nat) (w : World) (h1 : kind ≠ 1) (h2 : kind ≠ 2) (h3 : kind ≠ 3) : Calls Tryz.prog 110 #[.int .i8 kind, .int .i64 k, .int .i64 n] w (FU w (weightF kind n k)) := by
  have h1' : (kind == 1) = false := by rw [beq_eq_false_iff_ne]; exact h1
  have h2' : (kind == 2) = false := by rw [beq_eq_false_iff_ne]; exact h2
  have h3' : (kind == 3) = false := by rw [beq_eq_false_iff_ne]; exact h3
  go_enter Tryz.func110, Tryz.ntmps110
  go_wp2
  go_ret
  refine FU.mk ?_ (Up.refl _)
  rw [weightF, if_neg h1, if_neg h2, if_neg h3]
theorem t110 (kind : Int) (k n : Nat) (w : World) (hk : k < n) (hn : n ≤ 16384) : Calls Tryz.prog 110 #[.int .i8 kind, .int .i64 k, .int .i64 n] w (FU w (weightF kind n k)) := by
  by_cases h1 : kind = 1
  · subst h1; exact t110a k n w hn
  · by_cases h2 : kind = 2
    · subst h2; exact t110b k n w hn
    · by_cases h3 : kind = 3
      · subst h3; exact t110c k n w hk hn
      · exact t110d kind k n w h1 h2 h3

theorem info22f : (Tryz.prog.info? 22).map (fun i => (i.zero, i.size, i.bytes)) = some (some (.float .f64 0), 1, 8) := by kernel_rfl
/-- A row of floats that is being filled. -/
structure FillF (w0 w : World) (g n : Nat) (F : Nat → Option Nat) (k : Nat) : Prop where
  row : ∃ d : List Nat, d.length = n ∧ w.ownsRow w0.heap.size 22 1 (.slice (some ⟨g, 0, none⟩) n n) n (d.map (Value.float .f64)) ∧ ∀ j, j < k → ab d[j]! = F j
  below : Up w0 w
theorem FillF.new {w w' : World} {n : Nat} (F : Nat → Option Nat) (h : w'.ownsRow w.heap.size 22 1 (.slice (some ⟨w.heap.size, 0, none⟩) n n) n (madeCells (Value.float .f64 0).cells (n * 1)).toList) (hg : w.grownBy w' none) : FillF w w' w.heap.size n F 0 := by
  refine ⟨⟨List.replicate n 0, by simp, ?_, fun j hj => by omega⟩, Below.grown (Below.refl _ _) hg (Nat.le_refl _) (fun j hj => by cases hj)⟩
  have e : (madeCells (Value.float .f64 0).cells (n * 1)).toList = List.replicate n (.float .f64 0) := by
    rw [Nat.mul_one]; exact toList_madeCells_one _ _
  rw [e] at h
  simpa using h
theorem FillF.up {w0 w w' : World} {g n k : Nat} {F : Nat → Option Nat} (h : FillF w0 w g n F k) (hu : Up w w') : FillF w0 w' g n F k := by
  obtain ⟨⟨d, h1, h2, h3⟩, h4⟩ := h
  exact ⟨⟨d, h1, owns_up h2 hu, h3⟩, h4.trans hu⟩
theorem FillF.cell {w0 w : World} {g n k : Nat} {F : Nat → Option Nat} (h : FillF w0 w g n F k) {i : Nat} (hi : i < n) : (∃ x, w.cell? ⟨g, i, none⟩ = some (.float .f64 x)) ∧ w.frozen? ⟨g, i, none⟩ = false := by
  obtain ⟨⟨d, rfl, h2, h3⟩, h4⟩ := h
  refine ⟨⟨d[i]!, ?_⟩, World.ownsRow.frozenAt h2 i⟩
  rw [World.ownsRow.cellAt h2 i (by omega), List.getElem?_map, List.getElem?_eq_getElem hi, getElem!_pos d i hi]
  rfl
theorem FillF.stored {w0 w : World} {g n k r : Nat} {F : Nat → Option Nat} (h : FillF w0 w g n F k) (hk : k < n) (hr : ab r = F k) : FillF w0 (w.setCell ⟨g, k, none⟩ (.float .f64 r)) g n F (k + 1) := by
  obtain ⟨⟨d, rfl, h2, h3⟩, h4⟩ := h
  obtain ⟨s1, s2⟩ := World.ownsRow.stored h2 k (.float .f64 r)
  refine ⟨⟨d.set k r, by simp, ?_, ?_⟩, Below.grown h4 s2 h4.size (fun j hj => (World.ownsRow.lt h2 j (by simpa [Value.ownBlock] using hj)).1)⟩
  · rw [List.map_set]
    exact s1
  · intro j hj
    rw [getElem!_pos _ j (by simp; omega), List.getElem_set]
    split
    · rename_i e; subst e; exact hr
    · rw [← getElem!_pos d j (by omega)]; exact h3 j (by omega)
/-- What Window leaves: floats, as many as n. -/
def WLp (w : World) (n : Nat) (F : Nat → Option Nat) (e : Ending) (w' : World) : Prop := ∃ (g : Nat) (d : List Nat), e = .returned (.slice (some ⟨g, 0, none⟩) n n) ∧ Hid (w'.ownsRow w.heap.size 22 1 (.slice (some ⟨g, 0, none⟩) n n) n (d.map (Value.float .f64))) ∧ Hid (Up w w') ∧ Hid (d.length = n ∧ ∀ j, j < n → ab d[j]! = F j)
set_option maxHeartbeats 1000000 in
theorem t65 (kind : Int) (n : Nat) (w : World) (h1 : 1 ≤ n) (h2 : n ≤ 16384) : Calls Tryz.prog 65 #[.int .i8 kind, .int .i64 n] w (WLp w n (weightF kind n)) := by
  obtain ⟨i0, hi, hz0, hz1, hz2⟩ := info_parts info22f
  go_enter Tryz.func65, Tryz.ntmps65
  go_wp2_with (refine wpList_make_full _ rfl _ _ 47 rfl w.heap.size 22 i0 (.float .f64 0) 1 Tryz.underlying47 hi hz0 hz1 .i64 .i64 _ _ n rfl rfl rfl rfl (by rw [hz2]; omega) (by unfold maxLen; omega) (Nat.le_refl _) ?_; intro w1 hown hgr; have HF : Hid (FillF w w1 w.heap.size n (weightF kind n) 0) := FillF.new _ hown hgr; clear hown hgr)
  go_loopw [6, 17] (fun _ i wr => ∃ k : Nat, k ≤ n ∧ i = .int .i64 k ∧ Hid (FillF w wr w.heap.size n (weightF kind n) k)) (fun _ i _ => n - (intOf i).toNat)
  case atStart => exact ⟨0, by omega, rfl, HF⟩
  case round =>
    clear HF
    obtain ⟨k, hk, rfl, HF⟩ := hrel
    by_cases hlt : k < n
    · have hkz : (k : Int) < (n : Int) := by omega
      go_wp2_with (go_at_call 110; refine (t110 _ _ _ _ hlt h2).mono ?_; rintro e w2 ⟨r, rfl, hr, hu⟩; have HF2 : Hid (FillF w w2 w.heap.size n (weightF kind n) k) := HF.out.up hu; obtain ⟨⟨x0, hcell⟩, hfr⟩ := HF2.out.cell hlt; clear HF hu)
      go_roundw
      case rel => exact ⟨k + 1, by omega, by go_num, HF2.out.stored hlt hr.out⟩
      case measure => simp [intOf]; omega
    · obtain rfl : n = k := by omega
      go_wp2
      go_ret
      obtain ⟨⟨d, g1, g2, g3⟩, g4⟩ := HF.out
      exact ⟨_, d, rfl, g2, g4, g1, g3⟩
end Go.Proofs.YtflngnnoibkkoaaGreat
/- Dwell: the work under way; the steps from rows to cells. -/
namespace Go.Proofs.YtflngnnoibkkoaaGreat
open Go.ChangeShapes Go.WideShapes Go.ChangeAt Go.RowKit Go.Fl Ieee
set_option maxRecDepth 200000
set_option maxHeartbeats 8000000
attribute [local go_sem] run_store_float run_store_complex call34 call33 run_neg fold_eq fold_ne fold_lt fold_gt abs_eq

/-- The work under way: what its four fields hold. -/
structure WS (w : World) (g : Nat) (v0 v1 v2 v3 : Value) : Prop where
  c0 : w.cell? ⟨g, 0, none⟩ = some v0
  c1 : w.cell? ⟨g, 1, none⟩ = some v1
  c2 : w.cell? ⟨g, 2, none⟩ = some v2
  c3 : w.cell? ⟨g, 3, none⟩ = some v3
  fz : ∀ k, w.frozen? ⟨g, k, none⟩ = false
theorem WS.lt {w : World} {g : Nat} {v0 v1 v2 v3 : Value} (h : WS w g v0 v1 v2 v3) : g < w.heap.size := World.block_lt_of_cell? w _ h.c0
theorem WS.up {w w' : World} {g : Nat} {v0 v1 v2 v3 : Value} (h : WS w g v0 v1 v2 v3) (hu : Up w w') : WS w' g v0 v1 v2 v3 :=
  ⟨cell_up h.c0 hu, cell_up h.c1 hu, cell_up h.c2 hu, cell_up h.c3 hu, fun k => (World.frozen?_of_block (hu.block g h.lt)).trans (h.fz k)⟩
theorem addr_ne {g a b : Nat} (h : a ≠ b) : (⟨g, a, none⟩ : Addr) ≠ ⟨g, b, none⟩ := fun q => by
  simp only [Addr.mk.injEq] at q
  omega
theorem WS.put0 {w : World} {g : Nat} {v0 v1 v2 v3 : Value} (h : WS w g v0 v1 v2 v3) (v : Value) : WS (w.setCell ⟨g, 0, none⟩ v) g v v1 v2 v3 :=
  ⟨World.cell?_setCell_same _ _ _ h.c0, (World.cell?_setCell_other _ _ _ _ (addr_ne (by decide))).trans h.c1, (World.cell?_setCell_other _ _ _ _ (addr_ne (by decide))).trans h.c2, (World.cell?_setCell_other _ _ _ _ (addr_ne (by decide))).trans h.c3, fun k => by simp only [World.frozen?_setCell]; exact h.fz k⟩
theorem WS.put1 {w : World} {g : Nat} {v0 v1 v2 v3 : Value} (h : WS w g v0 v1 v2 v3) (v : Value) : WS (w.setCell ⟨g, 1, none⟩ v) g v0 v v2 v3 :=
  ⟨(World.cell?_setCell_other _ _ _ _ (addr_ne (by decide))).trans h.c0, World.cell?_setCell_same _ _ _ h.c1, (World.cell?_setCell_other _ _ _ _ (addr_ne (by decide))).trans h.c2, (World.cell?_setCell_other _ _ _ _ (addr_ne (by decide))).trans h.c3, fun k => by simp only [World.frozen?_setCell]; exact h.fz k⟩
theorem WS.put2 {w : World} {g : Nat} {v0 v1 v2 v3 : Value} (h : WS w g v0 v1 v2 v3) (v : Value) : WS (w.setCell ⟨g, 2, none⟩ v) g v0 v1 v v3 :=
  ⟨(World.cell?_setCell_other _ _ _ _ (addr_ne (by decide))).trans h.c0, (World.cell?_setCell_other _ _ _ _ (addr_ne (by decide))).trans h.c1, World.cell?_setCell_same _ _ _ h.c2, (World.cell?_setCell_other _ _ _ _ (addr_ne (by decide))).trans h.c3, fun k => by simp only [World.frozen?_setCell]; exact h.fz k⟩
theorem WS.put3 {w : World} {g : Nat} {v0 v1 v2 v3 : Value} (h : WS w g v0 v1 v2 v3) (v : Value) : WS (w.setCell ⟨g, 3, none⟩ v) g v0 v1 v2 v :=
  ⟨(World.cell?_setCell_other _ _ _ _ (addr_ne (by decide))).trans h.c0, (World.cell?_setCell_other _ _ _ _ (addr_ne (by decide))).trans h.c1, (World.cell?_setCell_other _ _ _ _ (addr_ne (by decide))).trans h.c2, World.cell?_setCell_same _ _ _ h.c3, fun k => by simp only [World.frozen?_setCell]; exact h.fz k⟩
theorem but_set (w : World) (g k : Nat) (v : Value) : But g w (w.setCell ⟨g, k, none⟩ v) := by
  have b : Below 0 w (w.setCell ⟨g, k, none⟩ v) := Below.setCell (Below.refl _ _) (Nat.zero_le _) v
  exact ⟨b.os, b.tape, b.output, b.size, fun j _ hj => Below.heap_setCell w ⟨g, k, none⟩ v j (fun e => hj (by have e2 : j = g := e; rw [e2]))⟩
/-- A table of complex numbers that lies apart from a block. -/
structure TX (w : World) (v : Value) (n m wb : Nat) (f : Nat → Nat → Nat × Nat) : Prop where
  ex : ∃ A c P C G O, v = .slice (some ⟨A, 0, none⟩) n c ∧ n ≤ c ∧ TI w A n m P C G O f ∧ A ≠ wb ∧ ∀ i, i < n → 0 < m → G i ≠ wb
theorem TX.but {w w' : World} {v : Value} {n m wb : Nat} {f : Nat → Nat → Nat × Nat} (h : TX w v n m wb f) (hu : But wb w w') : TX w' v n m wb f := by
  obtain ⟨A, c, P, C, G, O, h1, h2, h3, h4, h5⟩ := h
  exact ⟨A, c, P, C, G, O, h1, h2, ⟨h3.tb.far hu h4, fun i hi hm => ⟨(h3.rd i hi hm).1, hu.rd (h5 i hi hm) (h3.rd i hi hm).2⟩, h3.room⟩, h4, h5⟩
/-- What a step leaves that tells rows. -/
def SX (W : World) (wb n m : Nat) (F : Nat → Nat → C2) (v1 v2 v3 : Value) (e : Ending) (w' : World) : Prop := e = .returned (.int .i64 0) ∧ ∃ v f, Hid (WS w' wb v v1 v2 v3) ∧ Hid (TX w' v n m wb f) ∧ Hid (But wb W w') ∧ Hid (∀ k, k < n → ∀ g, g < m → ab2 (f k g) = F k g)
theorem BT.tx {w wr : World} {A B n m wb : Nat} {d : List (Nat × Nat)} (h : BT w wr A B n m d) (hb : wb < w.heap.size) : TX wr (.slice (some ⟨A, 0, none⟩) n n) n m wb (fun p g => d[p * m + g]!) := by
  have a := h.loA
  have b := h.loB
  refine ⟨A, n, _, _, fun _ => B, fun i => i * m, rfl, Nat.le_refl _, ⟨h.ans, fun i hi hm => ⟨rfl, fun j hj => ?_⟩, fun _ _ => Nat.le_refl _⟩, by omega, fun _ _ _ => by show B ≠ wb; omega⟩
  have hl : i * m + j < n * m := by
    have := Nat.mul_le_mul_right m (show i + 1 ≤ n by omega)
    rw [Nat.add_mul] at this
    omega
  exact h.all.cell (by rw [h.all.len]; exact hl)
theorem RT.tx {b : Nat} {w : World} {A N m wb : Nat} {B : Nat → Nat} {D : Nat → List (Nat × Nat)} (h : RT b w A N m B D) (hb : wb < b) : TX w (.slice (some ⟨A, 0, none⟩) N N) N m wb (fun p g => (D p)[g]!) := by
  have a := h.loA
  refine ⟨A, N, fun i => some ⟨B i, 0, none⟩, fun _ => m, B, fun _ => 0, rfl, Nat.le_refl _, ⟨fun i hi => h.hdr i hi, fun i hi hm => ⟨rfl, fun j hj => ?_⟩, fun _ _ => Nat.le_refl _⟩, by omega, fun i hi _ => ?_⟩
  · have := h.cell hi hj
    rwa [Nat.zero_add]
  · have := (h.lo hi).1
    omega
theorem t59 {W : World} {wb bx n m c A pg po x pc : Nat} {P : Nat → Option Addr} {C G O : Nat → Nat} {f : Nat → Nat → Nat × Nat} {fp : Nat → Nat × Nat} {v1 v2 v3 : Value} (hs : WS W wb (.slice (some ⟨A, 0, none⟩) n c) v1 v2 v3) (ht : TI W A n m P C G O f) (hp : W.cell? ⟨bx, 0, none⟩ = some (.slice (some ⟨pg, po, none⟩) x pc)) (hr : RD W pg po x fp) (hn0 : 0 < n) (hm0 : 0 < m) (hx0 : 0 < x) (hn : n ≤ 256) (hm : m ≤ 16384) (hx : x ≤ 16384) (hnm : n * m ≤ 262144) (hnn : n * m * x ≤ 16777216) :
    Calls Tryz.prog 59 #[.pointer (some ⟨wb, 0, none⟩), .pointer (some ⟨bx, 0, none⟩)] W (SX W wb n m (fun p g => heldF (f p) m fp x g) v1 v2 v3) := by
  have HS : Hid (WS W wb (.slice (some ⟨A, 0, none⟩) n c) v1 v2 v3) := hs
  have C60 : Hid (∀ V, Up W V → Calls Tryz.prog 60 #[.slice (some ⟨A, 0, none⟩) n c, .slice (some ⟨pg, po, none⟩) x pc] V (OKT V n m (fun p g => heldF (f p) m fp x g))) := fun V hV => t60 (ht.up hV) (hr.up hV) hn0 hm0 hx0 hn hm hx hnm hnn
  have hwb : wb < W.drew.heap.size := Nat.lt_of_lt_of_le hs.lt (Up.drewN W 1).size
  have c0 := hs.c0
  clear hs ht hr hn0 hm0 hx0 hn hm hx hnm hnn
  go_enter Tryz.func59, Tryz.ntmps59
  go_upto_region 1 with fail
  refine wp_region_shut 12 [(0, none), (1, none), (2, none), (3, none), (4, some false), (5, some false), (6, some true), (7, none), (8, none), (9, none), (10, none), (11, none)] (fun w' => w'.cell? ⟨wb, 0, none⟩ = some (.slice (some ⟨A, 0, none⟩) n c) ∧ w'.cell? ⟨bx, 0, none⟩ = some (.slice (some ⟨pg, po, none⟩) x pc)) (by kernel_rfl) (by decide) rfl (by kernel_rfl) (fun _ _ d _ _ h => by cases d <;> exact h) (⟨cell_up c0 (Up.drewN _ 1), cell_up hp (Up.drewN _ 1)⟩) ?_
  refine OrdS.looks (.pointer (some ⟨wb, 0, none⟩)) (some 5) _ rfl rfl (Or.inl ⟨by kernel_rfl, fun w' hS => ?_⟩) ?_
  · go_simp
  refine OrdS.looks (.pointer (some ⟨wb, 0, none⟩)) (some 6) _ rfl rfl (Or.inl ⟨by kernel_rfl, fun w' hS => ?_⟩) ?_
  · go_simp
  refine OrdS.looks (.pointer (some ⟨wb, 0, none⟩)) (some 7) _ rfl rfl (Or.inl ⟨by kernel_rfl, fun w' hS => ?_⟩) ?_
  · go_simp
  refine OrdS.looks (.pointer (some ⟨wb, 0, none⟩)) (some 8) _ rfl rfl (Or.inl ⟨by kernel_rfl, fun w' hS => ?_⟩) ?_
  · go_simp
  refine OrdS.reads (.slice (some ⟨A, 0, none⟩) n c) (some 9) _ rfl rfl (Or.inl ⟨by kernel_rfl, fun w' hS => ?_⟩) ?_
  · have e1 := hS.1
    go_simp
  refine OrdS.reads (.slice (some ⟨pg, po, none⟩) x pc) (some 10) _ rfl rfl (Or.inl ⟨by kernel_rfl, fun w' hS => ?_⟩) ?_
  · have e1 := hS.2
    go_simp
  simp only [Act.put, List.setIfInBounds_toArray, List.set_cons_succ, List.set_cons_zero]
  refine OrdS.does ?_
  refine wpOp_callG (f := 60) (some 11) rfl rfl (by kernel_rfl) rfl #[.slice (some ⟨A, 0, none⟩) n c, .slice (some ⟨pg, po, none⟩) x pc] (by kernel_rfl) (enters Tryz.func60 (by kernel_rfl) (by kernel_rfl) _ _) ?_
  refine (C60.out W.drew (Up.drewN _ 1)).mono ?_
  rintro e w1 ⟨A1, B1, d1, rfl, HB1, HF1⟩
  have HW1 : Hid (WS w1 wb (.slice (some ⟨A, 0, none⟩) n c) v1 v2 v3) := HS.out.up ((Up.drewN _ 1).trans HB1.out.up)
  refine ⟨_, rfl, ⟨HW1.out.c0, cell_up hp ((Up.drewN _ 1).trans HB1.out.up)⟩, ?_⟩
  have HTX : Hid (TX w1 (.slice (some ⟨A1, 0, none⟩) n n) n m wb (fun p g => d1[p * m + g]!)) := HB1.out.tx hwb
  have HUP : Hid (Up W w1) := (Up.drewN _ 1).trans HB1.out.up
  clear HB1
  simp only [Act.put, List.setIfInBounds_toArray, List.set_cons_succ, List.set_cons_zero]
  refine OrdS.looks (.tuple #[.slice (some ⟨A1, 0, none⟩) n n, .int .i64 0]) (some 4) _ rfl rfl (Or.inl ⟨by kernel_rfl, fun w' hS => ?_⟩) ?_
  · go_simp
  refine OrdS.looks (.slice (some ⟨A1, 0, none⟩) n n) (some 12) _ rfl rfl (Or.inl ⟨by kernel_rfl, fun w' hS => ?_⟩) ?_
  · go_simp
  refine OrdS.looks (.int .i64 0) (some 13) _ rfl rfl (Or.inl ⟨by kernel_rfl, fun w' hS => ?_⟩) ?_
  · go_simp
  refine OrdS.looks (.pointer (some ⟨wb, 0, none⟩)) (some 14) _ rfl rfl (Or.inl ⟨by kernel_rfl, fun w' hS => ?_⟩) ?_
  · go_simp
  refine OrdS.looks (.pointer (some ⟨wb, 0, none⟩)) (some 15) _ rfl rfl (Or.inl ⟨by kernel_rfl, fun w' hS => ?_⟩) ?_
  · go_simp
  refine OrdS.ends ?_
  simp only [List.drop_succ_cons, List.drop_zero, Act.put, List.setIfInBounds_toArray, List.set_cons_succ, List.set_cons_zero]
  have q0 := HW1.out.c0
  have f0 := HW1.out.fz 0
  go_wp2_with fail
  go_ret
  exact ⟨rfl, _, _, HW1.out.put0 _, HTX.out.but (but_set _ _ _ _), (But.of_up HUP.out).trans (but_set _ _ _ _), HF1⟩
end Go.Proofs.YtflngnnoibkkoaaGreat
