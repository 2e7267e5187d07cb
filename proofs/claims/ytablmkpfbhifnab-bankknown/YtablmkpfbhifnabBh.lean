/- Powers. -/
import Derived.Test.YtablmkpfbhifnabBg
namespace Go.Proofs.Ytablmkpfbhifnab
open Go.ChangeShapes Go.WideShapes Go.ChangeAt Go.RowKit Go.Fl Ieee
/-- A float is stored where some value lies. -/
theorem run_store_f {P : Program} (w : World) (a : Addr) (m : Mode) (k : FloatKind) (x : Nat) (h : (w.cell? a).isSome = true) (hf : w.frozen? a = false) : (store a (.float k x) m).run P w = .ok () (w.setCell a (.float k x)) := by
  obtain ⟨u, hu⟩ := Option.isSome_iff_exists.1 h
  rw [run_store_float]
  simp [stored, hu, hf]
attribute [local go_sem] run_store_f run_store_c isSome_set call49 call47 run_neg fold_eq fold_ne fold_lt fold_gt abs_eq

def pow2F (p : Nat × Nat) : Option Nat := bin .add (bin .mul (ab p.1) (ab p.1)) (bin .mul (ab p.2) (ab p.2))
/-- What a call leaves that hands back a float. -/
def FV (w : World) (v : Option Nat) (e : Ending) (w' : World) : Prop := ∃ r, e = .returned (.float .f64 r) ∧ Hid (ab r = v) ∧ Hid (Up w w')
theorem t29 (a b : Nat) (w : World) : Calls Try.prog 29 #[.complex .f64 a b] w (FV w (pow2F (a, b))) := by
  go_enter Try.func29, Try.ntmps29
  go_wp2_with ((with_reducible refine upon_fl (by simp) ?_); intro r n hr)
  go_ret
  refine ⟨_, rfl, ?_, Up.drewN _ _⟩
  simp_all [pow2F, Hid]
theorem info31 : (Try.prog.info? 31).map (fun i => (i.zero, i.size, i.bytes)) = some (some (.slice none 0 0), 1, 24) := by kernel_rfl
theorem info30 : (Try.prog.info? 30).map (fun i => (i.zero, i.size, i.bytes)) = some (some (.float .f64 0), 1, 8) := by kernel_rfl
def MadeQ (n g : Nat) (w w' : World) : Prop := w.heap.size = g ∧ w'.ownsRow g 31 1 (.slice (some ⟨g, 0, none⟩) n n) n (List.replicate n (.slice none 0 0)) ∧ Up w w'
def MadeF (n g : Nat) (w w' : World) : Prop := w.heap.size = g ∧ w'.ownsRow g 30 1 (.slice (some ⟨g, 0, none⟩) n n) n (List.replicate n (.float .f64 0)) ∧ Up w w'
theorem upon_makeQ {o : Oper} {a : Act} {next : Act → World → Prop} {Q : Exit → Act → World → Prop} {n : Nat} {w : World} {F : Value → World → Result Next} (hn : n ≤ 1000000)
    (hk : ∀ g w', Hid (MadeQ n g w w') → o.upon Try.prog a next Q (F (.slice (some ⟨g, 0, none⟩) n n) w')) :
    o.upon Try.prog a next Q (((Instr.makeSlice 44 (.int .i64 n) (.int .i64 n)).run Try.prog w).andThen F) := by
  obtain ⟨i0, hi, hz0, hz1, hz2⟩ := info_parts info31
  obtain ⟨w', e, h1, h2⟩ := run_make_full (P := Try.prog) w w.heap.size 44 31 i0 (.slice none 0 0) 1 Try.underlying44 hi hz0 hz1 .i64 .i64 n (by rw [hz2]; omega) (by unfold maxLen; omega) (Nat.le_refl _)
  rw [e]
  refine hk _ _ ⟨rfl, ?_, Below.grown (Below.refl _ _) h2 (Nat.le_refl _) (fun j hj => by cases hj)⟩
  have e : (madeCells (Value.slice none 0 0).cells (n * 1)).toList = List.replicate n (.slice none 0 0) := by
    rw [Nat.mul_one]; exact toList_madeCells_one _ _
  rw [e] at h1
  exact h1
theorem upon_makeF {o : Oper} {a : Act} {next : Act → World → Prop} {Q : Exit → Act → World → Prop} {n : Nat} {w : World} {F : Value → World → Result Next} (hn : n ≤ 1000000)
    (hk : ∀ g w', Hid (MadeF n g w w') → o.upon Try.prog a next Q (F (.slice (some ⟨g, 0, none⟩) n n) w')) :
    o.upon Try.prog a next Q (((Instr.makeSlice 31 (.int .i64 n) (.int .i64 n)).run Try.prog w).andThen F) := by
  obtain ⟨i0, hi, hz0, hz1, hz2⟩ := info_parts info30
  obtain ⟨w', e, h1, h2⟩ := run_make_full (P := Try.prog) w w.heap.size 31 30 i0 (.float .f64 0) 1 Try.underlying31 hi hz0 hz1 .i64 .i64 n (by rw [hz2]; omega) (by unfold maxLen; omega) (Nat.le_refl _)
  rw [e]
  refine hk _ _ ⟨rfl, ?_, Below.grown (Below.refl _ _) h2 (Nat.le_refl _) (fun j hj => by cases hj)⟩
  have e : (madeCells (Value.float .f64 0).cells (n * 1)).toList = List.replicate n (.float .f64 0) := by
    rw [Nat.mul_one]; exact toList_madeCells_one _ _
  rw [e] at h1
  exact h1
/-- The rows that are told already; of the block X nothing is theirs. -/
def PD (wr : World) (A X : Nat) (L : Nat → Nat) (f : Nat → Nat → Nat × Nat) (p : Nat) (l : List Value) : Prop := ∀ i, i < p → ∃ B, l[i]? = some (.slice (some ⟨B, 0, none⟩) (L i) (L i)) ∧ B < wr.heap.size ∧ B ≠ A ∧ B ≠ X ∧ ∀ g, g < L i → ∃ r, wr.cell? ⟨B, g, none⟩ = some (.float .f64 r) ∧ ab r = pow2F (f i g)
theorem PD.up {wr w' : World} {A X : Nat} {L : Nat → Nat} {f : Nat → Nat → Nat × Nat} {p : Nat} {l : List Value} (h : PD wr A X L f p l) (hu : Up wr w') : PD w' A X L f p l := fun i hi => by
  obtain ⟨B, h1, h2, h3, h4, h5⟩ := h i hi
  exact ⟨B, h1, Nat.lt_of_lt_of_le h2 hu.size, h3, h4, fun g hg => by obtain ⟨r, k1, k2⟩ := h5 g hg; exact ⟨r, cell_up k1 hu, k2⟩⟩
theorem But.size {g : Nat} {w w' : World} (h : But g w w') : w.heap.size ≤ w'.heap.size := by
  obtain ⟨_, _, _, h4, _⟩ := h
  exact h4
theorem PD.far {wr w' : World} {A X Y : Nat} {L : Nat → Nat} {f : Nat → Nat → Nat × Nat} {p : Nat} {l : List Value} (h : PD wr A X L f p l) (hb : But Y wr w') (hY : Y = A ∨ Y = X) : PD w' A X L f p l := fun i hi => by
  obtain ⟨B, h1, h2, h3, h4, h5⟩ := h i hi
  have hs : wr.heap.size ≤ w'.heap.size := hb.size
  have hne : B ≠ Y := by rcases hY with rfl | rfl <;> assumption
  exact ⟨B, h1, Nat.lt_of_lt_of_le h2 hs, h3, h4, fun g hg => by obtain ⟨r, k1, k2⟩ := h5 g hg; exact ⟨r, hb.cell hne k1, k2⟩⟩
theorem PD.fresh {wr : World} {A X Y : Nat} {L : Nat → Nat} {f : Nat → Nat → Nat × Nat} {p : Nat} {l : List Value} (h : PD wr A X L f p l) (hY : wr.heap.size ≤ Y) : PD wr A Y L f p l := fun i hi => by
  obtain ⟨B, h1, h2, h3, h4, h5⟩ := h i hi
  exact ⟨B, h1, h2, h3, by omega, h5⟩
theorem PD.set {wr : World} {A X : Nat} {L : Nat → Nat} {f : Nat → Nat → Nat × Nat} {p : Nat} {l : List Value} (h : PD wr A X L f p l) (v : Value) : PD wr A X L f p (l.set p v) := fun i hi => by
  obtain ⟨B, h1, h2⟩ := h i hi
  exact ⟨B, by rw [List.getElem?_set, if_neg (by omega)]; exact h1, h2⟩
/-- Powers at work. -/
structure PI (w wr : World) (A X n : Nat) (L : Nat → Nat) (f : Nat → Nat → Nat × Nat) (p : Nat) (l : List Value) : Prop where
  row : wr.ownsRow w.heap.size 31 1 (.slice (some ⟨A, 0, none⟩) n n) n l
  len : l.length = n
  lo : w.heap.size ≤ A
  done : PD wr A X L f p l
  up : Up w wr
theorem PI.mono {w wr w' : World} {A X n : Nat} {L : Nat → Nat} {f : Nat → Nat → Nat × Nat} {p : Nat} {l : List Value} (h : PI w wr A X n L f p l) (hu : Up wr w') : PI w w' A X n L f p l :=
  ⟨owns_up h.row hu, h.len, h.lo, h.done.up hu, h.up.trans hu⟩
/-- .. and the row that is being told. -/
structure PJ (w wr : World) (A X n : Nat) (L : Nat → Nat) (f : Nat → Nat → Nat × Nat) (p g : Nat) (l xs : List Value) : Prop where
  base : PI w wr A X n L f p l
  ne : X ≠ A
  lo : w.heap.size ≤ X
  slot : l[p]? = some (.slice (some ⟨X, 0, none⟩) (L p) (L p))
  own : wr.ownsRow w.heap.size 30 1 (.slice (some ⟨X, 0, none⟩) (L p) (L p)) (L p) xs
  len : xs.length = L p
  told : ∀ i, i < g → ∃ r, xs[i]? = some (.float .f64 r) ∧ ab r = pow2F (f p i)
theorem PJ.mono {w wr w' : World} {A X n : Nat} {L : Nat → Nat} {f : Nat → Nat → Nat × Nat} {p g : Nat} {l xs : List Value} (h : PJ w wr A X n L f p g l xs) (hu : Up wr w') : PJ w w' A X n L f p g l xs :=
  ⟨h.base.mono hu, h.ne, h.lo, h.slot, owns_up h.own hu, h.len, h.told⟩
theorem PJ.start {w wr w1 : World} {A X Y n : Nat} {L : Nat → Nat} {f : Nat → Nat → Nat × Nat} {p : Nat} {l : List Value} (h : PI w wr A X n L f p l) (hp : p < n) (hm : MadeF (L p) Y wr w1) : PJ w (w1.setCell ⟨A, p, none⟩ (.slice (some ⟨Y, 0, none⟩) (L p) (L p))) A Y n L f p 0 (l.set p (.slice (some ⟨Y, 0, none⟩) (L p) (L p))) (List.replicate (L p) (.float .f64 0)) := by
  obtain ⟨e1, r1, u1⟩ := hm
  have hA : A < wr.heap.size := (World.ownsRow.lt h.row _ rfl).2
  have hs := h.up.size
  have h1 : PI w w1 A Y n L f p l := by
    have q := h.mono u1
    exact ⟨q.row, q.len, q.lo, (h.done.fresh (by omega)).up u1, q.up⟩
  obtain ⟨s1, s2⟩ := World.ownsRow.stored h1.row p (.slice (some ⟨Y, 0, none⟩) (L p) (L p))
  refine ⟨⟨s1, by simp [h.len], h.lo, (h1.done.far s2 (Or.inl rfl)).set _, But.up s2 h1.up h.lo⟩, by omega, by omega, ?_, owns_far (owns_down r1 (by omega)) s2 (by omega), by simp, fun i hi => by omega⟩
  rw [List.getElem?_set, if_pos rfl, if_pos (by have := h.len; omega)]
theorem PI.cell {w wr : World} {A X n : Nat} {L : Nat → Nat} {f : Nat → Nat → Nat × Nat} {p : Nat} {l : List Value} (h : PI w wr A X n L f p l) {i : Nat} (hi : i < n) : ∃ v, wr.cell? ⟨A, i, none⟩ = some v ∧ wr.frozen? ⟨A, i, none⟩ = false := by
  have hl := h.len
  exact ⟨l[i]'(by omega), by rw [World.ownsRow.cellAt h.row i (by omega), List.getElem?_eq_getElem (by omega)], World.ownsRow.frozenAt h.row i⟩
theorem PJ.cells {w wr : World} {A X n : Nat} {L : Nat → Nat} {f : Nat → Nat → Nat × Nat} {p g : Nat} {l xs : List Value} (h : PJ w wr A X n L f p g l xs) (hp : p < n) {i : Nat} (hi : i < L p) : wr.cell? ⟨A, p, none⟩ = some (.slice (some ⟨X, 0, none⟩) (L p) (L p)) ∧ (wr.cell? ⟨X, i, none⟩).isSome = true ∧ wr.frozen? ⟨X, i, none⟩ = false := by
  have hl := h.len
  refine ⟨by rw [World.ownsRow.cellAt h.base.row p (by omega)]; exact h.slot, ?_, World.ownsRow.frozenAt h.own i⟩
  rw [World.ownsRow.cellAt h.own i (by omega), List.getElem?_eq_getElem (by omega)]; rfl
theorem PJ.put {w wr : World} {A X n : Nat} {L : Nat → Nat} {f : Nat → Nat → Nat × Nat} {p g : Nat} {l xs : List Value} (h : PJ w wr A X n L f p g l xs) (hg : g < L p) {r : Nat} (hr : ab r = pow2F (f p g)) : PJ w (wr.setCell ⟨X, g, none⟩ (.float .f64 r)) A X n L f p (g + 1) l (xs.set g (.float .f64 r)) := by
  have hl := h.len
  obtain ⟨s1, s2⟩ := World.ownsRow.stored h.own g (.float .f64 r)
  refine ⟨⟨owns_far h.base.row s2 (Ne.symm h.ne), h.base.len, h.base.lo, h.base.done.far s2 (Or.inr rfl), But.up s2 h.base.up h.lo⟩, h.ne, h.lo, h.slot, s1, by simpa using hl, fun i hi => ?_⟩
  rw [List.getElem?_set]
  by_cases e : g = i
  · subst e; rw [if_pos rfl, if_pos (by omega)]; exact ⟨r, rfl, hr⟩
  · rw [if_neg e]; exact h.told i (by omega)
theorem PJ.done {w wr : World} {A X n : Nat} {L : Nat → Nat} {f : Nat → Nat → Nat × Nat} {p : Nat} {l xs : List Value} (h : PJ w wr A X n L f p (L p) l xs) : PI w wr A A n L f (p + 1) l := by
  refine ⟨h.base.row, h.base.len, h.base.lo, fun i hi => ?_, h.base.up⟩
  by_cases e : i = p
  · subst e
    refine ⟨X, h.slot, (World.ownsRow.lt h.own _ rfl).2, h.ne, h.ne, fun g hg => ?_⟩
    obtain ⟨r, k1, k2⟩ := h.told g hg
    exact ⟨r, by rw [World.ownsRow.cellAt h.own g (by omega)]; exact k1, k2⟩
  · obtain ⟨B, h1, h2, h3, h4, h5⟩ := h.base.done i (by omega)
    exact ⟨B, h1, h2, h3, h3, h5⟩
/-- What Powers leaves. -/
def PW (w : World) (n : Nat) (L : Nat → Nat) (f : Nat → Nat → Nat × Nat) (e : Ending) (w' : World) : Prop := ∃ A l, e = .returned (.slice (some ⟨A, 0, none⟩) n n) ∧ Hid (PI w w' A A n L f n l)
theorem kept3_up {w w' : World} {a1 a4 o1 o4 : Nat} {x1 : Value} (h : w.cell? ⟨a1, o1, none⟩ = some x1 ∧ (w.cell? ⟨a4, o4, none⟩).isSome = true ∧ w.frozen? ⟨a4, o4, none⟩ = false) (hu : Up w w') :
    w'.cell? ⟨a1, o1, none⟩ = some x1 ∧ (w'.cell? ⟨a4, o4, none⟩).isSome = true ∧ w'.frozen? ⟨a4, o4, none⟩ = false := by
  obtain ⟨h1, h4, h5⟩ := h
  obtain ⟨v, hv⟩ := Option.isSome_iff_exists.1 h4
  refine ⟨cell_up h1 hu, by rw [cell_up hv hu]; rfl, ?_⟩
  have hb := World.block_lt_of_cell? w _ hv
  have e := hu.block _ hb
  simp only [World.frozen?] at h5 ⊢
  rw [e]; exact h5
theorem kept3_set {w : World} {a1 a4 o1 o4 : Nat} {x1 y : Value} (n1 : a4 ≠ a1) (h : w.cell? ⟨a1, o1, none⟩ = some x1 ∧ (w.cell? ⟨a4, o4, none⟩).isSome = true ∧ w.frozen? ⟨a4, o4, none⟩ = false) :
    (w.setCell ⟨a4, o4, none⟩ y).cell? ⟨a1, o1, none⟩ = some x1 ∧ ((w.setCell ⟨a4, o4, none⟩ y).cell? ⟨a4, o4, none⟩).isSome = true ∧ (w.setCell ⟨a4, o4, none⟩ y).frozen? ⟨a4, o4, none⟩ = false := by
  obtain ⟨h1, h4, h5⟩ := h
  refine ⟨by rw [World.cell?_setCell_far _ _ _ _ n1]; exact h1, ?_, by simpa using h5⟩
  rw [World.cell?_setCell_same' _ _ _ h4]; rfl
set_option maxHeartbeats 4000000 in
theorem t21 {w : World} {R n c : Nat} {P : Nat → Option Addr} {L C G O : Nat → Nat} {f : Nat → Nat → Nat × Nat} (h : TB w R n P L C) (hr : ∀ i, i < n → 0 < L i → P i = some ⟨G i, O i, none⟩ ∧ RD w (G i) (O i) (L i) (f i)) (hn : n ≤ 1000000) (hL : ∀ i, i < n → L i ≤ 1000000) :
    Calls Try.prog 21 #[.slice (some ⟨R, 0, none⟩) n c] w (PW w n L f) := by
  have HT : Hid (TB w R n P L C) := h
  have HR : Hid (∀ i, i < n → 0 < L i → P i = some ⟨G i, O i, none⟩ ∧ RD w (G i) (O i) (L i) (f i)) := hr
  have HL : Hid (∀ i, i < n → L i ≤ 1000000) := hL
  clear h hr hL
  go_enter Try.func21, Try.ntmps21
  go_wp2_with ((with_reducible refine upon_makeQ (by omega) ?_); intro A w1 HM)
  have HS : Hid (PI w w1 A A n L f 0 (List.replicate n (.slice none 0 0))) := ⟨owns_down HM.out.2.1 (by have := HM.out.1; omega), by simp, by have := HM.out.1; omega, fun i hi => by omega, HM.out.2.2⟩
  clear HM
  go_loopw [13] (fun vi wr => ∃ (p : Nat) (l : List Value), p ≤ n ∧ vi = .int .i64 p ∧ Hid (PI w wr A A n L f p l)) (fun vi _ => n - (intOf vi).toNat)
  case atStart => exact ⟨0, _, by omega, rfl, HS⟩
  case round =>
    clear HS
    obtain ⟨p, l, hp, rfl, HS⟩ := hrel
    by_cases hlt : p < n
    · have y1 : (p : Int) < (n : Int) := by omega
      have y2 : (0 : Int) ≤ (p : Int) := by omega
      have c1 := (HT.out.up HS.out.up) p hlt
      obtain ⟨k, hk, hkb⟩ : ∃ k, L p = k ∧ k ≤ 1000000 := ⟨_, rfl, HL.out p hlt⟩
      rw [hk] at c1
      have HK : Hid (L p = k) := hk
      clear hk
      go_wp2_with ((with_reducible refine upon_makeF hkb ?_); intro Y w2 HM
                   have HJ : Hid (PJ w (w2.setCell ⟨A, p, none⟩ (.slice (some ⟨Y, 0, none⟩) k k)) A Y n L f p 0 (l.set p (.slice (some ⟨Y, 0, none⟩) k k)) (List.replicate k (.float .f64 0))) := (by
                     have q := HK.out; subst q; exact PJ.start HS.out hlt HM.out)
                   obtain ⟨v2, c2, c3⟩ := (HS.out.mono HM.out.2.2).cell hlt
                   clear HM HS)
      go_loopw [26] (fun vi wr => ∃ (g : Nat) (xs : List Value), g ≤ k ∧ vi = .int .i64 g ∧ Hid (PJ w wr A Y n L f p g (l.set p (.slice (some ⟨Y, 0, none⟩) k k)) xs)) (fun vi _ => k - (intOf vi).toNat)
      case atStart => exact ⟨0, _, by omega, rfl, HJ⟩
      case round =>
        clear HJ c2 c3 c1
        obtain ⟨g, xs, hg, rfl, HJ⟩ := hrel
        by_cases hlt2 : g < k
        · have z1 : (g : Int) < (k : Int) := by omega
          have z2 : (0 : Int) ≤ (g : Int) := by omega
          obtain ⟨d1, d2, d3⟩ := HJ.out.cells hlt (i := g) (by rw [HK.out]; exact hlt2)
          rw [HK.out] at d1
          obtain ⟨q1, q2⟩ := HR.out p hlt (by rw [HK.out]; omega)
          have d4 := (q2.up HJ.out.base.up) g (by rw [HK.out]; exact hlt2)
          obtain ⟨u, v, HF⟩ : ∃ u v, Hid (f p g = (u, v)) := ⟨_, _, rfl⟩
          rw [HF.out] at d4
          simp only [ce] at d4
          have hne := HJ.out.ne
          rw [q1]
          clear q1 q2
          go_wp2
          go_region_held3 (fun w' => w'.cell? ⟨A, p, none⟩ = some (.slice (some ⟨Y, 0, none⟩) k k) ∧ (w'.cell? ⟨Y, g, none⟩).isSome = true ∧ w'.frozen? ⟨Y, g, none⟩ = false)
            (first | (exact kept3_up ⟨d1, d2, d3⟩ (Up.drewN _ 1)) | (exact kept3_up ‹_› hu.out) | (exact kept3_set hne ‹_›) | go_keep)
            ((go_at_call 29; (with_reducible refine (t29 _ _ _).mono ?_); rintro e w2 ⟨r, rfl, hr, hu⟩))
          clear d1 d2 d3 d4
          go_wp2
          go_roundw
          case rel =>
            refine ⟨g + 1, _, by omega, by go_num, (HJ.out.mono ((Up.drewN _ 1).trans hu.out)).put (by rw [HK.out]; exact hlt2) (by rw [HF.out]; exact hr.out)⟩
          case measure => simp [intOf]; omega
        · obtain rfl : g = k := by omega
          go_wp2
          go_roundw
          case rel =>
            have q := HK.out
            subst q
            exact ⟨p + 1, _, by omega, by go_num, HJ.out.done⟩
          case measure => simp [intOf]; omega
    · obtain rfl : p = n := by omega
      go_wp2
      go_ret
      exact ⟨A, l, rfl, HS⟩
end Go.Proofs.Ytablmkpfbhifnab
