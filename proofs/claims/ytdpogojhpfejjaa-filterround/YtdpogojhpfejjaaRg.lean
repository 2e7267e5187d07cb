/- A ring: Feed. -/
import Derived.Test.YtdpogojhpfejjaaRf
import Derived.StillTailTactics
import Derived.Deep.MidRow
namespace Go.Proofs.Ytdpogojhpfejjaa
open Go.ChangeShapes Go.WideShapes Go.ChangeAt Go.RowKit Go.Fl Ieee
attribute [local go_sem] run_store_float run_store_c isSome_set call32 call31 run_neg fold_eq fold_ne fold_lt fold_gt abs_eq

/-- A number times a float. -/
def sclC (x : C2) (b : Option Nat) : C2 := (bin .mul x.1 b, bin .mul x.2 b)
/-- A ring's state ahead of the sample at i. -/
def ringS (B0 B1 B2 A1 A2 : Option Nat) (f : Nat → C2) : Nat → C2 × C2
  | 0 => ((some 0, some 0), (some 0, some 0))
  | i + 1 => (addC (subC (sclC (f i) B1) (sclC (addC (sclC (f i) B0) (ringS B0 B1 B2 A1 A2 f i).1) A1)) (ringS B0 B1 B2 A1 A2 f i).2, subC (sclC (f i) B2) (sclC (addC (sclC (f i) B0) (ringS B0 B1 B2 A1 A2 f i).1) A2))
/-- What it tells of the sample at i. -/
def ringY (B0 B1 B2 A1 A2 : Option Nat) (f : Nat → C2) (i : Nat) : C2 := addC (sclC (f i) B0) (ringS B0 B1 B2 A1 A2 f i).1
/-- A number of two parts, none of which is NaN. -/
def okC (c : C2) : Prop := ∃ x y, c = (some x, some y) ∧ ab x = some x ∧ ab y = some y
/-- All that a ring reckons of a sample x, ahead of which its state is s and t, is no NaN. -/
structure RV (B0 B1 B2 A1 A2 : Option Nat) (x s t : C2) : Prop where
  p1 : okC (sclC x B0)
  p2 : okC (addC (sclC x B0) s)
  p3 : okC (sclC x B1)
  p4 : okC (sclC (addC (sclC x B0) s) A1)
  p5 : okC (subC (sclC x B1) (sclC (addC (sclC x B0) s) A1))
  p6 : okC (addC (subC (sclC x B1) (sclC (addC (sclC x B0) s) A1)) t)
  p7 : okC (sclC x B2)
  p8 : okC (sclC (addC (sclC x B0) s) A2)
  p9 : okC (subC (sclC x B2) (sclC (addC (sclC x B0) s) A2))
/-- The same, by bits. -/
structure SV (B0 B1 B2 A1 A2 x y sx sy tx ty u1 v1 yx yy u3 v3 u4 v4 u5 v5 sx' sy' u7 v7 u8 v8 tx' ty' : Nat) : Prop where
  a1 : bin .mul (ab x) (ab B0) = some u1
  b1 : bin .mul (ab y) (ab B0) = some v1
  a2 : bin .add (ab u1) (ab sx) = some yx
  b2 : bin .add (ab v1) (ab sy) = some yy
  a3 : bin .mul (ab x) (ab B1) = some u3
  b3 : bin .mul (ab y) (ab B1) = some v3
  a4 : bin .mul (ab yx) (ab A1) = some u4
  b4 : bin .mul (ab yy) (ab A1) = some v4
  a5 : bin .sub (ab u3) (ab u4) = some u5
  b5 : bin .sub (ab v3) (ab v4) = some v5
  a6 : bin .add (ab u5) (ab tx) = some sx'
  b6 : bin .add (ab v5) (ab ty) = some sy'
  a7 : bin .mul (ab x) (ab B2) = some u7
  b7 : bin .mul (ab y) (ab B2) = some v7
  a8 : bin .mul (ab yx) (ab A2) = some u8
  b8 : bin .mul (ab yy) (ab A2) = some v8
  a9 : bin .sub (ab u7) (ab u8) = some tx'
  b9 : bin .sub (ab v7) (ab v8) = some ty'
theorem RV.bits {B0 B1 B2 A1 A2 x y sx sy tx ty : Nat} (h : RV (ab B0) (ab B1) (ab B2) (ab A1) (ab A2) (ab2 (x, y)) (ab2 (sx, sy)) (ab2 (tx, ty))) :
    ∃ u1 v1 yx yy u3 v3 u4 v4 u5 v5 sx' sy' u7 v7 u8 v8 tx' ty', SV B0 B1 B2 A1 A2 x y sx sy tx ty u1 v1 yx yy u3 v3 u4 v4 u5 v5 sx' sy' u7 v7 u8 v8 tx' ty' ∧
      ab2 (yx, yy) = addC (sclC (ab2 (x, y)) (ab B0)) (ab2 (sx, sy)) ∧
      ab2 (sx', sy') = addC (subC (sclC (ab2 (x, y)) (ab B1)) (sclC (addC (sclC (ab2 (x, y)) (ab B0)) (ab2 (sx, sy))) (ab A1))) (ab2 (tx, ty)) ∧
      ab2 (tx', ty') = subC (sclC (ab2 (x, y)) (ab B2)) (sclC (addC (sclC (ab2 (x, y)) (ab B0)) (ab2 (sx, sy))) (ab A2)) := by
  obtain ⟨u1, v1, e1, m1, n1⟩ := h.p1
  obtain ⟨yx, yy, e2, m2, n2⟩ := h.p2
  obtain ⟨u3, v3, e3, m3, n3⟩ := h.p3
  obtain ⟨u4, v4, e4, m4, n4⟩ := h.p4
  obtain ⟨u5, v5, e5, m5, n5⟩ := h.p5
  obtain ⟨sx', sy', e6, m6, n6⟩ := h.p6
  obtain ⟨u7, v7, e7, m7, n7⟩ := h.p7
  obtain ⟨u8, v8, e8, m8, n8⟩ := h.p8
  obtain ⟨tx', ty', e9, m9, n9⟩ := h.p9
  refine ⟨u1, v1, yx, yy, u3, v3, u4, v4, u5, v5, sx', sy', u7, v7, u8, v8, tx', ty', ?_, ?_, ?_, ?_⟩
  · rw [e5] at e6
    rw [e2] at e4 e5 e8 e9
    rw [e3, e4] at e5
    rw [e7, e8] at e9
    rw [e1] at e2
    simp only [sclC, addC, subC, ab2, Prod.mk.injEq] at e1 e2 e3 e4 e5 e6 e7 e8 e9
    rw [← m1, ← n1] at e2
    rw [← m2, ← n2] at e4 e8
    rw [← m3, ← n3, ← m4, ← n4] at e5
    rw [← m5, ← n5] at e6
    rw [← m7, ← n7, ← m8, ← n8] at e9
    exact ⟨e1.1, e1.2, e2.1, e2.2, e3.1, e3.2, e4.1, e4.2, e5.1, e5.2, e6.1, e6.2, e7.1, e7.2, e8.1, e8.2, e9.1, e9.2⟩
  · rw [e2]; simp only [ab2, m2, n2]
  · rw [e6]; simp only [ab2, m6, n6]
  · rw [e9]; simp only [ab2, m9, n9]
/-- The told row, of which k are told. -/
structure RI (w wr : World) (b g n : Nat) (F : Nat → C2) (k : Nat) : Prop where
  row : ∃ d : List (Nat × Nat), d.length = n ∧ CRow w.heap.size wr (.slice (some ⟨g, 0, none⟩) n n) d ∧ ∀ j, j < k → ab2 d[j]! = F j
  but : But b w wr
theorem RI.up {w wr w' : World} {b g n : Nat} {F : Nat → C2} {k : Nat} (h : RI w wr b g n F k) (hu : Up wr w') : RI w w' b g n F k := by
  obtain ⟨⟨d, h1, h2, h3⟩, h4⟩ := h
  exact ⟨⟨d, h1, h2.up hu, h3⟩, h4.trans (But.of_up hu)⟩
theorem RI.state {w wr w' : World} {b g n : Nat} {F : Nat → C2} {k : Nat} (h : RI w wr b g n F k) (hb : But b wr w') (hne : g ≠ b) : RI w w' b g n F k := by
  obtain ⟨⟨d, h1, h2, h3⟩, h4⟩ := h
  exact ⟨⟨d, h1, h2.far hb hne, h3⟩, h4.trans hb⟩
theorem RI.cell {w wr : World} {b g n : Nat} {F : Nat → C2} {k i : Nat} (h : RI w wr b g n F k) (hi : i < n) : (wr.cell? ⟨g, i, none⟩).isSome = true ∧ wr.frozen? ⟨g, i, none⟩ = false := by
  obtain ⟨⟨d, rfl, h2, h3⟩, h4⟩ := h
  exact ⟨by rw [h2.cell hi]; rfl, h2.frz i⟩
theorem RI.put {w wr : World} {b g n : Nat} {F : Nat → C2} {k x y : Nat} (h : RI w wr b g n F k) (hk : k < n) (hv : ab2 (x, y) = F k) (hg : w.heap.size ≤ g) : RI w (wr.setCell ⟨g, k, none⟩ (.complex .f64 x y)) b g n F (k + 1) := by
  obtain ⟨⟨d, rfl, h2, h3⟩, h4⟩ := h
  obtain ⟨s1, s2⟩ := h2.put k x y
  refine ⟨⟨d.set k (x, y), by simp, s1, ?_⟩, ?_⟩
  · intro j hj
    rw [set_at d k j _ hk]
    split
    · rename_i e; subst e; exact hv
    · exact h3 j (by omega)
  · exact ⟨s2.os.trans h4.os, s2.tape.trans h4.tape, s2.output.trans h4.output, Nat.le_trans h4.size s2.size, fun j hj hne => by rw [s2.block j (Nat.lt_of_lt_of_le hj h4.size) (by simp; omega)]; exact h4.block j hj hne⟩
theorem RG.put {b0 : Nat} {w : World} {b B0 B1 B2 A1 A2 sx sy tx ty : Nat} (h : RG b0 w b B0 B1 B2 A1 A2 sx sy tx ty) (sx' sy' tx' ty' : Nat) :
    RG b0 ((w.setCell ⟨b, 5, none⟩ (.complex .f64 sx' sy')).setCell ⟨b, 6, none⟩ (.complex .f64 tx' ty')) b B0 B1 B2 A1 A2 sx' sy' tx' ty' ∧ But b w ((w.setCell ⟨b, 5, none⟩ (.complex .f64 sx' sy')).setCell ⟨b, 6, none⟩ (.complex .f64 tx' ty')) := by
  refine ⟨⟨h.lo, ?_, ?_, ?_, ?_, ?_, ?_, ?_, ?_, ?_⟩, (show But b w _ from grown_set w ⟨b, 5, none⟩ _).trans (grown_set _ ⟨b, 6, none⟩ _)⟩
  · rw [World.cell?_setCell_other _ _ _ _ (by simp), World.cell?_setCell_other _ _ _ _ (by simp)]; exact h.k0
  · rw [World.cell?_setCell_other _ _ _ _ (by simp), World.cell?_setCell_other _ _ _ _ (by simp)]; exact h.k1
  · rw [World.cell?_setCell_other _ _ _ _ (by simp), World.cell?_setCell_other _ _ _ _ (by simp)]; exact h.k2
  · rw [World.cell?_setCell_other _ _ _ _ (by simp), World.cell?_setCell_other _ _ _ _ (by simp)]; exact h.k3
  · rw [World.cell?_setCell_other _ _ _ _ (by simp), World.cell?_setCell_other _ _ _ _ (by simp)]; exact h.k4
  · rw [World.cell?_setCell_other _ _ _ _ (by simp)]; exact World.cell?_setCell_same _ _ _ h.k5
  · exact World.cell?_setCell_same _ _ _ (by rw [World.cell?_setCell_other _ _ _ _ (by simp)]; exact h.k6)
  · rw [World.frozen?_setCell, World.frozen?_setCell]; exact h.f5
  · rw [World.frozen?_setCell, World.frozen?_setCell]; exact h.f6
/-- What a ring's Feed leaves. -/
def RD7 (b0 : Nat) (w : World) (b n B0 B1 B2 A1 A2 : Nat) (f : Nat → C2) (e : Ending) (w' : World) : Prop :=
  ∃ g d sx sy tx ty, e = .returned (.slice (some ⟨g, 0, none⟩) n n) ∧ Hid (CRow w.heap.size w' (.slice (some ⟨g, 0, none⟩) n n) d) ∧ Hid (d.map ab2 = (List.range n).map (ringY (ab B0) (ab B1) (ab B2) (ab A1) (ab A2) f)) ∧ Hid (But b w w') ∧
    Hid (RG b0 w' b B0 B1 B2 A1 A2 sx sy tx ty) ∧ Hid ((ringS (ab B0) (ab B1) (ab B2) (ab A1) (ab A2) f n) = (ab2 (sx, sy), ab2 (tx, ty)))
theorem RI.done {w wr : World} {b g n : Nat} {F : Nat → C2} (h : RI w wr b g n F n) : ∃ d, CRow w.heap.size wr (.slice (some ⟨g, 0, none⟩) n n) d ∧ d.map ab2 = (List.range n).map F := by
  obtain ⟨⟨d, rfl, h2, h3⟩, h4⟩ := h
  refine ⟨d, h2, List.ext_getElem (by simp) fun i hi _ => ?_⟩
  have hi' : i < d.length := by simpa using hi
  have := h3 i hi'
  rw [getElem!_pos d i hi'] at this
  simpa using this
set_option maxRecDepth 100000 in
set_option maxHeartbeats 4000000 in
theorem t7 {b0 : Nat} {w : World} {b B0 B1 B2 A1 A2 : Nat} (h : RG b0 w b B0 B1 B2 A1 A2 0 0 0 0) (gx n cx : Nat) (x : Nat → Nat × Nat) (hX : RD w gx 0 n x) (hne : gx ≠ b) (hn : n ≤ 4096)
    (hV : ∀ i, i < n → RV (ab B0) (ab B1) (ab B2) (ab A1) (ab A2) (ab2 (x i)) (ringS (ab B0) (ab B1) (ab B2) (ab A1) (ab A2) (fun i => ab2 (x i)) i).1 (ringS (ab B0) (ab B1) (ab B2) (ab A1) (ab A2) (fun i => ab2 (x i)) i).2) :
    Calls Try.prog 7 #[.pointer (some ⟨b, 0, none⟩), .slice (some ⟨gx, 0, none⟩) n cx] w (RD7 b0 w b n B0 B1 B2 A1 A2 (fun i => ab2 (x i))) := by
  have H : Hid (RG b0 w b B0 B1 B2 A1 A2 0 0 0 0) := h
  have HX : Hid (RD w gx 0 n x) := hX
  have HN : Hid (gx ≠ b) := hne
  have HV : Hid (∀ i, i < n → RV (ab B0) (ab B1) (ab B2) (ab A1) (ab A2) (ab2 (x i)) (ringS (ab B0) (ab B1) (ab B2) (ab A1) (ab A2) (fun i => ab2 (x i)) i).1 (ringS (ab B0) (ab B1) (ab B2) (ab A1) (ab A2) (fun i => ab2 (x i)) i).2) := hV
  have lb : Hid (b < w.heap.size) := World.block_lt_of_cell? w _ h.k0
  clear h hX hne hV
  go_enter Try.func7, Try.ntmps7
  go_wp2_with ((with_reducible refine upon_make (n := n) (by omega) ?_); intro gl w2 HM)
  have L3 : Hid (w.heap.size = gl) := HM.out.1
  have HI : Hid (RI w w2 b gl n (ringY (ab B0) (ab B1) (ab B2) (ab A1) (ab A2) (fun i => ab2 (x i))) 0) := by
    obtain ⟨m1, m2, m3⟩ := HM.out
    rw [← m1] at m2 ⊢
    exact ⟨⟨_, by simp, m2, fun j hj => by omega⟩, But.of_up m3⟩
  have HG : Hid (RG b0 w2 b B0 B1 B2 A1 A2 0 0 0 0) := H.out.up HM.out.2.2
  clear HM H
  go_loopw [6, 7, 8, 16] (fun _ _ _ vi wr => ∃ i sx sy tx ty : Nat, i ≤ n ∧ vi = .int .i64 i ∧ Hid (RI w wr b gl n (ringY (ab B0) (ab B1) (ab B2) (ab A1) (ab A2) (fun i => ab2 (x i))) i) ∧ Hid (RG b0 wr b B0 B1 B2 A1 A2 sx sy tx ty) ∧ Hid ((ringS (ab B0) (ab B1) (ab B2) (ab A1) (ab A2) (fun i => ab2 (x i)) i) = (ab2 (sx, sy), ab2 (tx, ty)))) (fun _ _ _ vi _ => n - (intOf vi).toNat)
  case atStart => exact ⟨0, 0, 0, 0, 0, by omega, rfl, HI, HG, rfl⟩
  case round =>
    clear HI HG
    obtain ⟨i, sx, sy, tx, ty, hi, rfl, HI, HG, HS⟩ := hrel
    by_cases hlt : i < n
    · obtain ⟨px, py, hp⟩ : ∃ px py, x i = (px, py) := ⟨_, _, rfl⟩
      have cx0 := HI.out.but.cell HN.out (HX.out i hlt)
      rw [Nat.zero_add, hp] at cx0
      have cx1 : wr.cell? ⟨gx, i, none⟩ = some (.complex .f64 px py) := cx0
      clear cx0
      have z1 : (i : Int) < (n : Int) := by omega
      obtain ⟨u1, v1, yx, yy, u3, v3, u4, v4, u5, v5, sx', sy', u7, v7, u8, v8, tx', ty', S, q1, q2, q3⟩ := RV.bits (B0 := B0) (B1 := B1) (B2 := B2) (A1 := A1) (A2 := A2) (x := px) (y := py) (sx := sx) (sy := sy) (tx := tx) (ty := ty) (by have := HV.out i hlt; rw [HS.out, hp] at this; exact this)
      have QY : Hid (ab2 (yx, yy) = ringY (ab B0) (ab B1) (ab B2) (ab A1) (ab A2) (fun i => ab2 (x i)) i) := by
        show _ = _
        rw [q1]; unfold ringY; rw [HS.out]
        show _ = addC (sclC (ab2 (x i)) (ab B0)) (ab2 (sx, sy))
        rw [hp]
      have QS : Hid (ringS (ab B0) (ab B1) (ab B2) (ab A1) (ab A2) (fun i => ab2 (x i)) (i + 1) = (ab2 (sx', sy'), ab2 (tx', ty'))) := by
        show _ = _
        rw [q2, q3, ringS, HS.out, hp]
      have C1 := t13 S.a1 S.b1
      have C3 := t13 S.a3 S.b3
      have C4 := t13 S.a4 S.b4
      have C7 := t13 S.a7 S.b7
      have C8 := t13 S.a8 S.b8
      have r2 : ∀ w, (binOp .add 28 (.complex .f64 u1 v1) (.complex .f64 sx sy)).run Try.prog w = .ok (.complex .f64 yx yy) w := fun w => run_cadd_some 28 w S.a2 S.b2
      have r5 : ∀ w, (binOp .sub 28 (.complex .f64 u3 v3) (.complex .f64 u4 v4)).run Try.prog w = .ok (.complex .f64 u5 v5) w := fun w => run_csub_some 28 w S.a5 S.b5
      have r6 : ∀ w, (binOp .add 28 (.complex .f64 u5 v5) (.complex .f64 tx ty)).run Try.prog w = .ok (.complex .f64 sx' sy') w := fun w => run_cadd_some 28 w S.a6 S.b6
      have r9 : ∀ w, (binOp .sub 28 (.complex .f64 u7 v7) (.complex .f64 u8 v8)).run Try.prog w = .ok (.complex .f64 tx' ty') w := fun w => run_csub_some 28 w S.a9 S.b9
      have k0 := HG.out.k0
      have k1 := HG.out.k1
      have k2 := HG.out.k2
      have k3 := HG.out.k3
      have k4 := HG.out.k4
      have k5 := HG.out.k5
      have k6 := HG.out.k6
      have f5 := HG.out.f5
      have f6 := HG.out.f6
      clear S q1 q2 q3 hp HS
      have C1 : Hid (∀ w, Calls Try.prog 13 #[.complex .f64 px py, .float .f64 B0] w fun e w' => e = .returned (.complex .f64 u1 v1) ∧ w' = w) := C1
      have C3 : Hid (∀ w, Calls Try.prog 13 #[.complex .f64 px py, .float .f64 B1] w fun e w' => e = .returned (.complex .f64 u3 v3) ∧ w' = w) := C3
      have C4 : Hid (∀ w, Calls Try.prog 13 #[.complex .f64 yx yy, .float .f64 A1] w fun e w' => e = .returned (.complex .f64 u4 v4) ∧ w' = w) := C4
      have C7 : Hid (∀ w, Calls Try.prog 13 #[.complex .f64 px py, .float .f64 B2] w fun e w' => e = .returned (.complex .f64 u7 v7) ∧ w' = w) := C7
      have C8 : Hid (∀ w, Calls Try.prog 13 #[.complex .f64 yx yy, .float .f64 A2] w fun e w' => e = .returned (.complex .f64 u8 v8) ∧ w' = w) := C8
      go_wp2_with fail
      refine wp_region_still_lit (by kernel_rfl) (by kernel_rfl) ?_
      repeat (first | still_step | still_call (C1.out _))
      refine wpStill_nil ?_
      have e4 : ({ heap := wr.heap, tape := wr.tape, drawn := wr.drawn + 1, os := wr.os, output := wr.output } : World) = wr.drew := rfl
      rw [e4]
      clear e4 C1 r2 k0 k1 k2 k3 k4 k5 k6 f5 f6 cx1
      have HI4 : Hid (RI w wr.drew b gl n (ringY (ab B0) (ab B1) (ab B2) (ab A1) (ab A2) (fun i => ab2 (x i))) i) := HI.out.up (Up.drew _)
      have HG4 : Hid (RG b0 wr.drew b B0 B1 B2 A1 A2 sx sy tx ty) := HG.out.up (Up.drew _)
      clear HI HG
      generalize wr.drew = w4 at *
      have k1 := HG4.out.k1
      have k2 := HG4.out.k2
      have k3 := HG4.out.k3
      have k4 := HG4.out.k4
      have k6 := HG4.out.k6
      go_wp2_with fail
      refine wp_region_still_tail 40 (by kernel_rfl) (by kernel_rfl) ?_
      simp only [List.take_succ_cons, List.take_zero, List.drop_succ_cons, List.drop_zero]
      iterate 7 still_step
      still_call (C3.out _)
      iterate 6 still_step
      still_call (C4.out _)
      iterate 13 still_step
      still_call (C7.out _)
      iterate 6 still_step
      still_call (C8.out _)
      iterate 4 still_step
      refine wpStill_nil ?_
      have e5 : ({ heap := w4.heap, tape := w4.tape, drawn := w4.drawn + 1, os := w4.os, output := w4.output } : World) = w4.drew := rfl
      rw [e5]
      clear e5 C3 C4 C7 C8 r5 r6 r9 k1 k2 k3 k4 k6
      have HI5 : Hid (RI w w4.drew b gl n (ringY (ab B0) (ab B1) (ab B2) (ab A1) (ab A2) (fun i => ab2 (x i))) i) := HI4.out.up (Up.drew _)
      have HG5 : Hid (RG b0 w4.drew b B0 B1 B2 A1 A2 sx sy tx ty) := HG4.out.up (Up.drew _)
      clear HI4 HG4
      generalize w4.drew = w5 at *
      have k5 := HG5.out.k5
      have k6 := HG5.out.k6
      have f5 := HG5.out.f5
      have f6 := HG5.out.f6
      obtain ⟨g1, g2⟩ := HI5.out.cell hlt
      have s5 : (w5.cell? ⟨b, 5, none⟩).isSome = true := by rw [k5]; rfl
      have s6 : (w5.cell? ⟨b, 6, none⟩).isSome = true := by rw [k6]; rfl
      clear k5 k6
      have nb : gl ≠ b := by have := lb.out; have := L3.out; omega
      obtain ⟨P1, P2⟩ := HG5.out.put sx' sy' tx' ty'
      have HP : Hid (RG b0 ((w5.setCell ⟨b, 5, none⟩ (.complex .f64 sx' sy')).setCell ⟨b, 6, none⟩ (.complex .f64 tx' ty')) b B0 B1 B2 A1 A2 sx' sy' tx' ty') := P1
      have HJ : Hid (RI w ((w5.setCell ⟨b, 5, none⟩ (.complex .f64 sx' sy')).setCell ⟨b, 6, none⟩ (.complex .f64 tx' ty')) b gl n (ringY (ab B0) (ab B1) (ab B2) (ab A1) (ab A2) (fun i => ab2 (x i))) i) := HI5.out.state P2 nb
      clear P1 P2 HI5 HG5 nb
      have TH : w5.there b 5 (#[.complex .f64 sx' sy', .complex .f64 tx' ty'] : Array Value).size := by
        intro j hj
        have hj2 : j < 2 := hj
        rcases (show j = 0 ∨ j = 1 by omega) with rfl | rfl
        · exact ⟨s5, f5⟩
        · exact ⟨s6, f6⟩
      refine wpList_store_mid rfl 39 _ _ rfl b 5 #[.complex .f64 sx' sy', .complex .f64 tx' ty'] rfl rfl TH (by kernel_rfl) (by simp [Value.oneCell']) ?_
      have e6 : w5.setCells b 5 (#[.complex .f64 sx' sy', .complex .f64 tx' ty'] : Array Value).toList = (w5.setCell ⟨b, 5, none⟩ (.complex .f64 sx' sy')).setCell ⟨b, 6, none⟩ (.complex .f64 tx' ty') := rfl
      rw [e6]
      clear e6 TH s5 s6 f5 f6
      obtain ⟨g1', g2'⟩ := HJ.out.cell hlt
      clear g1 g2
      generalize (w5.setCell ⟨b, 5, none⟩ (.complex .f64 sx' sy')).setCell ⟨b, 6, none⟩ (.complex .f64 tx' ty') = w6 at *
      go_wp2
      go_roundw
      case rel =>
        have l3 := L3.out
        have lb' := lb.out
        refine ⟨i + 1, sx', sy', tx', ty', by omega, by go_num, HJ.out.put hlt QY.out (by omega), HP.out.but (grown_set _ _ _) (by simp only; omega), QS⟩
      case measure => simp [intOf]; omega
    · obtain rfl : i = n := by omega
      go_wp2
      go_ret
      obtain ⟨d, d1, d2⟩ := HI.out.done
      exact ⟨gl, d, sx, sy, tx, ty, rfl, d1, d2, HI.out.but, HG, HS⟩
end Go.Proofs.Ytdpogojhpfejjaa
