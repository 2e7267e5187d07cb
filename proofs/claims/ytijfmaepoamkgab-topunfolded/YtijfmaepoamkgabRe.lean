/- Resolve. -/
import Derived.Test.YtijfmaepoamkgabRa
import Derived.Test.YtijfmaepoamkgabJi
import Derived.Test.YtijfmaepoamkgabLf
namespace Go.Proofs.Ytijfmaepoamkgab
open Go.ChangeShapes Go.WideShapes Go.ChangeAt Go.RowKit Go.Fl Go.Sort
attribute [local go_sem] run_store_float call18 run_neg fold_eq fold_ne fold_lt fold_gt abs_eq

/-- What Resolve leaves. -/
def ResR (w : World) (A : Int) (L : List Int) (e : Ending) (w' : World) : Prop := Hid (Up w w') ∧ ((A ≠ 0 ∧ e = .returned (.tuple #[.slice none 0 0, .int .i64 A])) ∨ (A = 0 ∧ ∃ p c, e = .returned (.tuple #[.slice p L.length c, .int .i64 0]) ∧ Hid (Fo.OI w.heap.size w' (.slice p L.length c) L)))
theorem eg26 (args : Array Value) (w : World) : (callFunc 26 args).run Try.prog w = .ok (.enter 26 args) w := enters Try.func26 (by kernel_rfl) (by kernel_rfl) _ _
theorem six_up {w w' : World} {a b : Nat} {o : Nat} {v0 v1 v2 v3 v4 v5 : Value} (h : w.cell? ⟨a, 0, none⟩ = some v0 ∧ w.cell? ⟨a, 1, none⟩ = some v1 ∧ w.cell? ⟨a, 2, none⟩ = some v2 ∧ w.cell? ⟨a, 3, none⟩ = some v3 ∧ w.cell? ⟨a, 4, none⟩ = some v4 ∧ w.cell? ⟨b, o, none⟩ = some v5) (hu : Up w w') : w'.cell? ⟨a, 0, none⟩ = some v0 ∧ w'.cell? ⟨a, 1, none⟩ = some v1 ∧ w'.cell? ⟨a, 2, none⟩ = some v2 ∧ w'.cell? ⟨a, 3, none⟩ = some v3 ∧ w'.cell? ⟨a, 4, none⟩ = some v4 ∧ w'.cell? ⟨b, o, none⟩ = some v5 :=
  ⟨cell_up h.1 hu, cell_up h.2.1 hu, cell_up h.2.2.1 hu, cell_up h.2.2.2.1 hu, cell_up h.2.2.2.2.1 hu, cell_up h.2.2.2.2.2 hu⟩
/-- The rows that are laid so far. -/
structure RA (w wr : World) (ra i : Nat) (E : Nat → Nat) (off : Int) (C : Nat → List Int) : Prop where
  up : Up w wr
  fresh : w.heap.size ≤ ra
  arr : ∃ cs, wr.heap[ra]? = some (.cells cs 63) ∧ cs.size = 8
  rows : ∀ j, j < i → (1 ≤ E j ∧ E j ≤ 16384) ∧ ∃ g, g ≠ ra ∧ wr.cell? ⟨ra, j, none⟩ = some (.slice (some ⟨g, 0, none⟩) (E j) (E j)) ∧ ∀ y, y < E j → wr.cell? ⟨g, y, none⟩ = some (.bool (anyB off (E j) (C j) (y : Nat)))
theorem RA.trow {w wr : World} {ra i : Nat} {E : Nat → Nat} {off : Int} {C : Nat → List Int} (h : RA w wr ra i E off C) : ∀ j, j < i → TRow wr ra j (E j) off (C j) := fun j hj => by
  obtain ⟨h1, g, _, h3, h4⟩ := h.rows j hj
  exact ⟨h1.1, h1.2, g, h3, h4⟩
theorem RA.upon {w wr w2 : World} {ra i : Nat} {E : Nat → Nat} {off : Int} {C : Nat → List Int} (h : RA w wr ra i E off C) (hu : Up wr w2) : RA w w2 ra i E off C := by
  obtain ⟨cs, h1, h2⟩ := h.arr
  refine ⟨h.up.trans hu, h.fresh, ⟨cs, (RowKit.Below.block hu _ (Array.getElem?_eq_some_iff.1 h1).1).trans h1, h2⟩, fun j hj => ?_⟩
  obtain ⟨k1, g, k2, k3, k4⟩ := h.rows j hj
  exact ⟨k1, g, k2, cell_up k3 hu, fun y hy => cell_up (k4 y hy) hu⟩
theorem RA.room {w wr : World} {ra i : Nat} {E : Nat → Nat} {off : Int} {C : Nat → List Int} (h : RA w wr ra i E off C) {k : Nat} (hk : k < 8) : (∃ v, wr.cell? ⟨ra, k, none⟩ = some v) ∧ wr.frozen? ⟨ra, k, none⟩ = false ∧ ra < wr.heap.size := by
  obtain ⟨cs, h1, h2⟩ := h.arr
  refine ⟨⟨cs[k]'(by omega), ?_⟩, ?_, (Array.getElem?_eq_some_iff.1 h1).1⟩
  · unfold World.cell?
    simp [h1, h2, hk]
  · unfold World.frozen?
    simp [h1]
theorem grown_set (W : World) (b o : Nat) (v : Value) : W.grownBy (W.setCell ⟨b, o, none⟩ v) (some b) :=
  ⟨rfl, rfl, rfl, by simp [World.setCell], fun k _ hk => Below.heap_setCell _ _ _ k (fun e => hk (by rw [e]))⟩
theorem RA.put {w wr : World} {ra i g : Nat} {E : Nat → Nat} {off : Int} {C : Nat → List Int} (h : RA w wr ra i E off C) (hi : i < 8) (hE : 1 ≤ E i ∧ E i ≤ 16384) (hg : g ≠ ra) (hrow : ∀ y, y < E i → wr.cell? ⟨g, y, none⟩ = some (.bool (anyB off (E i) (C i) (y : Nat)))) : RA w (wr.setCell ⟨ra, i, none⟩ (.slice (some ⟨g, 0, none⟩) (E i) (E i))) ra (i + 1) E off C := by
  obtain ⟨cs, h1, h2⟩ := h.arr
  have hb : But ra wr (wr.setCell ⟨ra, i, none⟩ (.slice (some ⟨g, 0, none⟩) (E i) (E i))) := grown_set _ _ _ _
  refine ⟨hb.up h.up h.fresh, h.fresh, ⟨cs.setIfInBounds i (.slice (some ⟨g, 0, none⟩) (E i) (E i)), ?_, by simp [h2]⟩, fun j hj => ?_⟩
  · simp [World.setCell, Array.getElem?_modify, h1]
  · by_cases e : j = i
    · subst e
      refine ⟨hE, g, hg, ?_, fun y hy => hb.cell hg (hrow y hy)⟩
      unfold World.cell?
      simp [World.setCell, Array.getElem?_modify, h1, h2, hi]
    · obtain ⟨k1, g', k2, k3, k4⟩ := h.rows j (by omega)
      refine ⟨k1, g', k2, ?_, fun y hy => hb.cell k2 (k4 y hy)⟩
      unfold World.cell? at *
      simp [World.setCell, Array.getElem?_modify, h1] at k3 ⊢
      rw [Array.getElem?_setIfInBounds_ne (by omega)]
      exact k3
/-- While numbers are told. -/
structure TI (w3 wr : World) (v : Value) (d : List Int) : Prop where
  row : Fo.OI w3.heap.size wr v d
  up : Up w3 wr
set_option maxRecDepth 20000 in
set_option maxHeartbeats 4000000 in
theorem t12 {w : World} {p q : Option Addr} {n1 n2 c1 c2 : Nat} {B : Nat → Bt} {C : Nat → List Int} {off most : Int} (hB : BV w p n1 B) (hC : CV w q n2 C) (k1 : n1 ≤ c1) (k2 : n2 ≤ c2) (hn : min n1 n2 < 4611686018427387904) (hoff : off ≤ 9223372036854775807) :
    Calls Try.prog 12 #[.slice p n1 c1, .slice q n2 c2, .int .i64 off, .int .i64 most] w (ResR w (resC (fun i => (B i).code) (fun i => (B i).E) C (min n1 n2) off most) (resL off (fun i => (B i).E) C (min n1 n2) most.toNat)) := by
  obtain ⟨n, hnn⟩ : ∃ n, min n1 n2 = n := ⟨_, rfl⟩
  have HB : Hid (BV w p n B) := hB.less (by omega)
  have HC : Hid (CV w q n C) := hC.less (by omega)
  have hmin : min (n1 : Int) (n2 : Int) = (n : Int) := by omega
  have hn' : n < 4611686018427387904 := by omega
  have m1 : (n : Int) ≤ (c1 : Int) := by omega
  have m2 : (n : Int) ≤ (c2 : Int) := by omega
  rw [hnn]
  have C34 : Hid (∀ W, Up w W → Calls Try.prog 25 #[.slice p n c1, .slice q n c2, .int .i64 off, .int .i64 most] W (IUp W (refC (fun i => (B i).code) (fun i => (C i).length) n off most))) := fun W hu => t25 (HB.out.up hu) (HC.out.up hu) hn'
  generalize hA : resC (fun i => (B i).code) (fun i => (B i).E) C n off most = A
  have HA : Hid (A = resC (fun i => (B i).code) (fun i => (B i).E) C n off most) := hA.symm
  generalize hL : resL off (fun i => (B i).E) C n most.toNat = L
  have HL : Hid (L = resL off (fun i => (B i).E) C n most.toNat) := hL.symm
  generalize hrc : refC (fun i => (B i).code) (fun i => (C i).length) n off most = rc at C34
  have HRC : Hid (refC (fun i => (B i).code) (fun i => (C i).length) n off most = rc) := hrc
  clear hA hL hB hC hnn hrc hn hn'
  by_cases hr0 : rc = 0
  · subst hr0
    obtain ⟨r1, r2, r3, r4, r5, r6⟩ := refC_ok HRC.out
    have HA2 : Hid (A = if 65536 < L.length then 3 else 0) := by
      have e := HA.out
      unfold resC at e
      rw [if_neg (by rw [HRC.out]; simp), ← HL.out] at e
      exact e
    have h8 : (n : Int) ≤ 8 := by omega
    have H8 : Hid (n ≤ 8) := r1
    have HLen : Hid (∀ i, i < n → (C i).length ≤ 256) := r2
    have HCd : Hid (∀ i, i < n → (B i).code = 0) := r3
    have hm6 : most ≤ 1048576 := r6
    clear HA r1 r2 r3 HRC
    go_enter Try.func12, Try.ntmps12
    go_wp2_with fail
    refine wp_region_shut 6 [(0, none), (1, none), (2, none), (3, none), (4, none), (5, none)] (fun _ => True) (by kernel_rfl) (by decide) rfl (by kernel_rfl) (fun _ _ d _ _ h => by cases d <;> exact h) (trivial) ?_
    refine OrdS.looks (.slice p n1 c1) (some 22) _ rfl rfl (Or.inl ⟨by kernel_rfl, fun w' hS => ?_⟩) ?_
    · go_simp
    refine OrdS.looks (.int .i64 n) (some 23) _ rfl rfl (Or.inl ⟨by kernel_rfl, fun w' hS => ?_⟩) ?_
    · go_simp
    refine OrdS.looks (.slice p n c1) (some 24) _ rfl rfl (Or.inl ⟨by kernel_rfl, fun w' hS => ?_⟩) ?_
    · go_simp
    refine OrdS.looks (.slice q n2 c2) (some 25) _ rfl rfl (Or.inl ⟨by kernel_rfl, fun w' hS => ?_⟩) ?_
    · go_simp
    refine OrdS.looks (.int .i64 n) (some 26) _ rfl rfl (Or.inl ⟨by kernel_rfl, fun w' hS => ?_⟩) ?_
    · go_simp
    refine OrdS.looks (.slice q n c2) (some 27) _ rfl rfl (Or.inl ⟨by kernel_rfl, fun w' hS => ?_⟩) ?_
    · go_simp
    refine OrdS.ends ?_
    simp only [List.drop_succ_cons, List.drop_zero, Act.put, List.setIfInBounds_toArray, List.set_cons_succ, List.set_cons_zero]
    go_wp2_with (go_at_call 25; (with_reducible refine (C34.out _ (Up.drew w)).mono ?_); rintro e w1 ⟨rfl, HU1⟩; (have HU01 : Hid (Up w w1) := (Up.drew w).trans HU1.out))
    have HRA : Hid (RA w1 (w1.alloc (.cells #[.slice none 0 0, .slice none 0 0, .slice none 0 0, .slice none 0 0, .slice none 0 0, .slice none 0 0, .slice none 0 0, .slice none 0 0] 63)) w1.heap.size 0 (fun i => (B i).E.toNat) off C) := ⟨Up.alloc _ _, Nat.le_refl _, ⟨_, heap_alloc_last _ _, rfl⟩, fun j hj => by omega⟩
    generalize w1.alloc (.cells #[.slice none 0 0, .slice none 0 0, .slice none 0 0, .slice none 0 0, .slice none 0 0, .slice none 0 0, .slice none 0 0, .slice none 0 0] 63) = w2 at *
    generalize w1.heap.size = ra at *
    go_loopw [13, 14, 38, 39, 40, 41, 42, 43, 44, 45, 46, 47, 48, 49, 50, 51, 52] (fun _ _ vi _ _ _ _ _ _ _ _ _ _ _ _ _ _ wr => ∃ i : Nat, i ≤ n ∧ vi = .int .i64 i ∧ Hid (RA w1 wr ra i (fun i => (B i).E.toNat) off C)) (fun _ _ vi _ _ _ _ _ _ _ _ _ _ _ _ _ _ _ => n - (intOf vi).toNat)
    case atStart => exact ⟨0, by omega, rfl, HRA⟩
    case round =>
      clear HRA
      obtain ⟨i, hi, rfl, HI⟩ := hrel
      rename World => wr
      by_cases hlt : i < n
      · have hk0 : Gt.CheckOk (B i).c (B i).v (B i).r (B i).E (B i).R := Gt.check0 (HCd.out i hlt)
        have q1 := hk0.e1
        have q2 := hk0.e2
        clear hk0
        obtain ⟨pb, po, rfl, ⟨d0, d1, d2, d3, d4⟩⟩ := (HB.out.up (HU01.out.trans HI.out.up)) i hlt
        obtain ⟨qb, qo, qq, qc, rfl, s0, sir⟩ := (HC.out.up (HU01.out.trans HI.out.up)) i hlt
        have HSI : Hid (Fo.IR wr qq (C i).length (fun j => (C i)[j]!)) := sir
        obtain ⟨ee, hee⟩ : ∃ ee : Nat, (B i).E = ee := ⟨(B i).E.toNat, by omega⟩
        have HEE : Hid ((B i).E.toNat = ee ∧ 1 ≤ ee ∧ ee ≤ 16384) := ⟨by rw [hee]; simp, by omega, by omega⟩
        rw [hee] at d3
        have HI1 : Hid (RA w1 (wr.alloc (.cells #[.float .f64 (B i).c, .float .f64 (B i).v, .float .f64 (B i).r, .int .i64 ee, .int .i64 (B i).R] 38)) ra i (fun i => (B i).E.toNat) off C) := HI.out.upon (Up.alloc _ _)
        have HBk := Bk.new wr 38 (.float .f64 (B i).c) (.float .f64 (B i).v) (.float .f64 (B i).r) (.int .i64 ee) (.int .i64 (B i).R)
        obtain ⟨f0, f1, f2, f3, f4⟩ := HBk.cells
        have s0' := cell_up s0 (Up.alloc wr (.cells #[.float .f64 (B i).c, .float .f64 (B i).v, .float .f64 (B i).r, .int .i64 ee, .int .i64 (B i).R] 38))
        have HS0 : Hid (_ ∧ _ ∧ _ ∧ _ ∧ _ ∧ _) := six_up ⟨f0, f1, f2, f3, f4, s0'⟩ (Up.drew _)
        have C35 : Hid (Calls Try.prog 26 #[.agg #[.float .f64 (B i).c, .float .f64 (B i).v, .float .f64 (B i).r, .int .i64 ee, .int .i64 (B i).R], .slice qq (C i).length qc, .int .i64 off] (wr.alloc (.cells #[.float .f64 (B i).c, .float .f64 (B i).v, .float .f64 (B i).r, .int .i64 ee, .int .i64 (B i).R] 38)).drew (RowR (wr.alloc (.cells #[.float .f64 (B i).c, .float .f64 (B i).v, .float .f64 (B i).r, .int .i64 ee, .int .i64 (B i).R] 38)).drew off ee (C i))) :=
          t26 _ _ _ ee _ HEE.out.2.1 HEE.out.2.2 r4 hoff (ir_up HSI.out ((Up.alloc _ _).trans (Up.drew _))) (HLen.out i hlt)
        have hi8 : (i : Int) < 8 := by omega
        clear f0 f1 f2 f3 f4 HBk s0' HI sir
        go_wp2_with fail
        generalize wr.alloc (.cells #[.float .f64 (B i).c, .float .f64 (B i).v, .float .f64 (B i).r, .int .i64 ee, .int .i64 (B i).R] 38) = W4 at *
        generalize wr.heap.size = bb at *
        refine wp_region_shut 9 [(0, none), (1, some false), (2, none), (3, none), (4, none), (5, some false), (6, none), (7, some true), (8, none)] (fun w' => w'.cell? ⟨bb, 0, none⟩ = some (.float .f64 (B i).c) ∧ w'.cell? ⟨bb, 1, none⟩ = some (.float .f64 (B i).v) ∧ w'.cell? ⟨bb, 2, none⟩ = some (.float .f64 (B i).r) ∧ w'.cell? ⟨bb, 3, none⟩ = some (.int .i64 ee) ∧ w'.cell? ⟨bb, 4, none⟩ = some (.int .i64 (B i).R) ∧ w'.cell? ⟨qb, qo + i, none⟩ = some (.slice qq (C i).length qc)) (by kernel_rfl) (by decide) rfl (by kernel_rfl) (fun _ _ d _ _ h => by cases d <;> exact h) (HS0.out) ?_
        refine OrdS.looks (.int .i64 i) (some 43) _ rfl rfl (Or.inl ⟨by kernel_rfl, fun w' hS => ?_⟩) ?_
        · go_simp
        refine OrdS.reads (.agg #[.float .f64 (B i).c, .float .f64 (B i).v, .float .f64 (B i).r, .int .i64 ee, .int .i64 (B i).R]) (some 44) _ rfl rfl (Or.inl ⟨by kernel_rfl, fun w' hS => ?_⟩) ?_
        · obtain ⟨z0, z1, z2, z3, z4, z5⟩ := hS
          go_simp
        refine OrdS.looks (.slice (some ⟨qb, qo, none⟩) n c2) (some 45) _ rfl rfl (Or.inl ⟨by kernel_rfl, fun w' hS => ?_⟩) ?_
        · go_simp
        refine OrdS.looks (.int .i64 i) (some 46) _ rfl rfl (Or.inl ⟨by kernel_rfl, fun w' hS => ?_⟩) ?_
        · go_simp
        simp only [Act.put, List.setIfInBounds_toArray, List.set_cons_succ, List.set_cons_zero]
        refine OrdS.looks (.pointer (some ⟨qb, qo + i, none⟩)) (some 47) _ rfl rfl (Or.inl ⟨by kernel_rfl, fun w' hS => ?_⟩) ?_
        · go_simp
        refine OrdS.reads (.slice qq (C i).length qc) (some 48) _ rfl rfl (Or.inl ⟨by kernel_rfl, fun w' hS => ?_⟩) ?_
        · obtain ⟨z0, z1, z2, z3, z4, z5⟩ := hS
          go_simp
        refine OrdS.looks (.int .i64 off) (some 49) _ rfl rfl (Or.inl ⟨by kernel_rfl, fun w' hS => ?_⟩) ?_
        · go_simp
        simp only [Act.put, List.setIfInBounds_toArray, List.set_cons_succ, List.set_cons_zero]
        refine OrdS.does ?_
        refine wpOp_callG (f := 26) (some 50) rfl rfl (by kernel_rfl) rfl #[.agg #[.float .f64 (B i).c, .float .f64 (B i).v, .float .f64 (B i).r, .int .i64 ee, .int .i64 (B i).R], .slice qq (C i).length qc, .int .i64 off] (by kernel_rfl) (eg26 _ _) ?_
        refine C35.out.mono ?_
        rintro e w5 ⟨g5, rfl, HR5⟩
        refine ⟨_, rfl, six_up HS0.out HR5.out.1, ?_⟩
        refine OrdS.looks (.pointer (some ⟨ra, i, none⟩)) (some 51) _ rfl rfl (Or.inl ⟨by kernel_rfl, fun w' hS => ?_⟩) ?_
        · go_simp
        refine OrdS.ends ?_
        simp only [List.drop_succ_cons, List.drop_zero, Act.put, List.setIfInBounds_toArray, List.set_cons_succ, List.set_cons_zero]
        have HI5 : Hid (RA w1 w5 ra i (fun i => (B i).E.toNat) off C) := HI1.out.upon ((Up.drew _).trans HR5.out.1)
        obtain ⟨⟨vo, co⟩, fo, -⟩ := HI5.out.room (k := i) (by have := H8.out; omega)
        have HI6 : Hid (RA w1 (w5.setCell ⟨ra, i, none⟩ (.slice (some ⟨g5, 0, none⟩) ee ee)) ra (i + 1) (fun i => (B i).E.toNat) off C) := by
          have hra := (HI1.out.room (k := i) (by have := H8.out; omega)).2.2
          have hg5 := (OR.at_ HR5.out.2).1
          have hrow : ∀ y, y < ee → w5.cell? ⟨g5, y, none⟩ = some (.bool (anyB off ee (C i) (y : Nat))) := fun y hy => by
            have := OR.cell HR5.out.2 (i := y) (by rw [rowL_len]; exact hy)
            rw [this, getElem!_pos _ y (by rw [rowL_len]; exact hy)]
            simp [rowL]
          have := RA.put (g := g5) HI5.out (by have := H8.out; omega) (by simp only [HEE.out.1]; exact HEE.out.2) (by
            intro e
            have h9 : W4.drew.heap.size ≤ g5 := hg5
            have h10 : W4.drew.heap.size = W4.heap.size := rfl
            omega) (by simp only [HEE.out.1]; exact hrow)
          simp only [HEE.out.1] at this
          exact this
        clear HI1 HI5 HR5 HS0 C35 HSI
        go_wp2
        go_roundw
        case rel => exact ⟨i + 1, by omega, by go_num, HI6⟩
        case measure => simp [intOf]; omega
      · obtain rfl : i = n := by omega
        clear C34 hlt
        go_wp2
        have HT : Hid (TI wr wr (.slice none 0 0) (resL off (fun i => (B i).E) C i 0)) := ⟨Fo.OI.nil _ _, Up.refl _⟩
        have HEq : Hid (∀ x : Int, allB off (fun j => (((B j).E.toNat : Nat) : Int)) C x i = allB off (fun j => (B j).E) C x i) := fun x => allB_congr fun j hj => by
          have := (Gt.check0 (HCd.out j hj)).e1
          omega
        obtain ⟨M, hM⟩ : ∃ M : Nat, most = M := ⟨most.toNat, by omega⟩
        have HM2 : Hid ((M : Int) = most) := hM.symm
        have HML : Hid (L = resL off (fun j => (B j).E) C i M) := by
          show _ = _
          rw [HL.out, hM]
          simp
        have HM6 : Hid (M ≤ 1048576) := by show _ ≤ _; omega
        obtain ⟨i0, hi0, hz0, hz1, hz2⟩ := info_parts Fo.info2
        clear hM HB HC HCd HLen HL
        go_loopw [15, 16, 54, 55, 56, 57, 58, 59, 60, 61, 62, 63, 64, 65, 66, 67, 68, 69] (fun v15 _ vi _ _ _ _ _ _ _ _ _ _ _ _ _ _ _ wx => ∃ (x : Nat) (pv : Option Addr) (cv : Nat), x ≤ M ∧ vi = .int .i64 x ∧ v15 = .slice pv (resL off (fun j => (B j).E) C i x).length cv ∧ Hid (TI wr wx (.slice pv (resL off (fun j => (B j).E) C i x).length cv) (resL off (fun j => (B j).E) C i x) ∧ (resL off (fun j => (B j).E) C i x).length ≤ 65536)) (fun _ _ vi _ _ _ _ _ _ _ _ _ _ _ _ _ _ _ _ => M - (intOf vi).toNat)
        case atStart => exact ⟨0, none, 0, by omega, rfl, rfl, HT.out, by simp [resL, nearL_zero]⟩
        case round =>
          clear HT
          obtain ⟨x, pv, cv, hx, rfl, rfl, HX⟩ := hrel
          rename World => wx
          by_cases hlx : x < M
          · have hlm : (x : Int) < most := by have := HM2.out; omega
            have C36 : Hid (Calls Try.prog 27 #[.slice (some ⟨ra, 0, none⟩) i 8, .int .i64 x] wx fun e w' => e = .returned (.bool (allB off (fun j => (B j).E) C x i)) ∧ w' = wx) := by
              have := t27 (w := wx) (ra := ra) (n := i) (cap := 8) (E := fun j => (B j).E.toNat) (C := C) (off := off) x H8.out (by have := HM6.out; omega) (fun j hj => (HI.out.trow j hj).up HX.out.1.up)
              rw [HEq.out] at this
              exact this
            have HY : Hid (allB off (fun j => (B j).E) C x i = true → resL off (fun j => (B j).E) C i (x + 1) = resL off (fun j => (B j).E) C i x ++ [(x : Int)]) := fun h => resL_yes h
            have HNo : Hid (allB off (fun j => (B j).E) C x i = false → resL off (fun j => (B j).E) C i (x + 1) = resL off (fun j => (B j).E) C i x) := fun h => resL_no h
            have HMo : Hid ((resL off (fun j => (B j).E) C i (x + 1)).length ≤ L.length) := by
              show _ ≤ _
              rw [HML.out]
              have := resL_mono off (fun j => (B j).E) C i (a := x + 1) (M - (x + 1))
              rwa [show x + 1 + (M - (x + 1)) = M by omega] at this
            generalize hN1 : resL off (fun j => (B j).E) C i (x + 1) = N1 at HY HNo HMo
            have HN1 : Hid (resL off (fun j => (B j).E) C i (x + 1) = N1) := hN1
            clear hN1
            generalize resL off (fun j => (B j).E) C i x = N0 at *
            generalize allB off (fun j => (B j).E) C x i = bb at *
            have hx6 : (x : Int) ≤ 1048576 := by omega
            cases bb
            · have HN : Hid (N1 = N0) := HNo.out rfl
              go_wp2_with (go_at_call 27; (with_reducible refine C36.out.mono ?_); rintro e w' ⟨rfl, hw⟩; subst w')
              go_roundw
              case rel => exact ⟨x + 1, pv, cv, by omega, by go_num, by rw [HN1.out, HN.out], by rw [HN1.out, HN.out]; exact HX⟩
              case measure => simp [intOf]; omega
            · have HN : Hid (N1 = N0 ++ [(x : Int)]) := HY.out rfl
              by_cases hfl : N0.length = 65536
              · have hfb : ((N0.length : Int) == 65536) = true := by simp [hfl]
                have HA3 : Hid (A = 3) := by
                  show A = 3
                  have h1 := HMo.out
                  rw [HN.out] at h1
                  simp at h1
                  rw [HA2.out, if_pos (by omega)]
                clear hfl
                go_wp2_with (go_at_call 27; (with_reducible refine C36.out.mono ?_); rintro e w' ⟨rfl, hw⟩; subst w')
                go_ret2
                exact ⟨HU01.out.trans (HI.out.up.trans HX.out.1.up), Or.inl ⟨by rw [HA3.out]; decide, by rw [HA3.out]; rfl⟩⟩
              · have hfb : ((N0.length : Int) == 65536) = false := by simp; omega
                have hl0 : N0.length ≤ 65536 := HX.out.2
                have hl1 : N0.length < 65536 := by omega
                have HOw : Hid (wx.ownsRow wr.heap.size 2 1 (.slice pv N0.length cv) N0.length (N0.map (Value.int .i64))) := HX.out.1.row
                have hwx : wr.heap.size ≤ wx.heap.size := HX.out.1.up.size
                clear hfl
                go_wp2_with (first
                  | (go_at_call 27; (with_reducible refine C36.out.mono ?_); rintro e w' ⟨rfl, hw⟩; subst w')
                  | (at_builtin; refine wpList_append_own _ rfl _ _ 36 rfl wr.heap.size 2 i0 (.int .i64 0) 1 8 Try.underlying36 hi0 hz0 hz1 hz2 rfl (by decide) _ _ _ rfl (HOw.out.alloc _) ⟨wx.heap.size, 0, none⟩ 1 1 [.int .i64 x] rfl rfl (Fo.one_new _ _ _) (Fo.one_one _) (by unfold maxLen; omega) (by omega) (by simp; omega) ?_; intro v8 w8 hown8 hgrow8 hnil8; (obtain ⟨p8, c8, hv8, -⟩ := own_form hown8); subst hv8; (have HT8 : Hid (TI wr w8 (.slice p8 (N0.length + 1) c8) (N0 ++ [(x : Int)])) := (fun h => ⟨h.1, h.2⟩) (Fo.app_own HX.out.1.row HX.out.1.up hown8 hgrow8)); clear hown8 hgrow8 hnil8))
                go_roundw
                case rel => exact ⟨x + 1, p8, c8, by omega, by go_num, by rw [HN1.out, HN.out]; simp, by
                  rw [HN1.out, HN.out]
                  refine ⟨?_, by simp; omega⟩
                  have := HT8.out
                  simpa using this⟩
                case measure => simp [intOf]; omega
          · obtain rfl : x = M := by omega
            have hlm : ¬ (x : Int) < most := by have := HM2.out; omega
            have HA3 : Hid (A = 0) := by
              show A = 0
              have h1 := HX.out.2
              rw [← HML.out] at h1
              rw [HA2.out, if_neg (by omega)]
            have HX2 : Hid (TI wr wx (.slice pv L.length cv) L) := by
              have := HX.out.1
              rw [← HML.out] at this
              exact this
            have hLL : (resL off (fun j => (B j).E) C i x).length = L.length := by rw [HML.out]
            rw [hLL]
            clear HX hLL
            go_wp2
            go_ret2
            refine ⟨HU01.out.trans (HI.out.up.trans HX2.out.up), Or.inr ⟨HA3.out, pv, cv, rfl, Fo.OI.base HX2.out.row (HU01.out.trans HI.out.up).size⟩⟩
  · have HA2 : Hid (A = rc) := by
      have e := HA.out
      unfold resC at e
      rw [if_pos (by rw [HRC.out]; exact hr0), HRC.out] at e
      exact e
    have HR0 : Hid (rc ≠ 0) := hr0
    have hrb : (rc != 0) = true := by simp [hr0]
    clear HA HRC hr0
    go_enter Try.func12, Try.ntmps12
    go_wp2_with fail
    refine wp_region_shut 6 [(0, none), (1, none), (2, none), (3, none), (4, none), (5, none)] (fun _ => True) (by kernel_rfl) (by decide) rfl (by kernel_rfl) (fun _ _ d _ _ h => by cases d <;> exact h) (trivial) ?_
    refine OrdS.looks (.slice p n1 c1) (some 22) _ rfl rfl (Or.inl ⟨by kernel_rfl, fun w' hS => ?_⟩) ?_
    · go_simp
    refine OrdS.looks (.int .i64 n) (some 23) _ rfl rfl (Or.inl ⟨by kernel_rfl, fun w' hS => ?_⟩) ?_
    · go_simp
    refine OrdS.looks (.slice p n c1) (some 24) _ rfl rfl (Or.inl ⟨by kernel_rfl, fun w' hS => ?_⟩) ?_
    · go_simp
    refine OrdS.looks (.slice q n2 c2) (some 25) _ rfl rfl (Or.inl ⟨by kernel_rfl, fun w' hS => ?_⟩) ?_
    · go_simp
    refine OrdS.looks (.int .i64 n) (some 26) _ rfl rfl (Or.inl ⟨by kernel_rfl, fun w' hS => ?_⟩) ?_
    · go_simp
    refine OrdS.looks (.slice q n c2) (some 27) _ rfl rfl (Or.inl ⟨by kernel_rfl, fun w' hS => ?_⟩) ?_
    · go_simp
    refine OrdS.ends ?_
    simp only [List.drop_succ_cons, List.drop_zero, Act.put, List.setIfInBounds_toArray, List.set_cons_succ, List.set_cons_zero]
    go_wp2_with (go_at_call 25; (with_reducible refine (C34.out _ (Up.drew w)).mono ?_); rintro e w1 ⟨rfl, HU1⟩; (have HU01 : Hid (Up w w1) := (Up.drew w).trans HU1.out))
    go_ret2
    exact ⟨HU01.out, Or.inl ⟨by rw [HA2.out]; exact HR0.out, by rw [HA2.out]; rfl⟩⟩
end Go.Proofs.Ytijfmaepoamkgab
