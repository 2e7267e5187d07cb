/- Doppler. -/
import Derived.Test.YtflngnnoibkkoaaGreatBb
namespace Go.Proofs.YtflngnnoibkkoaaGreat
open Go.ChangeShapes Go.WideShapes Go.ChangeAt Go.RowKit Go.Fl Ieee
set_option maxRecDepth 200000
set_option maxHeartbeats 8000000
attribute [local go_sem] run_store_float run_store_c isSome_set call34 call33 run_neg fold_eq fold_ne fold_lt fold_gt abs_eq

def scaleF (a : Nat × Nat) (c : Nat) : C2 := (bin .mul (ab a.1) (ab c), bin .mul (ab a.2) (ab c))
theorem t92u (a b c : Nat) (w : World) : Calls Tryz.prog 92 #[.complex .f64 a b, .float .f64 c] w (CR w (scaleF (a, b) c).1 (scaleF (a, b) c).2) := (t92 a b c w).mono fun e w' ⟨r, i, n, he, hw, h1, h2⟩ => by
  subst he hw
  exact CR.mk h1.out h2.out (Up.drewN _ _)
/-- What Doppler tells of the gate g in the bin k. -/
def dopF (n : Nat) (f : Nat → Nat → Nat × Nat) (fw : Nat → Nat) (k g : Nat) : C2 := slowAt false n (fun p => scaleF (f p g) (fw p)) k
theorem slowAt_congr {b : Bool} {n : Nat} {F G : Nat → C2} (h : ∀ i, i < n → F i = G i) (j : Nat) : slowAt b n F j = slowAt b n G j := by
  unfold slowAt slowM
  refine Prod.ext (sumN_congr fun i hi => ?_) (sumN_congr fun i hi => ?_) <;> rw [h i hi]
/-- The cells of a slice hold these floats. -/
def FD (w : World) (blk off n : Nat) (f : Nat → Nat) : Prop := ∀ j, j < n → w.cell? ⟨blk, off + j, none⟩ = some (.float .f64 (f j))
theorem FD.up {w w' : World} {blk off n : Nat} {f : Nat → Nat} (h : FD w blk off n f) (hu : Up w w') : FD w' blk off n f := fun j hj => cell_up (h j hj) hu
/-- Doppler at work: the answer, the column, and where w stands. -/
structure DI (w wr : World) (A B T n m : Nat) (x : Value) (d dc : List (Nat × Nat)) : Prop where
  tab : BT w wr A B n m d
  neA : A ≠ T
  neB : B ≠ T
  loT : w.heap.size + 1 ≤ T
  loB : w.heap.size + 1 ≤ B
  col : CRow w.heap.size wr (.slice (some ⟨T, 0, none⟩) n n) dc
  box : wr.cell? ⟨w.heap.size, 0, none⟩ = some x
theorem DI.mono {w wr w' : World} {A B T n m : Nat} {x : Value} {d dc : List (Nat × Nat)} (h : DI w wr A B T n m x d dc) (hu : Up wr w') : DI w w' A B T n m x d dc :=
  ⟨h.tab.mono hu, h.neA, h.neB, h.loT, h.loB, h.col.up hu, cell_up h.box hu⟩
theorem DI.putT {w wr : World} {A B T n m : Nat} {x : Value} {d dc : List (Nat × Nat)} (h : DI w wr A B T n m x d dc) (k r s : Nat) : DI w (wr.setCell ⟨T, k, none⟩ (.complex .f64 r s)) A B T n m x d (dc.set k (r, s)) := by
  have lT := h.loT
  obtain ⟨h1, h2⟩ := h.col.put k r s
  exact ⟨h.tab.far h2 h.neA h.neB (by omega), h.neA, h.neB, h.loT, h.loB, h1, h2.cell (by omega) h.box⟩
theorem DI.putB {w wr : World} {A B T n m : Nat} {x : Value} {d dc : List (Nat × Nat)} (h : DI w wr A B T n m x d dc) (k r s : Nat) : DI w (wr.setCell ⟨B, k, none⟩ (.complex .f64 r s)) A B T n m x (d.set k (r, s)) dc := by
  have lB := h.loB
  obtain ⟨_, h2⟩ := h.tab.all.put k r s
  exact ⟨h.tab.put k r s, h.neA, h.neB, h.loT, h.loB, h.col.far h2 (Ne.symm h.neB), h2.cell (by omega) h.box⟩
theorem DI.start {w W w3 w4 : World} {A B T n m k : Nat} {x : Value} {d : List (Nat × Nat)} (h0 : 0 < n) (hU : Up w W) (hs : w.heap.size + 1 ≤ W.heap.size) (hx : W.cell? ⟨w.heap.size, 0, none⟩ = some x) (hB : BT (W.drewN k) w3 A B n m d) (hT : Made n T w3 w4) : DI w w4 A B T n m x d (List.replicate n (0, 0)) := by
  obtain ⟨e1, r1, u1⟩ := hT
  have hB' := hB.base (Up.drewN W k)
  have lA : A < w3.heap.size := World.block_lt_of_cell? w3 _ (hB.ans 0 h0)
  have lB : B < w3.heap.size := (World.ownsRow.lt hB.all _ rfl).2
  have l3 := hB'.up.size
  exact ⟨(hB'.base hU).mono u1, by omega, by omega, by omega, by have := hB'.loB; omega, r1.down (by have := hU.size; omega), cell_up hx (hB'.up.trans u1)⟩
theorem DI.start' {w W w3 w4 : World} {A B T n m k : Nat} {x : Value} {d : List (Nat × Nat)} (hU : Up w W) (hs : w.heap.size + 1 ≤ W.heap.size) (hx : W.cell? ⟨w.heap.size, 0, none⟩ = some x) (hT : Made n T (W.drewN k) w4) (hB : BT w4 w3 A B n m d) : DI w w3 A B T n m x d (List.replicate n (0, 0)) := by
  obtain ⟨e1, r1, u1⟩ := hT
  have e1' : W.heap.size = T := e1
  have u1' : Up W w4 := (Up.drewN W k).trans u1
  have lT : T < w4.heap.size := (World.ownsRow.lt r1 _ rfl).2
  have lA := hB.loA
  have lB := hB.loB
  have hW := hU.size
  exact ⟨hB.base (hU.trans u1'), by omega, by omega, by omega, by omega, (r1.up hB.up).down (by omega), cell_up hx (u1'.trans hB.up)⟩
theorem keepU {W w1 w2 : World} {a b : Addr} {x y : Value} {a' b' : Nat} (ha : a = ⟨a', 0, none⟩) (hb : b = ⟨b', 0, none⟩) (h : Hid (Up W w1) ∧ w1.cell? a = some x ∧ w1.cell? b = some y) (hu : Up w1 w2) : Hid (Up W w2) ∧ w2.cell? a = some x ∧ w2.cell? b = some y := by
  subst ha hb
  exact ⟨h.1.out.trans hu, cell_up h.2.1 hu, cell_up h.2.2 hu⟩
theorem kept5_up {w w' : World} {a1 a2 a3 a4 : Nat} {o1 o3 o4 : Nat} {x1 x2 x3 : Value} (h : w.cell? ⟨a1, o1, none⟩ = some x1 ∧ w.cell? ⟨a2, 0, none⟩ = some x2 ∧ w.cell? ⟨a3, o3, none⟩ = some x3 ∧ (w.cell? ⟨a4, o4, none⟩).isSome = true ∧ w.frozen? ⟨a4, o4, none⟩ = false) (hu : Up w w') :
    w'.cell? ⟨a1, o1, none⟩ = some x1 ∧ w'.cell? ⟨a2, 0, none⟩ = some x2 ∧ w'.cell? ⟨a3, o3, none⟩ = some x3 ∧ (w'.cell? ⟨a4, o4, none⟩).isSome = true ∧ w'.frozen? ⟨a4, o4, none⟩ = false := by
  obtain ⟨h1, h2, h3, h4, h5⟩ := h
  obtain ⟨v, hv⟩ := Option.isSome_iff_exists.1 h4
  refine ⟨cell_up h1 hu, cell_up h2 hu, cell_up h3 hu, by rw [cell_up hv hu]; rfl, ?_⟩
  have hb := World.block_lt_of_cell? w _ hv
  have e := hu.block _ hb
  simp only [World.frozen?] at h5 ⊢
  rw [e]; exact h5
theorem kept5_set {w : World} {a1 a2 a3 a4 : Nat} {o1 o3 o4 : Nat} {x1 x2 x3 y : Value} (n1 : a4 ≠ a1) (n2 : a4 ≠ a2) (n3 : a4 ≠ a3) (h : w.cell? ⟨a1, o1, none⟩ = some x1 ∧ w.cell? ⟨a2, 0, none⟩ = some x2 ∧ w.cell? ⟨a3, o3, none⟩ = some x3 ∧ (w.cell? ⟨a4, o4, none⟩).isSome = true ∧ w.frozen? ⟨a4, o4, none⟩ = false) :
    (w.setCell ⟨a4, o4, none⟩ y).cell? ⟨a1, o1, none⟩ = some x1 ∧ (w.setCell ⟨a4, o4, none⟩ y).cell? ⟨a2, 0, none⟩ = some x2 ∧ (w.setCell ⟨a4, o4, none⟩ y).cell? ⟨a3, o3, none⟩ = some x3 ∧ ((w.setCell ⟨a4, o4, none⟩ y).cell? ⟨a4, o4, none⟩).isSome = true ∧ (w.setCell ⟨a4, o4, none⟩ y).frozen? ⟨a4, o4, none⟩ = false := by
  obtain ⟨h1, h2, h3, h4, h5⟩ := h
  refine ⟨by rw [World.cell?_setCell_far _ _ _ _ n1]; exact h1, by rw [World.cell?_setCell_far _ _ _ _ n2]; exact h2, by rw [World.cell?_setCell_far _ _ _ _ n3]; exact h3, ?_, by simpa using h5⟩
  rw [World.cell?_setCell_same' _ _ _ h4]; rfl
/-- The column is told whole. -/
theorem col_at {w wr : World} {A B T n m : Nat} {x : Value} {d dc : List (Nat × Nat)} (h : DI w wr A B T n m x d dc) : RD wr T 0 n (fun i => dc[i]!) := fun j hj => by
  rw [Nat.zero_add]; exact h.col.cell (by rw [h.col.len]; exact hj)
theorem slow_col {w wr w' : World} {A B T n m : Nat} {x : Value} {d dc : List (Nat × Nat)} (HS : Hid (DI w wr A B T n m x d dc)) (hu : Up wr w') (hn : n ≤ 256) : Calls Tryz.prog 109 #[.slice (some ⟨T, 0, none⟩) n n, .bool false] w' (PL w' (slowL false n fun i => ab2 dc[i]!) 0) :=
  t109 T 0 n n false _ _ (by omega) (World.ownsRow.lt (HS.out.mono hu).col _ rfl).2 (col_at (HS.out.mono hu))
/-- The bins of a column, in a row of their own. -/
def BR2 (w' : World) (S n B : Nat) (ds : List (Nat × Nat)) : Prop := RD w' S 0 n (fun i => ds[i]!) ∧ S ≠ B
theorem row_form' {b : Nat} {w' : World} {v : Value} {d : List (Nat × Nat)} {n : Nat} (h : CRow b w' v d) (hn : d.length = n) (h0 : 0 < n) : ∃ g cap, v = .slice (some ⟨g, 0, none⟩) n cap := by
  obtain ⟨p, cap, rfl, hp⟩ := own_form h
  obtain ⟨g, rfl⟩ := hp (by omega)
  exact ⟨g, cap, by rw [hn]⟩
theorem bins_of {w w1 w2 : World} {A B T n m : Nat} {x v : Value} {d dc ds : List (Nat × Nat)} {f : Nat → Nat → Nat × Nat} {fw : Nat → Nat} {g : Nat} (h0 : 0 < n) (HS : DI w w1 A B T n m x d dc) (hF : ∀ p, p < n → ab2 dc[p]! = scaleF (f p g) (fw p)) (h1 : CRow w1.heap.size w2 v ds) (h3 : ds.map ab2 = slowL false n fun i => ab2 dc[i]!) :
    ∃ S cap, v = .slice (some ⟨S, 0, none⟩) n cap ∧ BR2 w2 S n B ds ∧ ∀ k, k < n → ab2 ds[k]! = dopF n f fw k g := by
  have hl : ds.length = n := by
    have := congrArg List.length h3
    simpa [slowL] using this
  obtain ⟨S, cap, rfl⟩ := row_form' h1 hl h0
  refine ⟨S, cap, rfl, ⟨fun j hj => by rw [Nat.zero_add]; exact h1.cell (by omega), ?_⟩, fun k hk => ?_⟩
  · have l1 : w1.heap.size ≤ S := (World.ownsRow.lt h1 _ rfl).1
    have l2 : B < w1.heap.size := (World.ownsRow.lt HS.tab.all _ rfl).2
    omega
  · have e : (ds.map ab2)[k]? = ((List.range n).map (slowAt false n fun i => ab2 dc[i]!))[k]? := by rw [h3]; rfl
    rw [ab2_at (by omega), List.getElem?_map, List.getElem?_range hk] at e
    have e2 : ab2 ds[k]! = slowAt false n (fun i => ab2 dc[i]!) k := Option.some.inj e
    rw [e2]
    exact slowAt_congr hF k
set_option maxHeartbeats 8000000 in
theorem t64 {w : World} {R n m c : Nat} {P : Nat → Option Addr} {C G O : Nat → Nat} {f : Nat → Nat → Nat × Nat} {wg wo wc : Nat} {fw : Nat → Nat} (h : TI w R n m P C G O f) (hw : FD w wg wo n fw) (hn0 : 0 < n) (hn : n ≤ 256) (hm : m ≤ 16384) (hnm : n * m ≤ 262144) (hnn : n * m * n ≤ 16777216) :
    Calls Tryz.prog 64 #[.slice (some ⟨R, 0, none⟩) n c, .slice (some ⟨wg, wo, none⟩) n wc] w (OKT w n m (dopF n f fw)) := by
  have HA : Hid (Calls Tryz.prog 95 #[.slice (some ⟨w.heap.size + 1 + 1 + 1, 0, none⟩) 4 4] (askDw w (.slice (some ⟨R, 0, none⟩) n c) (.slice (some ⟨wg, wo, none⟩) n wc) n) (EU 0 (askDw w (.slice (some ⟨R, 0, none⟩) n c) (.slice (some ⟨wg, wo, none⟩) n wc) n))) :=
    askD (b0 := false) (b1 := false) (b2 := false) (b3 := false) (fun w' hu => t96 R n c n P _ C false w' (h.tb.up hu) (by omega) (fun _ _ => by omega) hn0 (fun _ _ => rfl) (Or.inr ⟨rfl, rfl⟩)) (by simp) (fun _ _ w' hu => t98c ((h.tv hn0).up hu) hn hm (by simpa using hnm)) (fun _ _ _ => ⟨m, h.tv hn0, hn, hm, by simpa using hnn⟩) rfl
  have HT : Hid (TI w R n m P C G O f) := h
  have HW : Hid (FD w wg wo n fw) := hw
  have HM : Hid (n * m ≤ 262144) := hnm
  clear h hnm hw hnn
  go_enter Tryz.func64, Tryz.ntmps64
  go_wp2_with (go_at_call 95; (with_reducible refine HA.out.mono ?_); rintro e W ⟨rfl, HU⟩; clear HA
               obtain ⟨x1, x2, x3, x4⟩ := boxD_cells w (.slice (some ⟨R, 0, none⟩) n c) (.slice (some ⟨wg, wo, none⟩) n wc) n
               have HU1 : Hid (Up w W) := (x4.trans (Up.alloc _ _)).trans HU.out
               have HX : Hid (w.heap.size + 1 ≤ W.heap.size ∧ W.cell? ⟨w.heap.size, 0, none⟩ = some (.slice (some ⟨wg, wo, none⟩) n wc)) := ⟨(by have := HU.out.size; simp at this; omega), cell_up x1 ((Up.alloc _ _).trans HU.out)⟩
               have y2 := cell_up x2 ((Up.alloc _ _).trans HU.out)
               have y3 := cell_up x3 ((Up.alloc _ _).trans HU.out)
               clear x1 x2 x3 x4 HU)
  have HV : Hid (TV W (.slice (some ⟨R, 0, none⟩) n c) n m) := (HT.out.tv hn0).up HU1.out
  have HR : Hid (Up W W) := Up.refl W
  go_region_held3 (fun w' => Hid (Up W w') ∧ w'.cell? ⟨w.heap.size + 1, 0, none⟩ = some (.slice (some ⟨R, 0, none⟩) n c) ∧ w'.cell? ⟨w.heap.size + 1 + 1, 0, none⟩ = some (.int .i64 n))
    (first | (exact keepU rfl rfl ⟨HR, y2, y3⟩ (Up.drewN _ 1)) | (exact keepU rfl rfl ‹_› HB.out.up) | (exact keepU rfl rfl ‹_› HN.out.2.2) | (exact keepU rfl rfl ‹_› (Up.drewN _ 1)) | go_keep)
    (first
      | (go_at_call 102; (with_reducible refine (t102 (HV.out.up (‹Hid (Up W _) ∧ _ ∧ _›).1.out) (by omega)).mono ?_); rintro e w' ⟨rfl, rfl⟩)
      | (go_at_call 101; (with_reducible refine (t101 n m _ (by omega) hm HM.out).mono ?_); rintro e w3 ⟨A, B, rfl, HB⟩)
      | ((with_reducible refine upon_makeC (by omega) ?_); intro T w4 HN))
  all_goals
    first
      | (have HS : Hid (DI w w4 A B T n m (.slice (some ⟨wg, wo, none⟩) n wc) (List.replicate (n * m) (0, 0)) (List.replicate n (0, 0))) := DI.start (k := 1) hn0 HU1.out HX.out.1 HX.out.2 HB.out HN.out
         clear HB HN
         generalize w4 = w5 at *)
      | (have HS : Hid (DI w w3 A B T n m (.slice (some ⟨wg, wo, none⟩) n wc) (List.replicate (n * m) (0, 0)) (List.replicate n (0, 0))) := DI.start' (k := 1) HU1.out HX.out.1 HX.out.2 HN.out HB.out
         clear HB HN
         generalize w3 = w5 at *)
    obtain ⟨HU5, z2, z3⟩ := ‹Hid (Up W w5) ∧ _ ∧ _›
    clear y2 y3
    go_wp2_with (go_at_call 102; (with_reducible refine (t102 (HV.out.up HU5.out) (by omega)).mono ?_); rintro e w5 ⟨rfl, rfl⟩)
    clear z2 z3 HU5 HV HU1 HX HR
    go_loopw [44] (fun vi wr => ∃ (g : Nat) (d dc : List (Nat × Nat)), g ≤ m ∧ vi = .int .i64 g ∧ Hid (DI w wr A B T n m (.slice (some ⟨wg, wo, none⟩) n wc) d dc) ∧ Hid (∀ k, k < n → ∀ g', g' < g → ab2 d[k * m + g']! = dopF n f fw k g')) (fun vi _ => m - (intOf vi).toNat)
    case atStart => exact ⟨0, _, _, by omega, rfl, HS, fun k hk g' hg => by omega⟩
    case round =>
      clear HS
      obtain ⟨g, d, dc, hg, rfl, HS, HD⟩ := hrel
      by_cases hlt : g < m
      · have z1 : (g : Int) < (m : Int) := by omega
        have z2 : (0 : Int) ≤ (g : Int) := by omega
        go_wp2
        go_loopw [49] (fun vi wr => ∃ (p : Nat) (dc : List (Nat × Nat)), p ≤ n ∧ vi = .int .i64 p ∧ Hid (DI w wr A B T n m (.slice (some ⟨wg, wo, none⟩) n wc) d dc) ∧ Hid (∀ q, q < p → ab2 dc[q]! = scaleF (f q g) (fw q))) (fun vi _ => n - (intOf vi).toNat)
        case atStart => exact ⟨0, _, by omega, rfl, HS, fun k hk => by omega⟩
        case round =>
          clear HS
          obtain ⟨p, dc, hp, rfl, HS, HC⟩ := hrel
          by_cases hlt2 : p < n
          · have y1 : (p : Int) < (n : Int) := by omega
            have y2 : (0 : Int) ≤ (p : Int) := by omega
            obtain ⟨c1, c2⟩ := (HT.out.up HS.out.tab.up).cell hlt2 hlt
            obtain ⟨u, v, HF⟩ : ∃ u v, Hid (f p g = (u, v)) := ⟨_, _, rfl⟩
            rw [HF.out] at c2
            simp only at c2
            have c3 := HS.out.box
            have c4 := (HW.out.up HS.out.tab.up) p hlt2
            have i1 : (wr.cell? ⟨T, p, none⟩).isSome = true := by rw [HS.out.col.cell (by rw [HS.out.col.len]; exact hlt2)]; rfl
            have f1 := HS.out.col.frz p
            have hT := HS.out.loT
            have n1 : T ≠ G p := by
              have := World.block_lt_of_cell? w _ (HT.out.cell hlt2 hlt).2
              simp only at this; omega
            have n3 : T ≠ wg := by
              have := World.block_lt_of_cell? w _ (HW.out p hlt2)
              simp only at this; omega
            obtain ⟨fwp, hfw⟩ : ∃ x, fw p = x := ⟨_, rfl⟩
            rw [hfw] at c4
            have HFW : Hid (fw p = fwp) := hfw
            clear hfw
            go_wp2
            go_region_held3 (fun w' => w'.cell? ⟨G p, O p + g, none⟩ = some (.complex .f64 u v) ∧ w'.cell? ⟨w.heap.size, 0, none⟩ = some (.slice (some ⟨wg, wo, none⟩) n wc) ∧ w'.cell? ⟨wg, wo + p, none⟩ = some (.float .f64 fwp) ∧ (w'.cell? ⟨T, p, none⟩).isSome = true ∧ w'.frozen? ⟨T, p, none⟩ = false)
              (first | (exact kept5_up ⟨c2, c3, c4, i1, f1⟩ (Up.drewN _ 1)) | (exact kept5_up ‹_› hu) | (exact kept5_set n1 (by omega) n3 ‹_›) | go_keep)
              ((go_at_call 92; (with_reducible refine (t92u _ _ _ _).mono ?_); rintro e w2 ⟨r, s, rfl, hr, hs, hu⟩))
            clear c2 c3 c4 i1 f1
            go_wp2
            go_roundw
            case rel =>
              refine ⟨p + 1, _, by omega, by go_num, (HS.out.mono ((Up.drewN _ 1).trans hu)).putT p r s, fun q hq => ?_⟩
              rw [set_at _ _ _ _ (by rw [HS.out.col.len]; exact hlt2)]
              by_cases e : q = p
              · subst e
                rw [if_pos rfl, HF.out, HFW.out]
                exact Prod.ext hr.out hs.out
              · rw [if_neg e]; exact HC.out q (by omega)
            case measure => simp [intOf]; omega
          · obtain rfl : p = n := by omega
            go_wp2_with (go_at_call 109; (with_reducible refine (slow_col HS (Up.refl _) hn).mono ?_); rintro e w6 ⟨vb, ds, rfl, h1, h2, h3⟩
                         obtain ⟨S, cap, rfl, hb1, hb2⟩ := bins_of hn0 HS.out HC.out h1.out h3.out
                         have HBR : Hid (BR2 w6 S p B ds) := hb1
                         have HBF : Hid (∀ k, k < p → ab2 ds[k]! = dopF p f fw k g) := hb2
                         have HS6 : Hid (DI w w6 A B T p m (.slice (some ⟨wg, wo, none⟩) p wc) d dc) := HS.out.mono h2.out
                         clear h1 h2 h3 hb1 hb2 HS HC)
            go_loopw [74] (fun vi wr => ∃ (k : Nat) (d : List (Nat × Nat)), k ≤ p ∧ vi = .int .i64 k ∧ Hid (DI w wr A B T p m (.slice (some ⟨wg, wo, none⟩) p wc) d dc) ∧ Hid (BR2 wr S p B ds) ∧ Hid ((∀ k, k < p → ∀ g', g' < g → ab2 d[k * m + g']! = dopF p f fw k g') ∧ ∀ q, q < k → ab2 d[q * m + g]! = dopF p f fw q g)) (fun vi _ => p - (intOf vi).toNat)
            case atStart => exact ⟨0, _, by omega, rfl, HS6, HBR, HD.out, fun k hk => by omega⟩
            case round =>
              clear HS6 HBR HD
              obtain ⟨k, d, hk, rfl, HS, HBR, HD⟩ := hrel
              by_cases hlt3 : k < p
              · have y1 : (k : Int) < (p : Int) := by omega
                have y2 : (0 : Int) ≤ (k : Int) := by omega
                obtain ⟨x, hx⟩ : ∃ x, k * m = x := ⟨_, rfl⟩
                have HX : Hid (k * m = x) := hx
                clear hx
                obtain ⟨c3, c4, c5⟩ := HS.out.tab.rows hlt3 hlt HX.out
                obtain ⟨u, v, HF⟩ : ∃ u v, Hid (ds[k]! = (u, v)) := ⟨_, _, rfl⟩
                have c1 : wr.cell? ⟨S, k, none⟩ = some (.complex .f64 u v) := by
                  have hq := HBR.out.1 k hlt3
                  simp only [HF.out, Nat.zero_add] at hq; exact hq
                go_wp2
                go_roundw
                case rel =>
                  have hi := idx_lt hlt3 hlt
                  have hl : x + g < d.length := by rw [HS.out.tab.all.len, ← HX.out]; exact hi
                  have hbt := (HS.out.tab.all.put (x + g) u v).2
                  refine ⟨k + 1, _, by omega, by go_num, HS.out.putB (x + g) u v, ⟨hbt.rd HBR.out.2 HBR.out.1, HBR.out.2⟩, ?_, ?_⟩
                  · intro k' hk' g' hg'
                    rw [set_at _ _ _ _ hl, ← HX.out, if_neg (fun e => by have := (idx_inj e (by omega) hlt).2; omega)]
                    exact HD.out.1 k' hk' g' hg'
                  · intro q hq
                    rw [set_at _ _ _ _ hl, ← HX.out]
                    by_cases e : q = k
                    · subst e
                      rw [if_pos rfl, ← HBF.out q hlt3, HF.out]
                    · rw [if_neg (fun h => e (idx_inj h hlt hlt).1)]; exact HD.out.2 q (by omega)
                case measure => simp [intOf]; omega
              · obtain rfl : k = p := by omega
                go_wp2
                go_roundw
                case rel =>
                  refine ⟨g + 1, d, dc, by omega, by go_num, HS, fun k' hk' g' hg' => ?_⟩
                  by_cases e : g' = g
                  · subst e; exact HD.out.2 k' hk'
                  · exact HD.out.1 k' hk' g' (by omega)
                case measure => simp [intOf]; omega
      · obtain rfl : g = m := by omega
        go_wp2
        go_ret2
        exact ⟨A, B, d, rfl, HS.out.tab, HD⟩
end Go.Proofs.YtflngnnoibkkoaaGreat
