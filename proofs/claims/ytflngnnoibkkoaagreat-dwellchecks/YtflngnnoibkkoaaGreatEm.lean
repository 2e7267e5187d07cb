/- Dwell: first: at most 256 of the plots, in order: at one plot. -/
import Derived.Test.YtflngnnoibkkoaaGreatEl
import Derived.Test.YtflngnnoibkkoaaGreatEk
import Derived.Test.YtflngnnoibkkoaaGreatEg
import Derived.Test.YtflngnnoibkkoaaGreatEi
namespace Go.Proofs.YtflngnnoibkkoaaGreat
open Go.ChangeShapes Go.WideShapes Go.ChangeAt Go.RowKit Go.Fl Ieee
set_option maxRecDepth 200000
set_option maxHeartbeats 8000000
attribute [local go_sem] run_store_float run_store_complex run_store_fn call34 call33 run_neg fold_eq fold_ne fold_lt fold_gt abs_eq

theorem zr_own {w : World} {b g : Nat} (h : w.ownsRow b 64 5 (.slice (some ⟨g, 0, none⟩) 1 1) 1 (madeCells (Value.cells (.agg #[.float .f64 0, .float .f64 0, .float .f64 0, .float .f64 0, .float .f64 0])) (1 * 5)).toList) : Zr w g ∧ b ≤ g := by
  obtain ⟨-, h0 | ⟨g', cap, cur, e, h1, h2, h3, h4, h5, h6⟩⟩ := h
  · cases h0.1
  · simp only [Value.slice.injEq, Option.some.injEq, Addr.mk.injEq] at e
    obtain ⟨⟨rfl, -⟩, -, rfl⟩ := e
    rw [List.take_of_length_le (by simp [h5])] at h6
    have e6 : cur = #[.float .f64 0, .float .f64 0, .float .f64 0, .float .f64 0, .float .f64 0] := by
      apply Array.ext'
      rw [h6]
      simp [madeCells]
      kernel_rfl
    subst e6
    exact ⟨⟨(row_cell h2 0).1, (row_cell h2 1).1, (row_cell h2 2).1, (row_cell h2 3).1, (row_cell h2 4).1, (row_cell h2 0).2, (row_cell h2 1).2, (row_cell h2 2).2, (row_cell h2 3).2, (row_cell h2 4).2⟩, h1⟩
theorem ord_one {P : Nat → Pl.Plt} {o : List Nat} (h : Pl.InOrd P 1 o) : o = [0] := by
  have := h.perm
  rw [show List.range 1 = [0] from rfl] at this
  exact List.perm_singleton.1 this
theorem opl_one {b : Nat} {w : World} {q : Option Addr} {c : Nat} (h : Pl.OPl b w (.slice q 1 c) [0]) : ∃ g, q = some ⟨g, 0, none⟩ ∧ w.cell? ⟨g, 0, none⟩ = some (.int .i64 0) := by
  obtain ⟨p, cap, e, hp⟩ := Pl.OR.form h
  simp only [Value.slice.injEq] at e
  obtain ⟨rfl, -, rfl⟩ := e
  obtain ⟨g, rfl⟩ := hp (by decide)
  exact ⟨g, rfl, Pl.OR.cell h (i := 0) (by decide)⟩
/-- One plot, in a row of one's own, as a row that can be read. -/
theorem pv_one {b : Nat} {w : World} {v : Value} {p : Pl.Plt} (h : Pl.PO b w v [p]) (hf : p.Fit) : ∃ g c, v = .slice (some ⟨g, 0, none⟩) 1 c ∧ Pl.PV w (some ⟨g, 0, none⟩) 1 c (fun _ => p) ∧ Pl.P5 w g 0 p := by
  obtain ⟨-, h0 | ⟨g, cap, cur, e, h1, h2, h3, h4, h5, h6⟩⟩ := id h
  · cases h0.2
  · subst e
    obtain ⟨g', e, -, -, k⟩ := Pl.PO.at (i := 0) h (by simp)
    cases e
    rw [Nat.zero_mul] at k
    refine ⟨g, cap, rfl, ⟨h3, by decide, fun _ _ => hf, fun _ => ⟨g, 0, rfl, fun i hi => ?_⟩⟩, k⟩
    obtain rfl : i = 0 := by omega
    exact k
theorem Zr.put5 {V : World} {b : Nat} {p : Pl.Plt} (h : Zr V b) : Pl.P5 (((((V.setCell ⟨b, 0, none⟩ (.float .f64 p.r)).setCell ⟨b, 1, none⟩ (.float .f64 p.s)).setCell ⟨b, 2, none⟩ (.float .f64 p.p)).setCell ⟨b, 3, none⟩ (.float .f64 p.b)).setCell ⟨b, 4, none⟩ (.float .f64 p.t)) b 0 p := by
  refine ⟨?_, ?_, ?_, ?_, ?_⟩
  · exact cell_ne (cell_ne (cell_ne (cell_ne (World.cell?_setCell_same _ _ _ h.c0) (by decide)) (by decide)) (by decide)) (by decide)
  · exact cell_ne (cell_ne (cell_ne (World.cell?_setCell_same _ _ _ (cell_ne h.c1 (by decide))) (by decide)) (by decide)) (by decide)
  · exact cell_ne (cell_ne (World.cell?_setCell_same _ _ _ (cell_ne (cell_ne h.c2 (by decide)) (by decide))) (by decide)) (by decide)
  · exact cell_ne (World.cell?_setCell_same _ _ _ (cell_ne (cell_ne (cell_ne h.c3 (by decide)) (by decide)) (by decide))) (by decide)
  · exact World.cell?_setCell_same _ _ _ (cell_ne (cell_ne (cell_ne (cell_ne h.c4 (by decide)) (by decide)) (by decide)) (by decide))
def FsR (w : World) (p : Pl.Plt) (e : Ending) (w' : World) : Prop := ∃ g, e = .returned (.slice (some ⟨g, 0, none⟩) 1 1) ∧ Hid (Pl.P5 w' g 0 p) ∧ Hid (w.heap.size ≤ g) ∧ Hid (Up w w')
def FsA (w W : World) (g : Nat) (p : Pl.Plt) (k : Nat) (wr : World) : Prop := (k = 0 ∧ wr = W) ∨ (k = 1 ∧ Pl.P5 wr g 0 p ∧ Up w wr)
theorem t79 {b : Nat} {w : World} {v : Value} {p : Pl.Plt} (h : Pl.PO b w v [p]) (hf : p.Fit) : Calls Tryz.prog 79 #[v] w (FsR w p) := by
  obtain ⟨g0, c0, rfl, hV, hP⟩ := pv_one h hf
  have HV : Hid (Pl.PV w (some ⟨g0, 0, none⟩) 1 c0 (fun _ => p)) := hV
  have HP0 : Hid (Pl.P5 w g0 0 p) := hP
  obtain ⟨pr, ps, pp, pb, pt⟩ := p
  clear h hf hV hP
  obtain ⟨i0, hi0, hz0, hz1, hz2⟩ := info_parts Pl.info28
  go_enter Tryz.func79, Tryz.ntmps79
  go_wp2_with (first
    | (go_at_call 123; (with_reducible refine (Pl.t123 HV.out).mono ?_); rintro e w1 ⟨q, c1, o, rfl, HO⟩
       obtain ⟨o1, o2, o3⟩ := HO.out
       rw [ord_one o1] at o2
       obtain ⟨g1, rfl, k1⟩ := opl_one o2
       have HU1 : Hid (Up w w1) := o3
       have l1 := o3.size
       clear HO o1 o2 o3)
    | (refine wpList_make_full _ rfl _ _ 60 rfl w.heap.size 64 i0 (.agg #[.float .f64 0, .float .f64 0, .float .f64 0, .float .f64 0, .float .f64 0]) 5 Tryz.underlying60 hi0 hz0 hz1 .i64 .i64 _ _ 1 rfl rfl rfl rfl (by rw [hz2]; omega) (by unfold maxLen; omega) (by omega) ?_; intro w2 hown hgr
       have HZ : Hid (Zr w2 w1.heap.size) := (zr_own hown).1
       have HU2 : Hid (Up w1 w2) := RowKit.Below.grown (Below.refl _ _) hgr (Nat.le_refl _) (fun j hj => by cases hj)
       clear hown hgr))
  have HGL0 : Hid (w.heap.size ≤ w1.heap.size) := HU1.out.size
  obtain ⟨G, hG⟩ : ∃ G, w1.heap.size = G := ⟨_, rfl⟩
  rw [hG]
  have HGL : Hid (w.heap.size ≤ G) := hG ▸ HGL0
  replace HZ : Hid (Zr w2 G) := hG ▸ HZ
  clear HGL0
  have k2 := cell_up k1 HU2.out
  obtain ⟨d0, d1, d2, d3, d4⟩ := (HP0.out.up HU1.out).up HU2.out
  simp only [Nat.zero_add] at d0 d1 d2 d3 d4
  have HUU : Hid (Up w w2) := HU1.out.trans HU2.out
  go_loopw [5, 14] (fun _ v14 wr => ∃ k : Nat, v14 = .int .i64 k ∧ Hid (FsA w w2 G ⟨pr, ps, pp, pb, pt⟩ k wr)) (fun _ v14 _ => 1 - (intOf v14).toNat)
  case atStart => exact ⟨0, rfl, Or.inl ⟨rfl, rfl⟩⟩
  case round =>
    obtain ⟨k, rfl, HK⟩ := hrel
    rename World => wr
    rcases HK.out with ⟨rfl, rfl⟩ | ⟨rfl, h1, h2⟩
    · obtain ⟨z0, z1, z2, z3, z4, y0, y1, y2, y3, y4⟩ := HZ.out
      go_wp2
      go_roundw
      case rel => exact ⟨1, rfl, Or.inr ⟨rfl, Zr.put5 (p := ⟨pr, ps, pp, pb, pt⟩) HZ.out, five_up HUU.out HGL.out⟩⟩
      case measure => simp [intOf]
    · have HQ : Hid (Pl.P5 wr G 0 ⟨pr, ps, pp, pb, pt⟩) := h1
      have HQ2 : Hid (Up w wr) := h2
      clear h1 h2 d0 d1 d2 d3 d4
      go_wp2
      go_ret
      exact ⟨G, rfl, HQ, HGL, HQ2⟩
end Go.Proofs.YtflngnnoibkkoaaGreat
/- Dwell: the steps from cells to plots. -/
namespace Go.Proofs.YtflngnnoibkkoaaGreat
open Go.ChangeShapes Go.WideShapes Go.ChangeAt Go.RowKit Go.Fl Ieee
set_option maxRecDepth 200000
set_option maxHeartbeats 8000000
attribute [local go_sem] run_store_float run_store_complex run_store_fn call34 call33 run_neg fold_eq fold_ne fold_lt fold_gt abs_eq

/-- The one spot, in its block. -/
structure SpotAt (w : World) (g : Nat) : Prop where
  c0 : w.cell? ⟨g, 0, none⟩ = some (.int .i64 0)
  c1 : w.cell? ⟨g, 1, none⟩ = some (.int .i64 5)
  c2 : w.cell? ⟨g, 2, none⟩ = some (.float .f64 4643211215818981376)
theorem SpotAt.but {w w' : World} {g k : Nat} (h : SpotAt w g) (hb : But k w w') (hn : g ≠ k) : SpotAt w' g := ⟨hb.cell hn h.c0, hb.cell hn h.c1, hb.cell hn h.c2⟩
theorem SpotAt.s {w : World} {g c : Nat} (h : SpotAt w g) (hc : 1 ≤ c) : OneS w (some ⟨g, 0, none⟩) c := by
  have q : ∀ i, i < 1 → spK[i]! = ((0, 5, 4643211215818981376) : Int × Int × Nat) := fun i hi => by
    obtain rfl : i = 0 := by omega
    rfl
  refine ⟨rfl, hc, by decide, fun i hi => by rw [q i hi]; exact Pk.wf_lit (by decide), fun i hi => by rw [q i hi]; decide, fun _ => ⟨g, 0, rfl, fun i hi => ?_⟩⟩
  obtain rfl : i = 0 := by omega
  exact ⟨h.c0, h.c1, h.c2⟩
theorem spot_own {b c : Nat} {w : World} {p : Option Addr} (h : w.ownsRow b 151 3 (.slice p 1 c) 1 [.int .i64 0, .int .i64 5, .float .f64 4643211215818981376]) : ∃ g, p = some ⟨g, 0, none⟩ ∧ b ≤ g ∧ 1 ≤ c ∧ SpotAt w g := by
  obtain ⟨-, h0 | ⟨g, cap, cur, e, h1, h2, h3, h4, h5, h6⟩⟩ := h
  · cases h0.2
  · simp only [Value.slice.injEq] at e
    obtain ⟨rfl, -, rfl⟩ := e
    have z : ∀ k v, k < 3 → [Value.int .i64 0, .int .i64 5, .float .f64 4643211215818981376][k]? = some v → w.cell? ⟨g, k, none⟩ = some v := fun k v hk hv => by
      rw [← h6, List.getElem?_take, if_pos (by omega)] at hv
      rw [(row_cell h2 k).1]
      rw [Array.getElem?_toList] at hv
      exact hv
    exact ⟨g, rfl, h1, h3, z 0 _ (by omega) rfl, z 1 _ (by omega) rfl, z 2 _ (by omega) rfl⟩
theorem k74 {w : World} {p : Option Addr} {c : Nat} (h : Cf.MV w p 4 c dK) : Calls Tryz.prog 74 #[.slice p 4 c, .int .i8 0, .int .i64 1, .int .i64 4, .int .i64 0, .float .f64 4620693217682128896] w (fun e w' => ∃ g c', e = .returned (.tuple #[.slice (some ⟨g, 0, none⟩) 1 c', .int .i64 0]) ∧ Hid (w.heap.size ≤ g ∧ 1 ≤ c' ∧ SpotAt w' g) ∧ Hid (Up w w')) :=
  (Cf.t17 1 4 0 (by decide) (by decide) h).mono fun e w' hR => by
    obtain ⟨q, c', rfl, hS, hU⟩ := hR
    have e1 := ck_map.1
    have e2 := ck_map.2
    have f1 : Cf.mpE (Cf.echoD 0 (1 : Int).toNat (4 : Int).toNat (0 : Int).toNat (ab 4620693217682128896)) 4 dK 1 4 0 4620693217682128896 = 0 := e1
    have f2 : Cf.mpL (Cf.echoD 0 (1 : Int).toNat (4 : Int).toNat (0 : Int).toNat (ab 4620693217682128896)) 4 dK 1 4 0 4620693217682128896 = [(0, 5, 4643211215818981376)] := e2
    rw [f1, f2]
    rw [f2] at hS
    obtain ⟨g, rfl, g1, g2, g3⟩ := spot_own (b := w.heap.size) hS.out
    exact ⟨g, c', rfl, ⟨g1, g2, g3⟩, hU⟩
theorem cm_mv {w : World} {v : Value} {wb : Nat} (h : CM w v 4 16 wb dK) : ∃ A, v = .slice (some ⟨A, 0, none⟩) 4 4 ∧ Cf.MV w (some ⟨A, 0, none⟩) 4 4 dK := by
  obtain ⟨A, B, h1, h2, h3⟩ := h.ex
  refine ⟨A, h1, Nat.le_refl _, fun _ => ⟨A, 0, rfl, fun i hi => ?_⟩, fun i hi => by rw [(h3 i hi).2.1]; decide⟩
  obtain ⟨k1, k2, k3, k4⟩ := h3 i hi
  refine ⟨some ⟨B i, 0, none⟩, 16, by rw [Nat.zero_add, k2]; exact k1, rfl, by rw [k2]; decide, fit_k i hi, fun _ => ⟨B i, 0, rfl, fun j hj => ?_⟩⟩
  rw [Nat.zero_add]
  exact k4 j (by omega)
section
variable {W : World} {wb bx : Nat} {v1 : Value}
theorem frz_up {w w' : World} {b k : Nat} (hb : b < w.heap.size) (h : w.frozen? ⟨b, k, none⟩ = false) (hu : Up w w') : w'.frozen? ⟨b, k, none⟩ = false := (World.frozen?_of_block (hu.block b hb)).trans h
theorem kp73 {w1 w2 : World} (h : Hid (But wb W w1) ∧ w1.cell? ⟨wb, 1, none⟩ = some v1 ∧ (w1.cell? ⟨wb, 2, none⟩).isSome = true ∧ w1.frozen? ⟨wb, 2, none⟩ = false ∧ w1.cell? ⟨bx, 8, none⟩ = some (.int .i8 0) ∧ w1.cell? ⟨bx, 9, none⟩ = some (.int .i64 1) ∧ w1.cell? ⟨bx, 10, none⟩ = some (.int .i64 4) ∧ w1.cell? ⟨bx, 11, none⟩ = some (.int .i64 0) ∧ w1.cell? ⟨bx, 12, none⟩ = some (.float .f64 4620693217682128896)) (hu : Up w1 w2) : Hid (But wb W w2) ∧ w2.cell? ⟨wb, 1, none⟩ = some v1 ∧ (w2.cell? ⟨wb, 2, none⟩).isSome = true ∧ w2.frozen? ⟨wb, 2, none⟩ = false ∧ w2.cell? ⟨bx, 8, none⟩ = some (.int .i8 0) ∧ w2.cell? ⟨bx, 9, none⟩ = some (.int .i64 1) ∧ w2.cell? ⟨bx, 10, none⟩ = some (.int .i64 4) ∧ w2.cell? ⟨bx, 11, none⟩ = some (.int .i64 0) ∧ w2.cell? ⟨bx, 12, none⟩ = some (.float .f64 4620693217682128896) := by
  obtain ⟨h0, h1, h2, h3, h4, h5, h6, h7, h8⟩ := h
  obtain ⟨v, hv⟩ := Option.isSome_iff_exists.1 h2
  exact ⟨h0.out.trans (But.of_up hu), cell_up h1 hu, by rw [cell_up hv hu]; rfl, frz_up (World.block_lt_of_cell? w1 _ h1) h3 hu, cell_up h4 hu, cell_up h5 hu, cell_up h6 hu, cell_up h7 hu, cell_up h8 hu⟩
theorem ks73 {w1 : World} {y : Value} (hn : bx ≠ wb) (h : Hid (But wb W w1) ∧ w1.cell? ⟨wb, 1, none⟩ = some v1 ∧ (w1.cell? ⟨wb, 2, none⟩).isSome = true ∧ w1.frozen? ⟨wb, 2, none⟩ = false ∧ w1.cell? ⟨bx, 8, none⟩ = some (.int .i8 0) ∧ w1.cell? ⟨bx, 9, none⟩ = some (.int .i64 1) ∧ w1.cell? ⟨bx, 10, none⟩ = some (.int .i64 4) ∧ w1.cell? ⟨bx, 11, none⟩ = some (.int .i64 0) ∧ w1.cell? ⟨bx, 12, none⟩ = some (.float .f64 4620693217682128896)) : Hid (But wb W (w1.setCell ⟨wb, 2, none⟩ y)) ∧ (w1.setCell ⟨wb, 2, none⟩ y).cell? ⟨wb, 1, none⟩ = some v1 ∧ ((w1.setCell ⟨wb, 2, none⟩ y).cell? ⟨wb, 2, none⟩).isSome = true ∧ (w1.setCell ⟨wb, 2, none⟩ y).frozen? ⟨wb, 2, none⟩ = false ∧ (w1.setCell ⟨wb, 2, none⟩ y).cell? ⟨bx, 8, none⟩ = some (.int .i8 0) ∧ (w1.setCell ⟨wb, 2, none⟩ y).cell? ⟨bx, 9, none⟩ = some (.int .i64 1) ∧ (w1.setCell ⟨wb, 2, none⟩ y).cell? ⟨bx, 10, none⟩ = some (.int .i64 4) ∧ (w1.setCell ⟨wb, 2, none⟩ y).cell? ⟨bx, 11, none⟩ = some (.int .i64 0) ∧ (w1.setCell ⟨wb, 2, none⟩ y).cell? ⟨bx, 12, none⟩ = some (.float .f64 4620693217682128896) := by
  obtain ⟨h0, h1, h2, h3, h4, h5, h6, h7, h8⟩ := h
  obtain ⟨v, hv⟩ := Option.isSome_iff_exists.1 h2
  have k : ∀ j x, w1.cell? ⟨bx, j, none⟩ = some x → (w1.setCell ⟨wb, 2, none⟩ y).cell? ⟨bx, j, none⟩ = some x := fun j x hx => (but_set w1 wb 2 y).cell hn hx
  exact ⟨h0.out.trans (but_set _ _ _ _), (World.cell?_setCell_other _ _ _ _ (addr_ne (by decide))).trans h1, by rw [World.cell?_setCell_same _ _ _ hv]; rfl, by rw [World.frozen?_setCell]; exact h3, k _ _ h4, k _ _ h5, k _ _ h6, k _ _ h7, k _ _ h8⟩
end
def P73 (W : World) (wb : Nat) (v0 v1 : Value) (e : Ending) (w' : World) : Prop := e = .returned (.int .i64 0) ∧ ∃ g c, Hid (WS w' wb v0 v1 (.slice (some ⟨g, 0, none⟩) 1 c) (.slice none 0 0)) ∧ Hid (SpotAt w' g ∧ g ≠ wb ∧ 1 ≤ c) ∧ Hid (But wb W w')
theorem t73 {W : World} {wb bx : Nat} {v0 v1 : Value} (hs : WS W wb v0 v1 (.slice none 0 0) (.slice none 0 0)) (hc : CM W v1 4 16 wb dK) (hb : SB W bx 4621819117588971520 4602678819172646912 4652007308841189376 16 4 3 0 0 0 1 4 0 4620693217682128896 0) (hn : bx ≠ wb) : Calls Tryz.prog 73 #[.pointer (some ⟨wb, 0, none⟩), .pointer (some ⟨bx, 0, none⟩)] W (P73 W wb v0 v1) := by
  obtain ⟨A, rfl, hM⟩ := cm_mv hc
  have HM : Hid (∀ V, Up W V → Cf.MV V (some ⟨A, 0, none⟩) 4 4 dK) := fun V hV => hM.up hV
  have HS : Hid (WS W wb v0 (.slice (some ⟨A, 0, none⟩) 4 4) (.slice none 0 0) (.slice none 0 0)) := hs
  have HN : Hid (bx ≠ wb) := hn
  have h1 := hs.c1
  have h2 : (W.cell? ⟨wb, 2, none⟩).isSome = true := by rw [hs.c2]; rfl
  have h3 := hs.fz 2
  have h4 := hb.s8
  have h5 := hb.s9
  have h6 := hb.s10
  have h7 := hb.s11
  have h8 := hb.s12
  have HWB : Hid (wb < W.heap.size) := hs.lt
  clear hs hc hb hn hM
  have h0 : Hid (But wb W W) := But.refl _ _
  go_enter Tryz.func73, Tryz.ntmps73
  go_upto_region 1 with fail
  go_region_held3 (fun w' => Hid (But wb W w') ∧ w'.cell? ⟨wb, 1, none⟩ = some (.slice (some ⟨A, 0, none⟩) 4 4) ∧ (w'.cell? ⟨wb, 2, none⟩).isSome = true ∧ w'.frozen? ⟨wb, 2, none⟩ = false ∧ w'.cell? ⟨bx, 8, none⟩ = some (.int .i8 0) ∧ w'.cell? ⟨bx, 9, none⟩ = some (.int .i64 1) ∧ w'.cell? ⟨bx, 10, none⟩ = some (.int .i64 4) ∧ w'.cell? ⟨bx, 11, none⟩ = some (.int .i64 0) ∧ w'.cell? ⟨bx, 12, none⟩ = some (.float .f64 4620693217682128896))
    (first | (with_reducible exact kp73 ⟨h0, h1, h2, h3, h4, h5, h6, h7, h8⟩ (Up.drew _)) | (with_reducible exact HF2.out) | (with_reducible exact ks73 HN.out HF2.out) | (trace_state; fail))
    (first
      | (go_at_call 74; (with_reducible refine (k74 (HM.out _ (Up.drew _))).mono ?_); rintro e w2 ⟨g, cg, rfl, HG, HU2⟩; (have HF2 : Hid _ := kp73 (‹Hid (But wb W _) ∧ _›) HU2.out); (obtain ⟨q2, hq2⟩ := Option.isSome_iff_exists.1 HF2.out.2.2.1)))
  go_wp2_with fail
  go_ret
  obtain ⟨g1, g2, g3⟩ := HG.out
  have HUW : Hid (Up W w2) := (Up.drew W).trans HU2.out
  have hgw : g ≠ wb := by
    have e : W.heap.size ≤ g := g1
    have := HWB.out
    omega
  exact ⟨rfl, g, cg, (HS.out.up HUW.out).put2 _, ⟨g3.but (but_set _ _ _ _) hgw, hgw, g2⟩, (But.of_up HUW.out).trans (but_set _ _ _ _)⟩
section
variable {W : World} {wb bx bb bt br tm : Nat} {v2 : Value}
theorem kp75 {w1 w2 : World} (h : Hid (But wb W w1) ∧ w1.cell? ⟨wb, 2, none⟩ = some v2 ∧ (w1.cell? ⟨wb, 3, none⟩).isSome = true ∧ w1.frozen? ⟨wb, 3, none⟩ = false ∧ w1.cell? ⟨bb, 0, none⟩ = some (.float .f64 br) ∧ w1.cell? ⟨bt, 0, none⟩ = some (.float .f64 tm) ∧ w1.cell? ⟨bx, 0, none⟩ = some (.float .f64 4621819117588971520) ∧ w1.cell? ⟨bx, 1, none⟩ = some (.float .f64 4602678819172646912) ∧ w1.cell? ⟨bx, 2, none⟩ = some (.float .f64 4652007308841189376) ∧ w1.cell? ⟨bx, 3, none⟩ = some (.int .i64 16) ∧ w1.cell? ⟨bx, 4, none⟩ = some (.int .i64 4) ∧ w1.cell? ⟨bx, 5, none⟩ = some (.int .i64 3) ∧ w1.cell? ⟨bx, 6, none⟩ = some (.int .i8 0) ∧ w1.cell? ⟨bx, 7, none⟩ = some (.int .i64 0) ∧ w1.cell? ⟨bx, 8, none⟩ = some (.int .i8 0) ∧ w1.cell? ⟨bx, 9, none⟩ = some (.int .i64 1) ∧ w1.cell? ⟨bx, 10, none⟩ = some (.int .i64 4) ∧ w1.cell? ⟨bx, 11, none⟩ = some (.int .i64 0) ∧ w1.cell? ⟨bx, 12, none⟩ = some (.float .f64 4620693217682128896) ∧ w1.cell? ⟨bx, 13, none⟩ = some (.float .f64 0)) (hu : Up w1 w2) : Hid (But wb W w2) ∧ w2.cell? ⟨wb, 2, none⟩ = some v2 ∧ (w2.cell? ⟨wb, 3, none⟩).isSome = true ∧ w2.frozen? ⟨wb, 3, none⟩ = false ∧ w2.cell? ⟨bb, 0, none⟩ = some (.float .f64 br) ∧ w2.cell? ⟨bt, 0, none⟩ = some (.float .f64 tm) ∧ w2.cell? ⟨bx, 0, none⟩ = some (.float .f64 4621819117588971520) ∧ w2.cell? ⟨bx, 1, none⟩ = some (.float .f64 4602678819172646912) ∧ w2.cell? ⟨bx, 2, none⟩ = some (.float .f64 4652007308841189376) ∧ w2.cell? ⟨bx, 3, none⟩ = some (.int .i64 16) ∧ w2.cell? ⟨bx, 4, none⟩ = some (.int .i64 4) ∧ w2.cell? ⟨bx, 5, none⟩ = some (.int .i64 3) ∧ w2.cell? ⟨bx, 6, none⟩ = some (.int .i8 0) ∧ w2.cell? ⟨bx, 7, none⟩ = some (.int .i64 0) ∧ w2.cell? ⟨bx, 8, none⟩ = some (.int .i8 0) ∧ w2.cell? ⟨bx, 9, none⟩ = some (.int .i64 1) ∧ w2.cell? ⟨bx, 10, none⟩ = some (.int .i64 4) ∧ w2.cell? ⟨bx, 11, none⟩ = some (.int .i64 0) ∧ w2.cell? ⟨bx, 12, none⟩ = some (.float .f64 4620693217682128896) ∧ w2.cell? ⟨bx, 13, none⟩ = some (.float .f64 0) := by
  obtain ⟨h0, h1, h2, h3, h4, h5, h6, h7, h8, h9, h10, h11, h12, h13, h14, h15, h16, h17, h18, h19⟩ := h
  obtain ⟨v, hv⟩ := Option.isSome_iff_exists.1 h2
  exact ⟨h0.out.trans (But.of_up hu), cell_up h1 hu, by rw [cell_up hv hu]; rfl, frz_up (World.block_lt_of_cell? w1 _ h1) h3 hu, cell_up h4 hu, cell_up h5 hu, cell_up h6 hu, cell_up h7 hu, cell_up h8 hu, cell_up h9 hu, cell_up h10 hu, cell_up h11 hu, cell_up h12 hu, cell_up h13 hu, cell_up h14 hu, cell_up h15 hu, cell_up h16 hu, cell_up h17 hu, cell_up h18 hu, cell_up h19 hu⟩
theorem ks75 {w1 : World} {y : Value} (hn : bx ≠ wb ∧ bb ≠ wb ∧ bt ≠ wb) (h : Hid (But wb W w1) ∧ w1.cell? ⟨wb, 2, none⟩ = some v2 ∧ (w1.cell? ⟨wb, 3, none⟩).isSome = true ∧ w1.frozen? ⟨wb, 3, none⟩ = false ∧ w1.cell? ⟨bb, 0, none⟩ = some (.float .f64 br) ∧ w1.cell? ⟨bt, 0, none⟩ = some (.float .f64 tm) ∧ w1.cell? ⟨bx, 0, none⟩ = some (.float .f64 4621819117588971520) ∧ w1.cell? ⟨bx, 1, none⟩ = some (.float .f64 4602678819172646912) ∧ w1.cell? ⟨bx, 2, none⟩ = some (.float .f64 4652007308841189376) ∧ w1.cell? ⟨bx, 3, none⟩ = some (.int .i64 16) ∧ w1.cell? ⟨bx, 4, none⟩ = some (.int .i64 4) ∧ w1.cell? ⟨bx, 5, none⟩ = some (.int .i64 3) ∧ w1.cell? ⟨bx, 6, none⟩ = some (.int .i8 0) ∧ w1.cell? ⟨bx, 7, none⟩ = some (.int .i64 0) ∧ w1.cell? ⟨bx, 8, none⟩ = some (.int .i8 0) ∧ w1.cell? ⟨bx, 9, none⟩ = some (.int .i64 1) ∧ w1.cell? ⟨bx, 10, none⟩ = some (.int .i64 4) ∧ w1.cell? ⟨bx, 11, none⟩ = some (.int .i64 0) ∧ w1.cell? ⟨bx, 12, none⟩ = some (.float .f64 4620693217682128896) ∧ w1.cell? ⟨bx, 13, none⟩ = some (.float .f64 0)) : Hid (But wb W (w1.setCell ⟨wb, 3, none⟩ y)) ∧ (w1.setCell ⟨wb, 3, none⟩ y).cell? ⟨wb, 2, none⟩ = some v2 ∧ ((w1.setCell ⟨wb, 3, none⟩ y).cell? ⟨wb, 3, none⟩).isSome = true ∧ (w1.setCell ⟨wb, 3, none⟩ y).frozen? ⟨wb, 3, none⟩ = false ∧ (w1.setCell ⟨wb, 3, none⟩ y).cell? ⟨bb, 0, none⟩ = some (.float .f64 br) ∧ (w1.setCell ⟨wb, 3, none⟩ y).cell? ⟨bt, 0, none⟩ = some (.float .f64 tm) ∧ (w1.setCell ⟨wb, 3, none⟩ y).cell? ⟨bx, 0, none⟩ = some (.float .f64 4621819117588971520) ∧ (w1.setCell ⟨wb, 3, none⟩ y).cell? ⟨bx, 1, none⟩ = some (.float .f64 4602678819172646912) ∧ (w1.setCell ⟨wb, 3, none⟩ y).cell? ⟨bx, 2, none⟩ = some (.float .f64 4652007308841189376) ∧ (w1.setCell ⟨wb, 3, none⟩ y).cell? ⟨bx, 3, none⟩ = some (.int .i64 16) ∧ (w1.setCell ⟨wb, 3, none⟩ y).cell? ⟨bx, 4, none⟩ = some (.int .i64 4) ∧ (w1.setCell ⟨wb, 3, none⟩ y).cell? ⟨bx, 5, none⟩ = some (.int .i64 3) ∧ (w1.setCell ⟨wb, 3, none⟩ y).cell? ⟨bx, 6, none⟩ = some (.int .i8 0) ∧ (w1.setCell ⟨wb, 3, none⟩ y).cell? ⟨bx, 7, none⟩ = some (.int .i64 0) ∧ (w1.setCell ⟨wb, 3, none⟩ y).cell? ⟨bx, 8, none⟩ = some (.int .i8 0) ∧ (w1.setCell ⟨wb, 3, none⟩ y).cell? ⟨bx, 9, none⟩ = some (.int .i64 1) ∧ (w1.setCell ⟨wb, 3, none⟩ y).cell? ⟨bx, 10, none⟩ = some (.int .i64 4) ∧ (w1.setCell ⟨wb, 3, none⟩ y).cell? ⟨bx, 11, none⟩ = some (.int .i64 0) ∧ (w1.setCell ⟨wb, 3, none⟩ y).cell? ⟨bx, 12, none⟩ = some (.float .f64 4620693217682128896) ∧ (w1.setCell ⟨wb, 3, none⟩ y).cell? ⟨bx, 13, none⟩ = some (.float .f64 0) := by
  obtain ⟨h0, h1, h2, h3, h4, h5, h6, h7, h8, h9, h10, h11, h12, h13, h14, h15, h16, h17, h18, h19⟩ := h
  obtain ⟨v, hv⟩ := Option.isSome_iff_exists.1 h2
  have k : ∀ b j x, b ≠ wb → w1.cell? ⟨b, j, none⟩ = some x → (w1.setCell ⟨wb, 3, none⟩ y).cell? ⟨b, j, none⟩ = some x := fun b j x hn hx => (but_set w1 wb 3 y).cell hn hx
  obtain ⟨n1, n2, n3⟩ := hn
  exact ⟨h0.out.trans (but_set _ _ _ _), (World.cell?_setCell_other _ _ _ _ (addr_ne (by decide))).trans h1, by rw [World.cell?_setCell_same _ _ _ hv]; rfl, by rw [World.frozen?_setCell]; exact h3, k _ _ _ n2 h4, k _ _ _ n3 h5, k _ _ _ n1 h6, k _ _ _ n1 h7, k _ _ _ n1 h8, k _ _ _ n1 h9, k _ _ _ n1 h10, k _ _ _ n1 h11, k _ _ _ n1 h12, k _ _ _ n1 h13, k _ _ _ n1 h14, k _ _ _ n1 h15, k _ _ _ n1 h16, k _ _ _ n1 h17, k _ _ _ n1 h18, k _ _ _ n1 h19⟩
end
def P75 (W : World) (wb br tm : Nat) (v0 v1 v2 : Value) (e : Ending) (w' : World) : Prop := e = .returned (.int .i64 0) ∧ ∃ b v, Hid (WS w' wb v0 v1 v2 v) ∧ Hid (Pl.PO b w' v [oneK br tm]) ∧ Hid (But wb W w')
theorem po_one {b : Nat} {w : World} {v : Value} {p : Pl.Plt} (h : Pl.PO b w v [p]) : ∃ g c, v = .slice (some ⟨g, 0, none⟩) 1 c := by
  obtain ⟨-, h0 | ⟨g, cap, cur, e, -⟩⟩ := h
  · cases h0.2
  · exact ⟨g, cap, e⟩
theorem po_but {w w' : World} {b k : Nat} {v : Value} {p : Pl.Plt} (h : Pl.PO b w v [p]) (hb : But k w w') (hk : k < b) : Pl.PO b w' v [p] := by
  obtain ⟨q, h0 | ⟨g, cap, cur, e, h1, h2, h3, h4, h5, h6⟩⟩ := h
  · cases h0.2
  · refine ⟨q, Or.inr ⟨g, cap, cur, e, h1, ?_, h3, h4, h5, h6⟩⟩
    have hl : g < w.heap.size := (Array.getElem?_eq_some_iff.1 h2).1
    rw [hb.block g hl (fun q => by
      cases q
      omega)]
    exact h2
theorem t75 {W : World} {wb bx bb bt br tm g cg : Nat} {v0 v1 : Value} (hs : WS W wb v0 v1 (.slice (some ⟨g, 0, none⟩) 1 cg) (.slice none 0 0)) (hp : SpotAt W g ∧ g ≠ wb ∧ 1 ≤ cg) (hb : SB W bx 4621819117588971520 4602678819172646912 4652007308841189376 16 4 3 0 0 0 1 4 0 4620693217682128896 0) (hbb : W.cell? ⟨bb, 0, none⟩ = some (.float .f64 br)) (hbt : W.cell? ⟨bt, 0, none⟩ = some (.float .f64 tm)) (hn : bx ≠ wb ∧ bb ≠ wb ∧ bt ≠ wb) (ht : ab tm = some tm) (hf : fin (ab tm) = true) : Calls Tryz.prog 75 #[.pointer (some ⟨wb, 0, none⟩), .pointer (some ⟨bx, 0, none⟩), .pointer (some ⟨bb, 0, none⟩), .pointer (some ⟨bt, 0, none⟩)] W (P75 W wb br tm v0 v1 (.slice (some ⟨g, 0, none⟩) 1 cg)) := by
  have HONE : Hid (∀ V, But wb W V → OneS V (some ⟨g, 0, none⟩) cg) := fun V hV => (hp.1.but hV hp.2.1).s hp.2.2
  have HS : Hid (WS W wb v0 v1 (.slice (some ⟨g, 0, none⟩) 1 cg) (.slice none 0 0)) := hs
  have HN : Hid (bx ≠ wb ∧ bb ≠ wb ∧ bt ≠ wb) := hn
  have HT : Hid (ab tm = some tm ∧ fin (ab tm) = true) := ⟨ht, hf⟩
  have HK : Hid (Hid (But wb W W) ∧ W.cell? ⟨wb, 2, none⟩ = some (.slice (some ⟨g, 0, none⟩) 1 cg) ∧ (W.cell? ⟨wb, 3, none⟩).isSome = true ∧ W.frozen? ⟨wb, 3, none⟩ = false ∧ W.cell? ⟨bb, 0, none⟩ = some (.float .f64 br) ∧ W.cell? ⟨bt, 0, none⟩ = some (.float .f64 tm) ∧ W.cell? ⟨bx, 0, none⟩ = some (.float .f64 4621819117588971520) ∧ W.cell? ⟨bx, 1, none⟩ = some (.float .f64 4602678819172646912) ∧ W.cell? ⟨bx, 2, none⟩ = some (.float .f64 4652007308841189376) ∧ W.cell? ⟨bx, 3, none⟩ = some (.int .i64 16) ∧ W.cell? ⟨bx, 4, none⟩ = some (.int .i64 4) ∧ W.cell? ⟨bx, 5, none⟩ = some (.int .i64 3) ∧ W.cell? ⟨bx, 6, none⟩ = some (.int .i8 0) ∧ W.cell? ⟨bx, 7, none⟩ = some (.int .i64 0) ∧ W.cell? ⟨bx, 8, none⟩ = some (.int .i8 0) ∧ W.cell? ⟨bx, 9, none⟩ = some (.int .i64 1) ∧ W.cell? ⟨bx, 10, none⟩ = some (.int .i64 4) ∧ W.cell? ⟨bx, 11, none⟩ = some (.int .i64 0) ∧ W.cell? ⟨bx, 12, none⟩ = some (.float .f64 4620693217682128896) ∧ W.cell? ⟨bx, 13, none⟩ = some (.float .f64 0)) := ⟨But.refl _ _, hs.c2, by rw [hs.c3]; rfl, hs.fz 3, hbb, hbt, hb.s0, hb.s1, hb.s2, hb.s3, hb.s4, hb.s5, hb.s6, hb.s7, hb.s8, hb.s9, hb.s10, hb.s11, hb.s12, hb.s13⟩
  have HWB : Hid (wb < W.heap.size) := hs.lt
  clear hs hp hb hbb hbt hn ht hf
  go_enter Tryz.func75, Tryz.ntmps75
  go_upto_region 1 with fail
  go_region_held3 (fun w' => Hid (But wb W w') ∧ w'.cell? ⟨wb, 2, none⟩ = some (.slice (some ⟨g, 0, none⟩) 1 cg) ∧ (w'.cell? ⟨wb, 3, none⟩).isSome = true ∧ w'.frozen? ⟨wb, 3, none⟩ = false ∧ w'.cell? ⟨bb, 0, none⟩ = some (.float .f64 br) ∧ w'.cell? ⟨bt, 0, none⟩ = some (.float .f64 tm) ∧ w'.cell? ⟨bx, 0, none⟩ = some (.float .f64 4621819117588971520) ∧ w'.cell? ⟨bx, 1, none⟩ = some (.float .f64 4602678819172646912) ∧ w'.cell? ⟨bx, 2, none⟩ = some (.float .f64 4652007308841189376) ∧ w'.cell? ⟨bx, 3, none⟩ = some (.int .i64 16) ∧ w'.cell? ⟨bx, 4, none⟩ = some (.int .i64 4) ∧ w'.cell? ⟨bx, 5, none⟩ = some (.int .i64 3) ∧ w'.cell? ⟨bx, 6, none⟩ = some (.int .i8 0) ∧ w'.cell? ⟨bx, 7, none⟩ = some (.int .i64 0) ∧ w'.cell? ⟨bx, 8, none⟩ = some (.int .i8 0) ∧ w'.cell? ⟨bx, 9, none⟩ = some (.int .i64 1) ∧ w'.cell? ⟨bx, 10, none⟩ = some (.int .i64 4) ∧ w'.cell? ⟨bx, 11, none⟩ = some (.int .i64 0) ∧ w'.cell? ⟨bx, 12, none⟩ = some (.float .f64 4620693217682128896) ∧ w'.cell? ⟨bx, 13, none⟩ = some (.float .f64 0))
    (first | (with_reducible exact kp75 HK.out (Up.drew _)) | (with_reducible exact HF2.out) | (with_reducible exact HF3.out) | (with_reducible exact ks75 HN.out HF3.out) | (trace_state; fail))
    (first
      | (go_at_call 77; (with_reducible refine (t77 4621819117588971520 4602678819172646912 4652007308841189376 16 4 3 0 0 0 1 4 0 4620693217682128896 0 _ (by decide) rfl).mono ?_); rintro e w2 ⟨rfl, HU2⟩; (have HF2 : Hid _ := kp75 (‹Hid (But wb W _) ∧ _›) HU2.out))
      | (go_at_call 76; (with_reducible refine (t76 (HONE.out _ HF2.out.1.out) HT.out.1 HT.out.2).mono ?_); rintro e w3 ⟨v, rfl, HPO, HU3⟩; (obtain ⟨g9, c9, rfl⟩ := po_one HPO.out); (have HF3 : Hid _ := kp75 (‹Hid (But wb W _) ∧ _›) HU3.out); (obtain ⟨q2, hq2⟩ := Option.isSome_iff_exists.1 HF3.out.2.2.1)))
  all_goals go_wp2_with fail
  all_goals go_ret
  all_goals
    have HUW : Hid (Up W w3) := ((Up.drew W).trans HU2.out).trans HU3.out
    have hw2 : wb < w2.heap.size := Nat.lt_of_lt_of_le HWB.out ((Up.drew W).trans HU2.out).size
    exact ⟨rfl, _, _, (HS.out.up HUW.out).put3 _, po_but HPO.out (but_set _ _ _ _) hw2, (But.of_up HUW.out).trans (but_set _ _ _ _)⟩
def P78 (W : World) (wb : Nat) (p : Pl.Plt) (v0 v1 v2 : Value) (e : Ending) (w' : World) : Prop := e = .returned (.int .i64 0) ∧ ∃ g, Hid (WS w' wb v0 v1 v2 (.slice (some ⟨g, 0, none⟩) 1 1)) ∧ Hid (Pl.P5 w' g 0 p) ∧ Hid (g ≠ wb) ∧ Hid (But wb W w')
theorem t78 {W : World} {wb b : Nat} {v0 v1 v2 v : Value} {p : Pl.Plt} (hs : WS W wb v0 v1 v2 v) (hp : Pl.PO b W v [p]) (hf : p.Fit) : Calls Tryz.prog 78 #[.pointer (some ⟨wb, 0, none⟩)] W (P78 W wb p v0 v1 v2) := by
  have HS : Hid (WS W wb v0 v1 v2 v) := hs
  have C79 : Hid (Calls Tryz.prog 79 #[v] W (FsR W p)) := t79 hp hf
  have h3 := hs.c3
  have HWB : Hid (wb < W.heap.size) := hs.lt
  obtain ⟨g9, c9, rfl⟩ := po_one hp
  clear hs hp hf
  go_enter Tryz.func78, Tryz.ntmps78
  go_wp2_with (go_at_call 79; (with_reducible refine C79.out.mono ?_); rintro e w2 ⟨g, rfl, HP, HG, HU⟩; (have HS2 : Hid (WS w2 wb v0 v1 v2 _) := HS.out.up HU.out); (have q3 := HS2.out.c3); (have y3 := HS2.out.fz 3))
  go_ret
  have hgw : g ≠ wb := by
    have := HWB.out
    have e : W.heap.size ≤ g := HG.out
    omega
  obtain ⟨d0, d1, d2, d3, d4⟩ := HP.out
  have k : ∀ j x, w2.cell? ⟨g, j, none⟩ = some x → (w2.setCell ⟨wb, 3, none⟩ (.slice (some ⟨g, 0, none⟩) 1 1)).cell? ⟨g, j, none⟩ = some x := fun j x hx => (but_set w2 wb 3 _).cell hgw hx
  exact ⟨rfl, g, HS2.out.put3 _, ⟨k _ _ d0, k _ _ d1, k _ _ d2, k _ _ d3, k _ _ d4⟩, hgw, (But.of_up HU.out).trans (but_set _ _ _ _)⟩
end Go.Proofs.YtflngnnoibkkoaaGreat
/- Dwell: the steps, as rows of functions of one's own. -/
namespace Go.Proofs.YtflngnnoibkkoaaGreat
open Go.ChangeShapes Go.WideShapes Go.ChangeAt Go.RowKit Go.Fl Ieee
set_option maxRecDepth 200000
set_option maxHeartbeats 8000000
attribute [local go_sem] run_store_float run_store_complex run_store_fn call34 call33 run_neg fold_eq fold_ne fold_lt fold_gt abs_eq

theorem own_new {w : World} {L : List Value} {n : Nat} (b : Nat) (hb : b ≤ w.heap.size) (hn : L.length = n) (hm : n ≤ 1000) (t : TypeId) : (w.alloc (.cells L.toArray t)).ownsRow b t 1 (.slice (some ⟨w.heap.size, 0, none⟩) n n) n L :=
  ⟨by omega, Or.inr ⟨w.heap.size, n, L.toArray, rfl, hb, heap_last _ _, Nat.le_refl _, by unfold maxLen; omega, by simp [hn], by simp [← hn]⟩⟩
theorem own_cell {w : World} {b g n c : Nat} {t : TypeId} {L : List Value} (h : w.ownsRow b t 1 (.slice (some ⟨g, 0, none⟩) n c) n L) {i : Nat} {v : Value} (hv : L[i]? = some v) : w.cell? ⟨g, i, none⟩ = some v := by
  obtain ⟨hl, h0 | ⟨g', cap, cur, e, h1, h2, h3, h4, h5, h6⟩⟩ := h
  · cases h0.1
  · simp only [Value.slice.injEq, Option.some.injEq, Addr.mk.injEq] at e
    obtain ⟨⟨rfl, -⟩, -, -⟩ := e
    have hi : i < n := by
      have := (List.getElem?_eq_some_iff.1 hv).1
      omega
    rw [← h6, List.getElem?_take, if_pos (by omega)] at hv
    rw [(row_cell h2 i).1, ← Array.getElem?_toList]
    exact hv
def TcO (w : World) (sv : Value) (e : Ending) (w' : World) : Prop := ∃ sg b2 b3, e = .returned (.slice (some ⟨sg, 0, none⟩) 4 4) ∧ Hid (w'.ownsRow w.heap.size 100 1 (.slice (some ⟨sg, 0, none⟩) 4 4) 4 [.func (.func 59) #[] #[.pointer (some ⟨b3, 0, none⟩)], .func (.func 61) #[] #[.pointer (some ⟨b2, 0, none⟩)], .func (.func 63) #[] #[.pointer (some ⟨b2, 0, none⟩)], .func (.func 66) #[] #[]]) ∧ Hid (SB w' b2 4621819117588971520 4602678819172646912 4652007308841189376 16 4 3 0 0 0 1 4 0 4620693217682128896 0) ∧ Hid (w'.cell? ⟨b3, 0, none⟩ = some sv) ∧ Hid (Up w w') ∧ Hid (w.heap.size ≤ sg ∧ w.heap.size ≤ b2 ∧ w.heap.size ≤ b3 ∧ sg ≠ b2 ∧ sg ≠ b3)
theorem t32o (p : Option Addr) (x pc : Nat) (w : World) : Calls Tryz.prog 32 #[.agg #[.float .f64 4621819117588971520, .float .f64 4602678819172646912, .float .f64 4652007308841189376, .int .i64 16, .int .i64 4, .int .i64 3, .int .i8 0, .int .i64 0, .int .i8 0, .int .i64 1, .int .i64 4, .int .i64 0, .float .f64 4620693217682128896, .float .f64 0], .slice p x pc] w (TcO w (.slice p x pc)) := by
  have HS0 : Hid (SB (w.alloc (.cells #[.float .f64 4621819117588971520, .float .f64 4602678819172646912, .float .f64 4652007308841189376, .int .i64 16, .int .i64 4, .int .i64 3, .int .i8 0, .int .i64 0, .int .i8 0, .int .i64 1, .int .i64 4, .int .i64 0, .float .f64 4620693217682128896, .float .f64 0] 27)) w.heap.size 4621819117588971520 4602678819172646912 4652007308841189376 16 4 3 0 0 0 1 4 0 4620693217682128896 0) := SB.new w _ _ _ _ _ _ _ _ _ _ _ _ _ _
  go_enter Tryz.func32, Tryz.ntmps32
  go_wp2
  go_ret
  have n1 : (w.alloc (.cells #[.float .f64 4621819117588971520, .float .f64 4602678819172646912, .float .f64 4652007308841189376, .int .i64 16, .int .i64 4, .int .i64 3, .int .i8 0, .int .i64 0, .int .i8 0, .int .i64 1, .int .i64 4, .int .i64 0, .float .f64 4620693217682128896, .float .f64 0] 27)).heap.size = w.heap.size + 1 := by simp
  have n2 : ((w.alloc (.cells #[.float .f64 4621819117588971520, .float .f64 4602678819172646912, .float .f64 4652007308841189376, .int .i64 16, .int .i64 4, .int .i64 3, .int .i8 0, .int .i64 0, .int .i8 0, .int .i64 1, .int .i64 4, .int .i64 0, .float .f64 4620693217682128896, .float .f64 0] 27)).alloc (.cells #[.slice p x pc] 34)).heap.size = w.heap.size + 1 + 1 := by simp
  have hc := new_cell (w.alloc (.cells #[.float .f64 4621819117588971520, .float .f64 4602678819172646912, .float .f64 4652007308841189376, .int .i64 16, .int .i64 4, .int .i64 3, .int .i8 0, .int .i64 0, .int .i8 0, .int .i64 1, .int .i64 4, .int .i64 0, .float .f64 4620693217682128896, .float .f64 0] 27)) #[.slice p x pc] 34 0 _ rfl
  rw [n1] at hc
  have hu : Up w ((w.alloc (.cells #[.float .f64 4621819117588971520, .float .f64 4602678819172646912, .float .f64 4652007308841189376, .int .i64 16, .int .i64 4, .int .i64 3, .int .i8 0, .int .i64 0, .int .i8 0, .int .i64 1, .int .i64 4, .int .i64 0, .float .f64 4620693217682128896, .float .f64 0] 27)).alloc (.cells #[.slice p x pc] 34)) := (Up.alloc _ _).trans (Up.alloc _ _)
  have hs : SB ((w.alloc (.cells #[.float .f64 4621819117588971520, .float .f64 4602678819172646912, .float .f64 4652007308841189376, .int .i64 16, .int .i64 4, .int .i64 3, .int .i8 0, .int .i64 0, .int .i8 0, .int .i64 1, .int .i64 4, .int .i64 0, .float .f64 4620693217682128896, .float .f64 0] 27)).alloc (.cells #[.slice p x pc] 34)) w.heap.size 4621819117588971520 4602678819172646912 4652007308841189376 16 4 3 0 0 0 1 4 0 4620693217682128896 0 := HS0.out.up (Up.alloc _ _)
  generalize ((w.alloc (.cells #[.float .f64 4621819117588971520, .float .f64 4602678819172646912, .float .f64 4652007308841189376, .int .i64 16, .int .i64 4, .int .i64 3, .int .i8 0, .int .i64 0, .int .i8 0, .int .i64 1, .int .i64 4, .int .i64 0, .float .f64 4620693217682128896, .float .f64 0] 27)).alloc (.cells #[.slice p x pc] 34)) = W at *
  refine ⟨w.heap.size + 1 + 1, w.heap.size, w.heap.size + 1, rfl, ?_, hs.up (Up.alloc _ _), cell_up hc (Up.alloc _ _), hu.trans (Up.alloc _ _), ⟨by omega, by omega, by omega, by omega, by omega⟩⟩
  have := own_new (w := W) (L := [.func (.func 59) #[] #[.pointer (some ⟨w.heap.size + 1, 0, none⟩)], .func (.func 61) #[] #[.pointer (some ⟨w.heap.size, 0, none⟩)], .func (.func 63) #[] #[.pointer (some ⟨w.heap.size, 0, none⟩)], .func (.func 66) #[] #[]]) w.heap.size hu.size rfl (by simp) 100
  rwa [n2] at this
def TpR (w : World) (br tm : Nat) (e : Ending) (w' : World) : Prop := ∃ s bx bb bt, e = .returned (.slice (some ⟨s, 0, none⟩) 3 3) ∧ Hid (w'.ownsRow w.heap.size 100 1 (.slice (some ⟨s, 0, none⟩) 3 3) 3 [.func (.func 73) #[] #[.pointer (some ⟨bx, 0, none⟩)], .func (.func 75) #[] #[.pointer (some ⟨bx, 0, none⟩), .pointer (some ⟨bb, 0, none⟩), .pointer (some ⟨bt, 0, none⟩)], .func (.func 78) #[] #[]]) ∧ Hid (SB w' bx 4621819117588971520 4602678819172646912 4652007308841189376 16 4 3 0 0 0 1 4 0 4620693217682128896 0) ∧ Hid (w'.cell? ⟨bb, 0, none⟩ = some (.float .f64 br) ∧ w'.cell? ⟨bt, 0, none⟩ = some (.float .f64 tm)) ∧ Hid (Up w w') ∧ Hid (w.heap.size ≤ s ∧ w.heap.size ≤ bx ∧ w.heap.size ≤ bb ∧ w.heap.size ≤ bt)
theorem t47 (br tm : Nat) (w : World) : Calls Tryz.prog 47 #[.agg #[.float .f64 4621819117588971520, .float .f64 4602678819172646912, .float .f64 4652007308841189376, .int .i64 16, .int .i64 4, .int .i64 3, .int .i8 0, .int .i64 0, .int .i8 0, .int .i64 1, .int .i64 4, .int .i64 0, .float .f64 4620693217682128896, .float .f64 0], .float .f64 br, .float .f64 tm] w (TpR w br tm) := by
  have HS0 : Hid (SB (w.alloc (.cells #[.float .f64 4621819117588971520, .float .f64 4602678819172646912, .float .f64 4652007308841189376, .int .i64 16, .int .i64 4, .int .i64 3, .int .i8 0, .int .i64 0, .int .i8 0, .int .i64 1, .int .i64 4, .int .i64 0, .float .f64 4620693217682128896, .float .f64 0] 27)) w.heap.size 4621819117588971520 4602678819172646912 4652007308841189376 16 4 3 0 0 0 1 4 0 4620693217682128896 0) := SB.new w _ _ _ _ _ _ _ _ _ _ _ _ _ _
  go_enter Tryz.func47, Tryz.ntmps47
  go_wp2
  go_ret
  have n1 : (w.alloc (.cells #[.float .f64 4621819117588971520, .float .f64 4602678819172646912, .float .f64 4652007308841189376, .int .i64 16, .int .i64 4, .int .i64 3, .int .i8 0, .int .i64 0, .int .i8 0, .int .i64 1, .int .i64 4, .int .i64 0, .float .f64 4620693217682128896, .float .f64 0] 27)).heap.size = w.heap.size + 1 := by simp
  have n2 : ((w.alloc (.cells #[.float .f64 4621819117588971520, .float .f64 4602678819172646912, .float .f64 4652007308841189376, .int .i64 16, .int .i64 4, .int .i64 3, .int .i8 0, .int .i64 0, .int .i8 0, .int .i64 1, .int .i64 4, .int .i64 0, .float .f64 4620693217682128896, .float .f64 0] 27)).alloc (.cells #[.float .f64 br] 22)).heap.size = w.heap.size + 1 + 1 := by simp
  have n3 : (((w.alloc (.cells #[.float .f64 4621819117588971520, .float .f64 4602678819172646912, .float .f64 4652007308841189376, .int .i64 16, .int .i64 4, .int .i64 3, .int .i8 0, .int .i64 0, .int .i8 0, .int .i64 1, .int .i64 4, .int .i64 0, .float .f64 4620693217682128896, .float .f64 0] 27)).alloc (.cells #[.float .f64 br] 22)).alloc (.cells #[.float .f64 tm] 22)).heap.size = w.heap.size + 1 + 1 + 1 := by simp
  have hb := new_cell (w.alloc (.cells #[.float .f64 4621819117588971520, .float .f64 4602678819172646912, .float .f64 4652007308841189376, .int .i64 16, .int .i64 4, .int .i64 3, .int .i8 0, .int .i64 0, .int .i8 0, .int .i64 1, .int .i64 4, .int .i64 0, .float .f64 4620693217682128896, .float .f64 0] 27)) #[.float .f64 br] 22 0 _ rfl
  rw [n1] at hb
  replace hb := cell_up hb (Up.alloc _ (.cells #[.float .f64 tm] 22))
  have ht := new_cell ((w.alloc (.cells #[.float .f64 4621819117588971520, .float .f64 4602678819172646912, .float .f64 4652007308841189376, .int .i64 16, .int .i64 4, .int .i64 3, .int .i8 0, .int .i64 0, .int .i8 0, .int .i64 1, .int .i64 4, .int .i64 0, .float .f64 4620693217682128896, .float .f64 0] 27)).alloc (.cells #[.float .f64 br] 22)) #[.float .f64 tm] 22 0 _ rfl
  rw [n2] at ht
  have hu : Up w (((w.alloc (.cells #[.float .f64 4621819117588971520, .float .f64 4602678819172646912, .float .f64 4652007308841189376, .int .i64 16, .int .i64 4, .int .i64 3, .int .i8 0, .int .i64 0, .int .i8 0, .int .i64 1, .int .i64 4, .int .i64 0, .float .f64 4620693217682128896, .float .f64 0] 27)).alloc (.cells #[.float .f64 br] 22)).alloc (.cells #[.float .f64 tm] 22)) := ((Up.alloc _ _).trans (Up.alloc _ _)).trans (Up.alloc _ _)
  have hs : SB (((w.alloc (.cells #[.float .f64 4621819117588971520, .float .f64 4602678819172646912, .float .f64 4652007308841189376, .int .i64 16, .int .i64 4, .int .i64 3, .int .i8 0, .int .i64 0, .int .i8 0, .int .i64 1, .int .i64 4, .int .i64 0, .float .f64 4620693217682128896, .float .f64 0] 27)).alloc (.cells #[.float .f64 br] 22)).alloc (.cells #[.float .f64 tm] 22)) w.heap.size 4621819117588971520 4602678819172646912 4652007308841189376 16 4 3 0 0 0 1 4 0 4620693217682128896 0 := HS0.out.up ((Up.alloc _ _).trans (Up.alloc _ _))
  generalize (((w.alloc (.cells #[.float .f64 4621819117588971520, .float .f64 4602678819172646912, .float .f64 4652007308841189376, .int .i64 16, .int .i64 4, .int .i64 3, .int .i8 0, .int .i64 0, .int .i8 0, .int .i64 1, .int .i64 4, .int .i64 0, .float .f64 4620693217682128896, .float .f64 0] 27)).alloc (.cells #[.float .f64 br] 22)).alloc (.cells #[.float .f64 tm] 22)) = W at *
  refine ⟨w.heap.size + 1 + 1 + 1, w.heap.size, w.heap.size + 1, w.heap.size + 1 + 1, rfl, ?_, hs.up (Up.alloc _ _), ⟨cell_up hb (Up.alloc _ _), cell_up ht (Up.alloc _ _)⟩, hu.trans (Up.alloc _ _), ⟨by omega, by omega, by omega, by omega⟩⟩
  have := own_new (w := W) (L := [.func (.func 73) #[] #[.pointer (some ⟨w.heap.size, 0, none⟩)], .func (.func 75) #[] #[.pointer (some ⟨w.heap.size, 0, none⟩), .pointer (some ⟨w.heap.size + 1, 0, none⟩), .pointer (some ⟨w.heap.size + 1 + 1, 0, none⟩)], .func (.func 78) #[] #[]]) w.heap.size hu.size rfl (by simp) 100
  rwa [n3] at this
end Go.Proofs.YtflngnnoibkkoaaGreat
/- Dwell: the seven steps, one after another. -/
namespace Go.Proofs.YtflngnnoibkkoaaGreat
open Go.ChangeShapes Go.WideShapes Go.ChangeAt Go.RowKit Go.Fl Ieee
set_option maxRecDepth 200000
set_option maxHeartbeats 8000000

/-- The work behind the steps to cells. -/
def IP (w0 : World) (wb A c br tm : Nat) : Nat → World → Prop
  | 5, w => But wb w0 w ∧ ∃ v0 v1 g cg, WS w wb v0 v1 (.slice (some ⟨g, 0, none⟩) 1 cg) (.slice none 0 0) ∧ SpotAt w g ∧ g ≠ wb ∧ 1 ≤ cg
  | 6, w => But wb w0 w ∧ ∃ v0 v1 v2 v b, WS w wb v0 v1 v2 v ∧ Pl.PO b w v [oneK br tm]
  | 7, w => But wb w0 w ∧ ∃ v0 v1 v2 g, WS w wb v0 v1 v2 (.slice (some ⟨g, 0, none⟩) 1 1) ∧ Pl.P5 w g 0 (oneK br tm) ∧ g ≠ wb
  | i, w => IC w0 wb A c 4 16 4 0 (fun _ g => rowK[g]!) (fun i => codeK[i]!) i w
/-- What stands where all the steps are taken. -/
structure TpW (w0 : World) (wb sq bx bb bt br tm : Nat) : Prop where
  s4 : w0.cell? ⟨sq, 4, none⟩ = some (.func (.func 73) #[] #[.pointer (some ⟨bx, 0, none⟩)])
  s5 : w0.cell? ⟨sq, 5, none⟩ = some (.func (.func 75) #[] #[.pointer (some ⟨bx, 0, none⟩), .pointer (some ⟨bb, 0, none⟩), .pointer (some ⟨bt, 0, none⟩)])
  s6 : w0.cell? ⟨sq, 6, none⟩ = some (.func (.func 78) #[] #[])
  sb : SB w0 bx 4621819117588971520 4602678819172646912 4652007308841189376 16 4 3 0 0 0 1 4 0 4620693217682128896 0
  vb : w0.cell? ⟨bb, 0, none⟩ = some (.float .f64 br)
  vt : w0.cell? ⟨bt, 0, none⟩ = some (.float .f64 tm)
  ns : sq ≠ wb ∧ bx ≠ wb ∧ bb ≠ wb ∧ bt ≠ wb
  tf : ab tm = some tm ∧ fin (ab tm) = true
  ft : br < 2 ^ 64 ∧ tm < 2 ^ 64
def GP : Nat → FuncId := fun i => if i < 4 then GC i else if i = 4 then 73 else if i = 5 then 75 else 78
def KP (b2 b3 bx bb bt : Nat) : Nat → Array Value := fun i => if i < 4 then KC b2 b3 i else if i = 4 then #[.pointer (some ⟨bx, 0, none⟩)] else if i = 5 then #[.pointer (some ⟨bx, 0, none⟩), .pointer (some ⟨bb, 0, none⟩), .pointer (some ⟨bt, 0, none⟩)] else #[]
theorem ip_ic {w0 w : World} {wb A c br tm i : Nat} (hi : i ≤ 4) : IP w0 wb A c br tm i w ↔ IC w0 wb A c 4 16 4 0 (fun _ g => rowK[g]!) (fun i => codeK[i]!) i w := by
  obtain rfl | rfl | rfl | rfl | rfl : i = 0 ∨ i = 1 ∨ i = 2 ∨ i = 3 ∨ i = 4 := by omega
  all_goals exact Iff.rfl
theorem IP.but {w0 w : World} {wb A c br tm i : Nat} (hi : i ≤ 7) (h : IP w0 wb A c br tm i w) : But wb w0 w := by
  by_cases h4 : i ≤ 4
  · exact ((ip_ic h4).1 h).but
  · obtain rfl | rfl | rfl : i = 5 ∨ i = 6 ∨ i = 7 := by omega
    all_goals exact h.1
theorem SB.but {w w' : World} {k g : Nat} {c v r : Nat} {E R cd win can way gu tr nth : Int} {ti no : Nat} (h : SB w g c v r E R cd win can way gu tr nth ti no) (hb : But k w w') (hn : g ≠ k) : SB w' g c v r E R cd win can way gu tr nth ti no :=
  ⟨hb.cell hn h.s0, hb.cell hn h.s1, hb.cell hn h.s2, hb.cell hn h.s3, hb.cell hn h.s4, hb.cell hn h.s5, hb.cell hn h.s6, hb.cell hn h.s7, hb.cell hn h.s8, hb.cell hn h.s9, hb.cell hn h.s10, hb.cell hn h.s11, hb.cell hn h.s12, hb.cell hn h.s13⟩
theorem cm_dk {w : World} {v : Value} {wb : Nat} {D : Nat → Array Nat} (h : CM w v 4 16 wb D) (hD : ∀ i, i < 4 → D i = dK i) : CM w v 4 16 wb dK := by
  obtain ⟨A, B, h1, h2, h3⟩ := h.ex
  refine ⟨A, B, h1, h2, fun i hi => ?_⟩
  rw [← hD i hi]
  exact h3 i hi
theorem oneK_fit {br tm : Nat} (h : br < 2 ^ 64 ∧ tm < 2 ^ 64) : (oneK br tm).Fit := ⟨(by show 4632937379169042432 < _; decide), (by show 9223372036854775808 < _; decide), (by show 4643211215818981376 < _; decide), h.1, h.2⟩
section
variable {w0 : World} {wb sq b2 b3 bx bb bt A c pg pc br tm : Nat}
theorem run7 (h : TcW w0 wb sq b2 b3 A c 4 16 4 pg pc 0 (fun _ g => rowK[g]!) (fun i => codeK[i]!)) (k : TpW w0 wb sq bx bb bt br tm) (h0 : WS w0 wb (.slice (some ⟨A, 0, none⟩) 4 c) (.slice none 0 0) (.slice none 0 0) (.slice none 0 0)) (cc : Nat) :
    Calls Tryz.prog 31 #[.pointer (some ⟨wb, 0, none⟩), .slice (some ⟨sq, 0, none⟩) 7 cc] w0 (fun e w' => e = .returned (.int .i64 0) ∧ Hid (IP w0 wb A c br tm 7 w')) := by
  obtain ⟨n1, n2, n3, n4⟩ := k.ns
  refine t31 GP (KP b2 b3 bx bb bt) (IP w0 wb A c br tm) (by decide) (fun i hi W hW => ?_) (fun i hi => ?_) (fun i hi W hW => ?_) ⟨But.refl _ _, h0⟩
  · have hb := hW.but (by omega)
    by_cases h4 : i < 4
    · have e1 : GP i = GC i := if_pos h4
      have e2 : KP b2 b3 bx bb bt i = KC b2 b3 i := if_pos h4
      rw [e1, e2]
      exact h.fn i h4 W hb
    · obtain rfl | rfl | rfl : i = 4 ∨ i = 5 ∨ i = 6 := by omega
      · exact hb.cell n1 k.s4
      · exact hb.cell n1 k.s5
      · exact hb.cell n1 k.s6
  · by_cases h4 : i < 4
    · have e1 : GP i = GC i := if_pos h4
      rw [e1]
      exact enters_c i h4
    · obtain rfl | rfl | rfl : i = 4 ∨ i = 5 ∨ i = 6 := by omega
      · exact fun _ _ => enters Tryz.func73 (by kernel_rfl) (by kernel_rfl) _ _
      · exact fun _ _ => enters Tryz.func75 (by kernel_rfl) (by kernel_rfl) _ _
      · exact fun _ _ => enters Tryz.func78 (by kernel_rfl) (by kernel_rfl) _ _
  · have hb := hW.but (by omega)
    by_cases h4 : i < 4
    · have e1 : GP i = GC i := if_pos h4
      have e2 : KP b2 b3 bx bb bt i = KC b2 b3 i := if_pos h4
      rw [e1, e2]
      refine (h.at' i h4 W ((ip_ic (by omega)).1 hW)).mono ?_
      rintro e w' ⟨rfl, q⟩
      exact ⟨rfl, (ip_ic (by omega)).2 q.out⟩
    · obtain rfl | rfl | rfl : i = 4 ∨ i = 5 ∨ i = 6 := by omega
      · obtain ⟨-, v0, v, f3, D, q1, q2, q3, q4⟩ := hW
        have hs : ∀ i, i < 4 → (D i).size = 16 := fun i hi => by
          obtain ⟨A, B, -, -, h3⟩ := q2.ex
          exact (h3 i hi).2.1
        have hD := cells_k q3 q4 hs
        refine (t73 q1 (cm_dk q2 hD) (k.sb.but hb n2) n2).mono ?_
        rintro e w' ⟨rfl, g, cg, r1, r2, r3⟩
        exact ⟨rfl, hb.trans r3.out, v0, v, g, cg, r1.out, r2.out⟩
      · obtain ⟨-, v0, v1, g, cg, q1, q2⟩ := hW
        refine (t75 (br := br) (tm := tm) q1 q2 (k.sb.but hb n2) (hb.cell n3 k.vb) (hb.cell n4 k.vt) ⟨n2, n3, n4⟩ k.tf.1 k.tf.2).mono ?_
        rintro e w' ⟨rfl, b, v, r1, r2, r3⟩
        exact ⟨rfl, hb.trans r3.out, v0, v1, _, v, b, r1.out, r2.out⟩
      · obtain ⟨-, v0, v1, v2, v, b, q1, q2⟩ := hW
        refine (t78 q1 q2 (oneK_fit k.ft)).mono ?_
        rintro e w' ⟨rfl, g, r1, r2, r3, r4⟩
        exact ⟨rfl, hb.trans r4.out, v0, v1, v2, g, r1.out, r2.out, r3.out⟩
end
end Go.Proofs.YtflngnnoibkkoaaGreat
