/- Dwell: from one spot to its plot. -/
import Derived.Test.YtflngnnoibkkoaaGreatEl
namespace Go.Proofs.YtflngnnoibkkoaaGreat
open Go.ChangeShapes Go.WideShapes Go.ChangeAt Go.RowKit Go.Fl Ieee
set_option maxRecDepth 200000
set_option maxHeartbeats 8000000
attribute [local go_sem] run_store_float run_store_complex run_store_fn call34 call33 run_neg fold_eq fold_ne fold_lt fold_gt abs_eq

/-- What stands of the plots while groups are gone over. -/
def SgA (W w' : World) (br tm : Nat) (v : Value) (k : Nat) : Prop := (k = 0 ∧ v = .slice none 0 0) ∨ (k = 1 ∧ Pl.PO W.heap.size w' v [oneK br tm])
def SgR (W : World) (br tm : Nat) (e : Ending) (w' : World) : Prop := ∃ v, e = .returned v ∧ Hid (Pl.PO W.heap.size w' v [oneK br tm]) ∧ Hid (Up W w')
set_option maxHeartbeats 32000000 in
theorem t76 {w : World} {p : Option Addr} {c br tm : Nat} (h : OneS w p c) (ht : ab tm = some tm) (hf : fin (ab tm) = true) : Calls Tryz.prog 76 #[.agg #[.float .f64 4621819117588971520, .float .f64 4602678819172646912, .float .f64 4652007308841189376, .int .i64 16, .int .i64 4], .slice p 1 c, .float .f64 br, .float .f64 tm] w (SgR w br tm) := by
  have H : Hid (OneS w p c) := h
  have HT : Hid (ab tm = some tm ∧ fin (ab tm) = true) := ⟨ht, hf⟩
  have HB := BC.new w 4621819117588971520 4602678819172646912 4652007308841189376 16 4
  have HBE : Hid (BC (w.alloc (.cells #[.float .f64 4621819117588971520, .float .f64 4602678819172646912, .float .f64 4652007308841189376, .int .i64 16, .int .i64 4] 24)) w.heap.size 4621819117588971520 4602678819172646912 4652007308841189376 16 4) := HB
  obtain ⟨b0, b1, b2, b3, b4⟩ := HB
  have HU0 : Hid (Up w (w.alloc (.cells #[.float .f64 4621819117588971520, .float .f64 4602678819172646912, .float .f64 4652007308841189376, .int .i64 16, .int .i64 4] 24))) := Up.alloc _ _
  have HS1 : Hid (OneS (w.alloc (.cells #[.float .f64 4621819117588971520, .float .f64 4602678819172646912, .float .f64 4652007308841189376, .int .i64 16, .int .i64 4] 24)) p c) := Pk.SpV.up h (Up.alloc _ _)
  clear h ht hf
  obtain ⟨i0, hi0, hz0, hz1, hz2⟩ := info_parts Pl.info28
  go_enter Tryz.func76, Tryz.ntmps76
  go_wp2_with (go_at_call 120; (with_reducible refine (k120 HS1.out).mono ?_); rintro e w1 ⟨g, cg, A, Cg, rfl, HG, HU1⟩)
  obtain ⟨hc0, hrow⟩ := HG.out 0 (by decide)
  have HU1' : Hid (Up w w1) := HU0.out.trans HU1.out
  have HB1 : Hid (BC w1 w.heap.size 4621819117588971520 4602678819172646912 4652007308841189376 16 4) := HBE.out.up HU1.out
  have hc1 : w1.cell? ⟨g, 0, none⟩ = some (.slice (some ⟨A 0, 0, none⟩) 1 (Cg 0)) := hc0
  obtain ⟨A0, hA0⟩ : ∃ a, A 0 = a := ⟨_, rfl⟩
  obtain ⟨C0', hC0⟩ : ∃ a, Cg 0 = a := ⟨_, rfl⟩
  rw [hA0, hC0] at hc1 hrow
  have HOS : Hid (OneS w1 (some ⟨A0, 0, none⟩) C0') := by
    have q : ∀ i, i < 1 → spK[i]! = ((0, 5, 4643211215818981376) : Int × Int × Nat) := fun i hi => by
      obtain rfl : i = 0 := by omega
      rfl
    refine ⟨rfl, hrow.le, by decide, fun i hi => by rw [q i hi]; exact Pk.wf_lit (by decide), fun i hi => by rw [q i hi]; decide, fun _ => ⟨A0, 0, rfl, fun i hi => ?_⟩⟩
    obtain rfl : i = 0 := by omega
    have z := (hrow.cell (i := 0) (by decide)).1
    exact z
  clear hc0 hrow hA0 hC0 HG HS1 HBE HU0 b0 b1 b2 b3 b4 H
  have CEN2 : Hid (∀ V, Up w1 V → Calls Tryz.prog 122 #[.slice (some ⟨A0, 0, none⟩) 1 C0', .int .i64 4] V (fun e w' => e = .returned (.agg #[.float .f64 0, .float .f64 4617315517961601024, .float .f64 4643211215818981376, .int .i64 1]) ∧ Hid (Up V w'))) := fun V hV => k122 (Pk.SpV.up HOS.out hV)
  go_loopw [9, 11, 12, 13, 19] (fun v9 _ _ _ v19 wr => ∃ k : Nat, v19 = .int .i64 k ∧ Hid (Up w1 wr) ∧ Hid (SgA w wr br tm v9 k)) (fun _ _ _ _ v19 _ => 1 - (intOf v19).toNat)
  case atStart => exact ⟨0, rfl, Up.refl _, Or.inl ⟨rfl, rfl⟩⟩
  case round =>
    obtain ⟨k, rfl, HUr, HK⟩ := hrel
    rename World => wr
    rcases HK.out with ⟨rfl, rfl⟩ | ⟨rfl, h9⟩
    · have hc2 := cell_up hc1 HUr.out
      have HBr : Hid (BC wr w.heap.size 4621819117588971520 4602678819172646912 4652007308841189376 16 4) := HB1.out.up HUr.out
      obtain ⟨b0, b1, b2, b3, b4⟩ := HBr.out
      go_upto_region 5 with fail
      go_cut [12, 13] from 23 to 36 (fun v12 v13 wx => ∃ b : Nat, v12 = .pointer (some ⟨b, 0, none⟩) ∧ v13 = .int .i64 0 ∧ Hid (Pw wx b ⟨4632937379169042432, 9223372036854775808, 4643211215818981376, 0, tm⟩) ∧ Hid (wr.heap.size ≤ b) ∧ Hid (Up wr wx))
      case first =>
        have HG5 : Hid (w.heap.size < wr.heap.size) := World.block_lt_of_cell? wr _ b0
        have HRR : Hid (Up wr wr) := Up.refl wr
        go_region_held3 (fun w' => Hid (Up wr w') ∧ w'.cell? ⟨w.heap.size, 0, none⟩ = some (.float .f64 4621819117588971520) ∧ w'.cell? ⟨w.heap.size, 1, none⟩ = some (.float .f64 4602678819172646912) ∧ w'.cell? ⟨w.heap.size, 2, none⟩ = some (.float .f64 4652007308841189376) ∧ w'.cell? ⟨w.heap.size, 3, none⟩ = some (.int .i64 16) ∧ w'.cell? ⟨w.heap.size, 4, none⟩ = some (.int .i64 4))
          (first | (with_reducible exact kB7 HZ.out HG5.out HF3.out) | (with_reducible exact kB6 ⟨HRR, b0, b1, b2, b3, b4⟩ (Up.drew _)) | (with_reducible exact kB6 ‹_› (Up.alloc _ _)) | (with_reducible exact kB6 HF3.out (Up.alloc _ _)) | (with_reducible exact HF3.out) | (with_reducible exact HF2.out) | (trace_state; fail))
          (first
            | (go_at_call 122; (with_reducible refine (CEN2.out _ (HUr.out.trans (‹Hid (Up wr _) ∧ _›).1.out)).mono ?_); rintro e w2 ⟨rfl, HU2⟩; (have HF2 : Hid _ := kB6 (‹Hid (Up wr _) ∧ _›) HU2.out); (first | (with_reducible (have HZ := Zw.new4 HU2.out); obtain ⟨z0, z1, z2, z3, z4, y0, y1, y2, y3, y4⟩ := HZ.out.z) | (with_reducible (have HZ := Zw.new2 (show Up wr _ from by first | with_reducible exact Up.drew wr | with_reducible exact HF2.out.1.out | exact (‹Hid (Up wr _) ∧ _›).1.out) HU2.out); obtain ⟨z0, z1, z2, z3, z4, y0, y1, y2, y3, y4⟩ := HZ.out.z) | (with_reducible (have HZ' := Zw.nx HZ HU2.out); clear z0 z1 z2 z3 z4 y0 y1 y2 y3 y4; clear HZ; (have HZ := HZ'); clear HZ'; obtain ⟨z0, z1, z2, z3, z4, y0, y1, y2, y3, y4⟩ := HZ.out.z) | skip))
            | (go_at_call 121; (with_reducible refine (k121 HT.out.1 HT.out.2 _).mono ?_); rintro e w3 ⟨rfl, HU3⟩; (have HF3 : Hid _ := kB6 (‹Hid (Up wr _) ∧ _›) HU3.out); (first | (with_reducible (have HZ := Zw.new4 HU3.out); obtain ⟨z0, z1, z2, z3, z4, y0, y1, y2, y3, y4⟩ := HZ.out.z) | (with_reducible (have HZ := Zw.new2 (show Up wr _ from by first | with_reducible exact Up.drew wr | with_reducible exact HF2.out.1.out | exact (‹Hid (Up wr _) ∧ _›).1.out) HU3.out); obtain ⟨z0, z1, z2, z3, z4, y0, y1, y2, y3, y4⟩ := HZ.out.z) | (with_reducible (have HZ' := Zw.nx HZ HU3.out); clear z0 z1 z2 z3 z4 y0 y1 y2 y3 y4; clear HZ; (have HZ := HZ'); clear HZ'; obtain ⟨z0, z1, z2, z3, z4, y0, y1, y2, y3, y4⟩ := HZ.out.z) | skip)))
        all_goals go_wp2_with fail
        all_goals go_meet
        all_goals first
          | exact ⟨_, rfl, rfl, Pw.new w3 tm, HF3.out.1.out.size, HF3.out.1.out.trans (Up.alloc _ _)⟩
          | exact ⟨_, rfl, rfl, Zr.put HZ.out.z, HZ.out.le, five_up HF3.out.1.out HZ.out.le⟩
      case rest =>
        obtain ⟨b11, rfl, rfl, HPW, HB11, HUv⟩ := hcut
        obtain ⟨p0, p1, p2, p3, p4, f3⟩ := HPW.out
        have HBS : Hid (Pl.P5 (wc.setCell ⟨b11, 3, none⟩ (.float .f64 br)) b11 0 (oneK br tm)) := HPW.out.br
        have HUS : Hid (Up wr (wc.setCell ⟨b11, 3, none⟩ (.float .f64 br))) := RowKit.Below.setCell HUv.out HB11.out _
        go_upto_region 8 with (fail)
        clear p0 p1 p2 p3 p4 f3 HPW HUv b0 b1 b2 b3 b4 HBr CEN2
        generalize wc.setCell ⟨b11, 3, none⟩ (.float .f64 br) = w5 at *
        obtain ⟨d0, d1, d2, d3, d4⟩ := HBS.out
        have sz : w.heap.size ≤ w5.heap.size := (HU1'.out.trans (HUr.out.trans HUS.out)).size
        have hown : w5.ownsRow w.heap.size 64 5 (.slice none 0 0) 0 [] := Pl.PO.nil _ _
        clear HU1
        go_wp2_with (first
          | (at_builtin; refine wpList_append_own _ rfl _ _ 60 rfl w.heap.size 64 i0 (.agg #[.float .f64 0, .float .f64 0, .float .f64 0, .float .f64 0, .float .f64 0]) 5 40 Tryz.underlying60 hi0 hz0 hz1 hz2 rfl (by decide) _ _ _ rfl (hown.alloc _) ⟨w5.heap.size, 0, none⟩ 1 1 (Pl.pL (oneK br tm)) rfl rfl (Pl.five_new _ (oneK br tm) _) (Pl.five_one (oneK br tm)) (by unfold maxLen; omega) (by omega) (by simp; omega) ?_))
        intro v' w6 hown' hgrow _
        have HPO : Hid (Pl.PO w.heap.size w6 v' [oneK br tm]) := Pl.PO.app (D := []) hown'
        have HU9 : Hid (Up w1 w6) := (HUr.out.trans HUS.out).trans (RowKit.Below.grown ((RowKit.Below.refl _ _).alloc (Nat.le_refl _) _) hgrow (by simp) (fun j hj => by cases hj))
        clear hown' hgrow hown d0 d1 d2 d3 d4 HBS HUS
        go_wp2
        go_roundw
        case rel => exact ⟨1, rfl, HU9, Or.inr ⟨rfl, HPO⟩⟩
        case measure => simp [intOf]
    · go_wp2
      go_ret
      exact ⟨_, rfl, h9, HU1'.out.trans HUr.out⟩
end Go.Proofs.YtflngnnoibkkoaaGreat
