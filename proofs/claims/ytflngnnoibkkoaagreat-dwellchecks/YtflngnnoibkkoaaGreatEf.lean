/- Dwell: the other steps from rows to cells. -/
import Derived.Test.YtflngnnoibkkoaaGreatNd
namespace Go.Proofs.YtflngnnoibkkoaaGreat
open Go.ChangeShapes Go.WideShapes Go.ChangeAt Go.RowKit Go.Fl Ieee
set_option maxRecDepth 200000
set_option maxHeartbeats 8000000
attribute [local go_sem] run_store_float run_store_complex call34 call33 run_neg fold_eq fold_ne fold_lt fold_gt abs_eq

theorem t61 {W : World} {wb bx n m c A : Nat} {P : Nat → Option Addr} {C G O : Nat → Nat} {f : Nat → Nat → Nat × Nat} {v1 v2 v3 : Value} (hs : WS W wb (.slice (some ⟨A, 0, none⟩) n c) v1 v2 v3) (ht : TI W A n m P C G O f) (hc : n ≤ c) (hp : W.cell? ⟨bx, 7, none⟩ = some (.int .i64 0)) (hn0 : 1 ≤ n) (hn : n ≤ 256) (hm : m ≤ 16384) (hnm : n * m ≤ 262144) :
    Calls Tryz.prog 61 #[.pointer (some ⟨wb, 0, none⟩), .pointer (some ⟨bx, 0, none⟩)] W (SX W wb n m (fun p g => ab2 (f p g)) v1 v2 v3) := by
  have HS : Hid (WS W wb (.slice (some ⟨A, 0, none⟩) n c) v1 v2 v3) := hs
  have C62 : Hid (∀ V, Up W V → Calls Tryz.prog 62 #[.slice (some ⟨A, 0, none⟩) n c, .int .i64 0] V (CZ V n m 0 n (fun p g => ab2 (f p g)))) := fun V hV => t62 (o := 0) (ht.up hV) hc hn hm hnm (by decide) (by omega) hn0
  have hwb : wb < W.drew.heap.size := Nat.lt_of_lt_of_le hs.lt (Up.drewN W 1).size
  have c0 := hs.c0
  clear hs ht hc hn0 hn hm hnm
  go_enter Tryz.func61, Tryz.ntmps61
  go_upto_region 1 with fail
  refine wp_region_shut 13 [(0, none), (1, none), (2, none), (3, none), (4, some false), (5, none), (6, some false), (7, some true), (8, none), (9, none), (10, none), (11, none), (12, none)] (fun w' => w'.cell? ⟨wb, 0, none⟩ = some (.slice (some ⟨A, 0, none⟩) n c) ∧ w'.cell? ⟨bx, 7, none⟩ = some (.int .i64 0)) (by kernel_rfl) (by decide) rfl (by kernel_rfl) (fun _ _ d _ _ h => by cases d <;> exact h) (⟨cell_up c0 (Up.drewN _ 1), cell_up hp (Up.drewN _ 1)⟩) ?_
  refine OrdS.looks (.pointer (some ⟨wb, 0, none⟩)) (some 5) _ rfl rfl (Or.inl ⟨by kernel_rfl, fun w' hS => ?_⟩) ?_
  · go_simp
  refine OrdS.looks (.pointer (some ⟨wb, 0, none⟩)) (some 6) _ rfl rfl (Or.inl ⟨by kernel_rfl, fun w' hS => ?_⟩) ?_
  · go_simp
  refine OrdS.looks (.pointer (some ⟨wb, 0, none⟩)) (some 7) _ rfl rfl (Or.inl ⟨by kernel_rfl, fun w' hS => ?_⟩) ?_
  · go_simp
  refine OrdS.looks (.pointer (some ⟨wb, 0, none⟩)) (some 8) _ rfl rfl (Or.inl ⟨by kernel_rfl, fun w' hS => ?_⟩) ?_
  · go_simp
  refine OrdS.reads (.slice (some ⟨A, 0, none⟩) n c) (some 9) _ rfl rfl (Or.inl ⟨by kernel_rfl, fun w' hS => ?_⟩) ?_
  · have e1 := hS.1
    go_simp
  refine OrdS.looks (.pointer (some ⟨bx, 7, none⟩)) (some 10) _ rfl rfl (Or.inl ⟨by kernel_rfl, fun w' hS => ?_⟩) ?_
  · go_simp
  refine OrdS.reads (.int .i64 0) (some 11) _ rfl rfl (Or.inl ⟨by kernel_rfl, fun w' hS => ?_⟩) ?_
  · have e1 := hS.2
    go_simp
  simp only [Act.put, List.setIfInBounds_toArray, List.set_cons_succ, List.set_cons_zero]
  refine OrdS.does ?_
  refine wpOp_callG (f := 62) (some 12) rfl rfl (by kernel_rfl) rfl #[.slice (some ⟨A, 0, none⟩) n c, .int .i64 0] (by kernel_rfl) (enters Tryz.func62 (by kernel_rfl) (by kernel_rfl) _ _) ?_
  refine (C62.out W.drew (Up.drewN _ 1)).mono ?_
  rintro e w1 ⟨A1, B1, D1, rfl, HR1, HU1, HF1⟩
  have HUP : Hid (Up W w1) := (Up.drewN _ 1).trans HU1.out
  have HW1 : Hid (WS w1 wb (.slice (some ⟨A, 0, none⟩) n c) v1 v2 v3) := HS.out.up HUP.out
  refine ⟨_, rfl, ⟨HW1.out.c0, cell_up hp HUP.out⟩, ?_⟩
  have HTX : Hid (TX w1 (.slice (some ⟨A1, 0, none⟩) n n) n m wb (fun p g => (D1 p)[g]!)) := HR1.out.tx hwb
  clear HR1 HU1
  simp only [Act.put, List.setIfInBounds_toArray, List.set_cons_succ, List.set_cons_zero]
  refine OrdS.looks (.tuple #[.slice (some ⟨A1, 0, none⟩) n n, .int .i64 0]) (some 4) _ rfl rfl (Or.inl ⟨by kernel_rfl, fun w' hS => ?_⟩) ?_
  · go_simp
  refine OrdS.looks (.slice (some ⟨A1, 0, none⟩) n n) (some 13) _ rfl rfl (Or.inl ⟨by kernel_rfl, fun w' hS => ?_⟩) ?_
  · go_simp
  refine OrdS.looks (.int .i64 0) (some 14) _ rfl rfl (Or.inl ⟨by kernel_rfl, fun w' hS => ?_⟩) ?_
  · go_simp
  refine OrdS.looks (.pointer (some ⟨wb, 0, none⟩)) (some 15) _ rfl rfl (Or.inl ⟨by kernel_rfl, fun w' hS => ?_⟩) ?_
  · go_simp
  refine OrdS.looks (.pointer (some ⟨wb, 0, none⟩)) (some 16) _ rfl rfl (Or.inl ⟨by kernel_rfl, fun w' hS => ?_⟩) ?_
  · go_simp
  refine OrdS.ends ?_
  simp only [List.drop_succ_cons, List.drop_zero, Act.put, List.setIfInBounds_toArray, List.set_cons_succ, List.set_cons_zero]
  have q0 := HW1.out.c0
  have f0 := HW1.out.fz 0
  go_wp2_with fail
  go_ret
  exact ⟨rfl, _, _, HW1.out.put0 _, HTX.out.but (but_set _ _ _ _), (But.of_up HUP.out).trans (but_set _ _ _ _), HF1⟩
/-- What Doppler's weights are, as floats. -/
theorem t63 {W : World} {wb bx n m c A : Nat} {P : Nat → Option Addr} {C G O : Nat → Nat} {f : Nat → Nat → Nat × Nat} {v1 v2 v3 : Value} {win : Int} (hs : WS W wb (.slice (some ⟨A, 0, none⟩) n c) v1 v2 v3) (ht : TI W A n m P C G O f) (hp : W.cell? ⟨bx, 6, none⟩ = some (.int .i8 win)) (hn0 : 0 < n) (hn : n ≤ 256) (hm : m ≤ 16384) (hnm : n * m ≤ 262144) (hnn : n * m * n ≤ 16777216) :
    Calls Tryz.prog 63 #[.pointer (some ⟨wb, 0, none⟩), .pointer (some ⟨bx, 0, none⟩)] W (fun e w' => ∃ fw, Hid (∀ j, j < n → ab (fw j) = weightF win n j) ∧ SX W wb n m (dopF n f fw) v1 v2 v3 e w') := by
  have HS : Hid (WS W wb (.slice (some ⟨A, 0, none⟩) n c) v1 v2 v3) := hs
  have HT : Hid (TI W A n m P C G O f) := ht
  have hwb : wb < W.drew.heap.size := Nat.lt_of_lt_of_le hs.lt (Up.drewN W 1).size
  have c0 := hs.c0
  clear hs ht
  go_enter Tryz.func63, Tryz.ntmps63
  go_upto_region 1 with fail
  refine wp_region_shut 19 [(0, none), (1, none), (2, none), (3, none), (4, some false), (5, none), (6, some false), (7, none), (8, none), (9, none), (10, some false), (11, none), (12, some true), (13, some true), (14, none), (15, none), (16, none), (17, none), (18, none)] (fun w' => w'.cell? ⟨wb, 0, none⟩ = some (.slice (some ⟨A, 0, none⟩) n c) ∧ w'.cell? ⟨bx, 6, none⟩ = some (.int .i8 win)) (by kernel_rfl) (by decide) rfl (by kernel_rfl) (fun _ _ d _ _ h => by cases d <;> exact h) (⟨cell_up c0 (Up.drewN _ 1), cell_up hp (Up.drewN _ 1)⟩) ?_
  refine OrdS.looks (.pointer (some ⟨wb, 0, none⟩)) (some 5) _ rfl rfl (Or.inl ⟨by kernel_rfl, fun w' hS => ?_⟩) ?_
  · go_simp
  refine OrdS.looks (.pointer (some ⟨wb, 0, none⟩)) (some 6) _ rfl rfl (Or.inl ⟨by kernel_rfl, fun w' hS => ?_⟩) ?_
  · go_simp
  refine OrdS.looks (.pointer (some ⟨wb, 0, none⟩)) (some 7) _ rfl rfl (Or.inl ⟨by kernel_rfl, fun w' hS => ?_⟩) ?_
  · go_simp
  refine OrdS.looks (.pointer (some ⟨wb, 0, none⟩)) (some 8) _ rfl rfl (Or.inl ⟨by kernel_rfl, fun w' hS => ?_⟩) ?_
  · go_simp
  refine OrdS.reads (.slice (some ⟨A, 0, none⟩) n c) (some 9) _ rfl rfl (Or.inl ⟨by kernel_rfl, fun w' hS => ?_⟩) ?_
  · have e1 := hS.1
    go_simp
  refine OrdS.looks (.pointer (some ⟨bx, 6, none⟩)) (some 10) _ rfl rfl (Or.inl ⟨by kernel_rfl, fun w' hS => ?_⟩) ?_
  · go_simp
  refine OrdS.reads (.int .i8 win) (some 11) _ rfl rfl (Or.inl ⟨by kernel_rfl, fun w' hS => ?_⟩) ?_
  · have e1 := hS.2
    go_simp
  refine OrdS.looks (.pointer (some ⟨wb, 0, none⟩)) (some 12) _ rfl rfl (Or.inl ⟨by kernel_rfl, fun w' hS => ?_⟩) ?_
  · go_simp
  refine OrdS.looks (.pointer (some ⟨wb, 0, none⟩)) (some 13) _ rfl rfl (Or.inl ⟨by kernel_rfl, fun w' hS => ?_⟩) ?_
  · go_simp
  refine OrdS.looks (.pointer (some ⟨wb, 0, none⟩)) (some 14) _ rfl rfl (Or.inl ⟨by kernel_rfl, fun w' hS => ?_⟩) ?_
  · go_simp
  refine OrdS.reads (.slice (some ⟨A, 0, none⟩) n c) (some 15) _ rfl rfl (Or.inl ⟨by kernel_rfl, fun w' hS => ?_⟩) ?_
  · have e1 := hS.1
    go_simp
  refine OrdS.looks (.int .i64 n) (some 16) _ rfl rfl (Or.inl ⟨by kernel_rfl, fun w' hS => ?_⟩) ?_
  · go_simp
  simp only [Act.put, List.setIfInBounds_toArray, List.set_cons_succ, List.set_cons_zero]
  refine OrdS.does ?_
  refine wpOp_callG (f := 65) (some 17) rfl rfl (by kernel_rfl) rfl #[.int .i8 win, .int .i64 n] (by kernel_rfl) (enters Tryz.func65 (by kernel_rfl) (by kernel_rfl) _ _) ?_
  refine (t65 win n W.drew hn0 (by omega)).mono ?_
  rintro e w1 ⟨gw, dw, rfl, HO1, HU1, HD1⟩
  have HUP : Hid (Up W w1) := (Up.drewN _ 1).trans HU1.out
  have HW1 : Hid (WS w1 wb (.slice (some ⟨A, 0, none⟩) n c) v1 v2 v3) := HS.out.up HUP.out
  have HFD : Hid (FD w1 gw 0 n (fun j => dw[j]!)) := fun j hj => by
    have hl : j < dw.length := by have := HD1.out.1; omega
    have := World.ownsRow.cellAt HO1.out j (by omega)
    rw [Nat.zero_add, this, List.getElem?_map, List.getElem?_eq_getElem hl]
    show some (Value.float .f64 dw[j]) = some (Value.float .f64 dw[j]!)
    rw [getElem!_pos dw j hl]
  refine ⟨_, rfl, ⟨HW1.out.c0, cell_up hp HUP.out⟩, ?_⟩
  simp only [Act.put, List.setIfInBounds_toArray, List.set_cons_succ, List.set_cons_zero]
  refine OrdS.does ?_
  refine wpOp_callG (f := 64) (some 18) rfl rfl (by kernel_rfl) rfl #[.slice (some ⟨A, 0, none⟩) n c, .slice (some ⟨gw, 0, none⟩) n n] (by kernel_rfl) (enters Tryz.func64 (by kernel_rfl) (by kernel_rfl) _ _) ?_
  refine (t64 (HT.out.up HUP.out) HFD.out hn0 hn hm hnm hnn).mono ?_
  rintro e w2 ⟨A1, B1, d1, rfl, HB1, HF1⟩
  have HUQ : Hid (Up W w2) := HUP.out.trans HB1.out.up
  have HW2 : Hid (WS w2 wb (.slice (some ⟨A, 0, none⟩) n c) v1 v2 v3) := HS.out.up HUQ.out
  refine ⟨_, rfl, ⟨HW2.out.c0, cell_up hp HUQ.out⟩, ?_⟩
  have HTX : Hid (TX w2 (.slice (some ⟨A1, 0, none⟩) n n) n m wb (fun p g => d1[p * m + g]!)) := HB1.out.tx (Nat.lt_of_lt_of_le hwb HU1.out.size)
  clear HB1
  simp only [Act.put, List.setIfInBounds_toArray, List.set_cons_succ, List.set_cons_zero]
  refine OrdS.looks (.tuple #[.slice (some ⟨A1, 0, none⟩) n n, .int .i64 0]) (some 4) _ rfl rfl (Or.inl ⟨by kernel_rfl, fun w' hS => ?_⟩) ?_
  · go_simp
  refine OrdS.looks (.slice (some ⟨A1, 0, none⟩) n n) (some 19) _ rfl rfl (Or.inl ⟨by kernel_rfl, fun w' hS => ?_⟩) ?_
  · go_simp
  refine OrdS.looks (.int .i64 0) (some 20) _ rfl rfl (Or.inl ⟨by kernel_rfl, fun w' hS => ?_⟩) ?_
  · go_simp
  refine OrdS.looks (.pointer (some ⟨wb, 0, none⟩)) (some 21) _ rfl rfl (Or.inl ⟨by kernel_rfl, fun w' hS => ?_⟩) ?_
  · go_simp
  refine OrdS.looks (.pointer (some ⟨wb, 0, none⟩)) (some 22) _ rfl rfl (Or.inl ⟨by kernel_rfl, fun w' hS => ?_⟩) ?_
  · go_simp
  refine OrdS.ends ?_
  simp only [List.drop_succ_cons, List.drop_zero, Act.put, List.setIfInBounds_toArray, List.set_cons_succ, List.set_cons_zero]
  have q0 := HW2.out.c0
  have f0 := HW2.out.fz 0
  go_wp2_with fail
  go_ret
  exact ⟨_, HD1.out.2, rfl, _, _, HW2.out.put0 _, HTX.out.but (but_set _ _ _ _), (But.of_up HUQ.out).trans (but_set _ _ _ _), HF1⟩
/-- What Powers leaves. -/
def SP (W : World) (wb n m : Nat) (f : Nat → Nat → Nat × Nat) (v0 v2 v3 : Value) (e : Ending) (w' : World) : Prop := e = .returned (.int .i64 0) ∧ ∃ V A l, Hid (WS w' wb v0 (.slice (some ⟨A, 0, none⟩) n n) v2 v3) ∧ Hid (PI W V A A n (fun _ => m) f n l) ∧ Hid (w' = V.setCell ⟨wb, 1, none⟩ (.slice (some ⟨A, 0, none⟩) n n))
theorem t66 {W : World} {wb n m c A : Nat} {P : Nat → Option Addr} {C G O : Nat → Nat} {f : Nat → Nat → Nat × Nat} {v1 v2 v3 : Value} (hs : WS W wb (.slice (some ⟨A, 0, none⟩) n c) v1 v2 v3) (ht : TI W A n m P C G O f) (hn : n ≤ 1000000) (hm : m ≤ 1000000) :
    Calls Tryz.prog 66 #[.pointer (some ⟨wb, 0, none⟩)] W (SP W wb n m f (.slice (some ⟨A, 0, none⟩) n c) v2 v3) := by
  have HS : Hid (WS W wb (.slice (some ⟨A, 0, none⟩) n c) v1 v2 v3) := hs
  have C67 : Hid (Calls Tryz.prog 67 #[.slice (some ⟨A, 0, none⟩) n c] W (PW W n (fun _ => m) f)) := t67 (L := fun _ => m) ht.tb (fun i hi h0 => ht.rd i hi h0) hn (fun _ _ => hm)
  have c0 := hs.c0
  clear hs ht hn hm
  go_enter Tryz.func66, Tryz.ntmps66
  go_wp2_with (go_at_call 67; (with_reducible refine C67.out.mono ?_); rintro e w1 ⟨A1, l1, rfl, HP1⟩; (have HW1 : Hid (WS w1 wb (.slice (some ⟨A, 0, none⟩) n c) v1 v2 v3) := HS.out.up HP1.out.up); (have q1 := HW1.out.c1); (have f1 := HW1.out.fz 1); (have hlt := HW1.out.lt))
  go_ret
  exact ⟨rfl, w1, A1, l1, HW1.out.put1 _, HP1, by trivial⟩
end Go.Proofs.YtflngnnoibkkoaaGreat
