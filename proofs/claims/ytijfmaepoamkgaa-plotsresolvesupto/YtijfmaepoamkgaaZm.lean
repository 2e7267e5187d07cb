/- PlotsResolves: the walk. -/
import Derived.Test.YtijfmaepoamkgaaZl
import Derived.Test.YtijfmaepoamkgaaSa
namespace Go.Proofs.Ytijfmaepoamkgaa
open Go.ChangeShapes Go.WideShapes Go.ChangeAt Go.RowKit Go.Fl Go.Sort
attribute [local go_sem] run_store_float call53 run_neg fold_eq fold_ne fold_lt fold_gt abs_eq

set_option maxRecDepth 20000 in
set_option maxHeartbeats 8000000 in
theorem t4 {w : World} {p q : Option Addr} {n1 n2 c1 c2 : Nat} {B : Nat → Bt} {C : Nat → List Int} {off most : Int} (hB : BV w p n1 B) (hC : CV w q n2 C) (k1 : n1 ≤ c1) (k2 : n2 ≤ c2) (hcl : ∀ i, i < n2 → (C i).length < 4611686018427387904) (hoff : off ≤ 9223372036854775807) :
    Calls Try.prog 4 #[.agg #[.slice p n1 c1, .slice q n2 c2, .int .i64 off, .int .i64 most]] w fun e w' => e = .returned (.bool true) ∧ Hid (Up w w') := by
  have HB : Hid (BV w p n1 B) := hB
  have HC : Hid (CV w q n2 C) := hC
  have HCL : Hid (∀ i, i < n2 → (C i).length < 4611686018427387904) := hcl
  have HK : Hid (n1 ≤ c1 ∧ n2 ≤ c2 ∧ off ≤ 9223372036854775807) := ⟨k1, k2, hoff⟩
  clear hB hC hcl k1 k2 hoff
  go_enter Try.func4, Try.ntmps4
  go_wp2_with fail
  have f0 := new_at w #[.slice p n1 c1, .slice q n2 c2, .int .i64 off, .int .i64 most] 38 0 _ rfl
  have f1 := new_at w #[.slice p n1 c1, .slice q n2 c2, .int .i64 off, .int .i64 most] 38 1 _ rfl
  have f2 := new_at w #[.slice p n1 c1, .slice q n2 c2, .int .i64 off, .int .i64 most] 38 2 _ rfl
  have f3 := new_at w #[.slice p n1 c1, .slice q n2 c2, .int .i64 off, .int .i64 most] 38 3 _ rfl
  have HU : Hid (Up w (w.alloc (.cells #[.slice p n1 c1, .slice q n2 c2, .int .i64 off, .int .i64 most] 38))) := Up.alloc _ _
  generalize w.alloc (.cells #[.slice p n1 c1, .slice q n2 c2, .int .i64 off, .int .i64 most] 38) = W1 at *
  generalize w.heap.size = bx at *
  go_wp2_with (go_at_call 13; (with_reducible refine (t13 (HC.out.up HU.out) HCL.out).mono ?_); rintro e w2 ⟨b, rfl, U2, HG⟩; (replace f0 := cell_up f0 U2.out); (replace f1 := cell_up f1 U2.out); (replace f2 := cell_up f2 U2.out); (replace f3 := cell_up f3 U2.out); (replace HU : Hid (Up w w2) := HU.out.trans U2.out); clear U2; cases b)
  rotate_left
  · go_wp2_with (go_at_call 12; (with_reducible refine (t12 _).mono ?_); rintro e w3 ⟨rfl, U3⟩)
    go_ret
    exact ⟨rfl, HU.out.trans U3.out⟩
  have HN1 : Hid (n1 ≤ 4096) := (HG.out trivial).1
  have HN2 : Hid (n2 ≤ 4096) := (HG.out trivial).2.1
  have HCl : Hid (∀ i, i < n2 → (C i).length ≤ 4096) := (HG.out trivial).2.2
  have HBW : Hid (BV w2 p n1 B) := HB.out.up HU.out
  have HCW : Hid (CV w2 q n2 C) := HC.out.up HU.out
  clear HG HCL HB HC
  go_wp2
  go_loopw [3, 4] (fun v3 v4 wr => ∃ (i : Nat) (pv : Option Addr) (cv : Nat) (hs : List Value), i ≤ n2 ∧ v4 = .int .i64 i ∧ v3 = .slice pv i cv ∧ Hid (CM w2 wr (.slice pv i cv) C i hs)) (fun _ v4 _ => n2 - (intOf v4).toNat)
  case atStart => exact ⟨0, none, 0, [], by omega, rfl, rfl, CM.nil _ _⟩
  case round =>
    obtain ⟨i, pv, cv, hs, hi, rfl, rfl, HI⟩ := hrel
    rename World => W
    by_cases hlt : i < n2
    · have hlt' : (i : Int) < (n2 : Int) := by omega
      obtain ⟨qb, qo, qq, qc, rfl, s0, sir⟩ := HCW.out i hlt
      have HSI : Hid (Fo.IR W qq (C i).length (fun j => (C i)[j]!)) := ir_up sir HI.out.up
      have s0W := cell_up s0 HI.out.up
      have f1W := cell_up f1 HI.out.up
      have HS0 : Hid (w2.cell? ⟨qb, qo + i, none⟩ = some (.slice qq (C i).length qc) ∧ w2.cell? ⟨bx, 1, none⟩ = some (.slice (some ⟨qb, qo, none⟩) n2 c2)) := ⟨s0, f1⟩
      have HLL : Hid ((C i).length ≤ 4096 ∧ i < 4096) := ⟨HCl.out i hlt, by have := HN2.out; omega⟩
      clear s0 sir
      go_upto_region 7 with fail
      obtain ⟨i0, hi0, hz0, hz1, hz2⟩ := info_parts Fo.info2
      obtain ⟨j0, hj0, hy0, hy1, hy2⟩ := info_parts info39
      have hnl := HLL.out.1
      have hil := HLL.out.2
      have l1 := World.block_lt_of_cell? W _ s0W
      have l2 := World.block_lt_of_cell? W _ f1W
      have m1 : ((C i).length : Int) ≤ 4096 := by omega
      have m0 : (0 : Int) ≤ ((C i).length : Int) := by omega
      generalize hD : C i = D at *
      generalize hnn : D.length = n at *
      have HD : Hid (D.length = n ∧ C i = D) := ⟨hnn, hD⟩
      clear hD hnn
      go_region_held3 (fun w' => w'.cell? ⟨qb, qo + i, none⟩ = some (.slice qq n qc) ∧ w'.cell? ⟨bx, 1, none⟩ = some (.slice (some ⟨qb, qo, none⟩) n2 c2))
        (first
          | go_keep
          | exact ⟨cell_up HS0.out.1 HM.out.up, cell_up HS0.out.2 HM.out.up⟩
          | exact ⟨cell_up s0W HU2.out, cell_up f1W HU2.out⟩
          | exact ⟨cell_up s0W HU1.out, cell_up f1W HU1.out⟩)
        (first
          | ((refine step_app_new (by rfl) _ _ 39 (by rfl) W.heap.size 2 i0 _ 1 8 Try.underlying39 hi0 hz0 hz1 hz2 rfl (by omega) W.heap.size (by rfl) (((empty_own W 2 (Nat.le_refl _)).alloc _).drew) qq n qc (D.map (Value.int .i64)) (by rfl) (by rw [List.length_map, HD.out.1, Nat.mul_one]) (HD.out.1 ▸ ir_src (ir_up (HD.out.1.symm ▸ HSI.out) (((Up.alloc _ _).trans (Up.alloc _ _)).trans (Up.drewN _ 1)))) (ints_one D) (by unfold maxLen; omega) (by omega) (by first | omega | (simp; done) | (simp; omega)) (W.heap.size + 1 + 1) (by simp) ?_); intro g1 cc1 w1 hown1 hgr1 hat1
             have HU1 : Hid (Up W w1) := Below.grown (((Up.alloc _ _).trans (Up.alloc _ _)).trans (Up.drewN _ 1)) hgr1 (by first | omega | (simp; done) | (simp; omega)) (fun x hx => by cases hx; exact Nat.le_refl _)
             have h77 : w1.cell? ⟨W.heap.size + 1, 0, none⟩ = some (.int .i64 77) := by
               rw [hgr1.cell_far _ (by simp) (by simp)]; exact cell_up (new_at1 W _ _ _ 0 _ rfl) (Up.drewN _ 1))
          | ((refine step_app_new (by rfl) _ _ 39 (by rfl) W.heap.size 2 i0 _ 1 8 Try.underlying39 hi0 hz0 hz1 hz2 rfl (by omega) (W.heap.size + 1) (by rfl) (by have := (empty_own (W.alloc (.cells #[.int .i64 77] 2)) 2 (b := W.heap.size) (by simp)).drew; simpa using this) qq n qc (D.map (Value.int .i64)) (by rfl) (by rw [List.length_map, HD.out.1, Nat.mul_one]) (HD.out.1 ▸ ir_src (ir_up (HD.out.1.symm ▸ HSI.out) (((Up.alloc _ _).trans (Up.alloc _ _)).trans (Up.drewN _ 1)))) (ints_one D) (by unfold maxLen; omega) (by omega) (by first | omega | (simp; done) | (simp; omega)) (W.heap.size + 1 + 1) (by simp) ?_); intro g1 cc1 w1 hown1 hgr1 hat1
             have HU1 : Hid (Up W w1) := Below.grown (((Up.alloc _ _).trans (Up.alloc _ _)).trans (Up.drewN _ 1)) hgr1 (by first | omega | (simp; done) | (simp; omega)) (fun x hx => by cases hx; omega)
             have h77 : w1.cell? ⟨W.heap.size, 0, none⟩ = some (.int .i64 77) := by
               rw [hgr1.cell_far _ (by simp; omega) (by simp)]; exact cell_up (new_at W _ _ 0 _ rfl) ((Up.alloc _ _).trans (Up.drewN _ 1)))
          | ((refine step_app_new (by rfl) _ _ 39 (by rfl) W.heap.size 2 i0 _ 1 8 Try.underlying39 hi0 hz0 hz1 hz2 rfl (by omega) W.heap.size (by rfl) ((empty_own W 2 (Nat.le_refl _)).drew) qq n qc (D.map (Value.int .i64)) (by rfl) (by rw [List.length_map, HD.out.1, Nat.mul_one]) (HD.out.1 ▸ ir_src (ir_up (HD.out.1.symm ▸ HSI.out) ((Up.alloc _ _).trans (Up.drewN _ 1)))) (ints_one D) (by unfold maxLen; omega) (by omega) (by first | omega | (simp; done) | (simp; omega)) (W.heap.size + 1) (by simp) ?_); intro g1 cc1 w1 hown1 hgr1 hat1
             have HU1 : Hid (Up W w1) := Below.grown ((Up.alloc _ _).trans (Up.drewN _ 1)) hgr1 (by first | omega | (simp; done) | (simp; omega)) (fun x hx => by cases hx; exact Nat.le_refl _))
          | ((refine step_append_lies _ (by rfl) _ _ 39 (by rfl) W.heap.size 2 i0 _ 1 8 Try.underlying39 hi0 hz0 hz1 hz2 rfl (by omega) (.slice (some ⟨g1, 0, none⟩) n cc1) n _ (by rfl) hown1 ⟨W.heap.size + 1, 0, none⟩ 1 1 [.int .i64 77] (by rfl) (by rfl) (news_one h77) (Fo.one_one _) (by omega) (by unfold maxLen; omega) (by omega) HU1.out.size w1.heap.size rfl ?_); intro g2 cc2 w2' hown2 hgr2 hat2 hlt2
             have HU2 : Hid (Up W w2') := Below.grown HU1.out hgr2 HU1.out.size (fun x hx => (hown1.lt x hx).1)
             have o2 := own_cap9 hown2
             have o3 : (n : Int) ≤ (cc2 : Int) := by omega)
          | ((refine step_append_lies _ (by rfl) _ _ 39 (by rfl) W.heap.size 2 i0 _ 1 8 Try.underlying39 hi0 hz0 hz1 hz2 rfl (by omega) (.slice (some ⟨g1, 0, none⟩) n cc1) n _ (by rfl) hown1 ⟨W.heap.size, 0, none⟩ 1 1 [.int .i64 77] (by rfl) (by rfl) (news_one h77) (Fo.one_one _) (by omega) (by unfold maxLen; omega) (by omega) HU1.out.size w1.heap.size rfl ?_); intro g2 cc2 w2' hown2 hgr2 hat2 hlt2
             have HU2 : Hid (Up W w2') := Below.grown HU1.out hgr2 HU1.out.size (fun x hx => (hown1.lt x hx).1)
             have o2 := own_cap9 hown2
             have o3 : (n : Int) ≤ (cc2 : Int) := by omega)
          | ((refine step_append_lies _ (by rfl) _ _ 39 (by rfl) W.heap.size 2 i0 _ 1 8 Try.underlying39 hi0 hz0 hz1 hz2 rfl (by omega) (.slice (some ⟨g1, 0, none⟩) n cc1) n _ (by rfl) (hown1.alloc _) ⟨w1.heap.size, 0, none⟩ 1 1 [.int .i64 77] (by rfl) (by rfl) (Fo.one_new w1 _ _) (Fo.one_one _) (by omega) (by unfold maxLen; omega) (by omega) (Nat.le_trans HU1.out.size (Up.alloc _ _).size) (w1.heap.size + 1) (by simp) ?_); intro g2 cc2 w2' hown2 hgr2 hat2 hlt2
             have HU2 : Hid (Up W w2') := Below.grown (HU1.out.trans (Up.alloc _ _)) hgr2 (Nat.le_trans HU1.out.size (Up.alloc _ _).size) (fun x hx => (hown1.lt x hx).1)
             have o2 := own_cap9 hown2
             have o3 : (n : Int) ≤ (cc2 : Int) := by omega)
          | ((refine step_append_lies _ (by rfl) _ _ 36 (by rfl) w2.heap.size 39 j0 _ 1 24 Try.underlying36 hj0 hy0 hy1 hy2 rfl (by omega) (.slice pv i cv) i _ (by rfl) ((Fo.owns_up HI.out.row HU2.out).alloc _) ⟨w2'.heap.size, 0, none⟩ 1 1 [.slice (some ⟨g2, 0, none⟩) n cc2] (by rfl) (by rfl) (one_new w2' _ _) (one_cellV rfl) (by omega) (by unfold maxLen; omega) (by omega) (Nat.le_trans (Nat.le_trans HI.out.up.size HU2.out.size) (Up.alloc _ _).size) (w2'.heap.size + 1) (by simp) ?_); intro g3 cc3 w3 hown3 hgr3 hat3 hlt3
             have HM : Hid (CM w2 w3 (.slice (some ⟨g3, 0, none⟩) (i + 1) cc3) C (i + 1) (hs ++ [.slice (some ⟨g2, 0, none⟩) n cc2])) := by
               have e1 := HD.out.1
               have e2 := HD.out.2
               subst e2
               subst e1
               refine CM.push HI.out HU2.out ?_ (by omega) hgr3 hown3
               unfold Fo.OI
               simpa using hown2))
      all_goals
        clear hown1 hown2 hgr1 hgr2 hat1 hat2 hlt2 hown3 hgr3 hat3 hlt3
        try go_wp2
        go_roundw
        case rel => exact ⟨i + 1, _, _, _, by omega, by go_num, rfl, HM⟩
        case measure => simp [intOf]; omega
    · obtain rfl : i = n2 := by omega
      clear hlt
      have f0W := cell_up f0 HI.out.up
      have f1W := cell_up f1 HI.out.up
      have HBV : Hid (BV W p n1 B) := HBW.out.up HI.out.up
      go_upto_region 8 with fail
      go_cut [5] from 17 to 188 (fun s5 wx => ∃ g c : Nat, s5 = .slice (some ⟨g, 0, none⟩) n1 c ∧ n1 + 1 ≤ c ∧ Hid (BK9 W.heap.size wx g n1 c B) ∧ Hid (Up W wx))
      case first =>
        obtain ⟨i0, hi0, hz0, hz1, hz2⟩ := info_parts info24
        have hnl := HN1.out
        have l1 := World.block_lt_of_cell? W _ f0W
        have m1 : (n1 : Int) ≤ 4096 := by omega
        have m0 : (0 : Int) ≤ (n1 : Int) := by omega
        go_region_held3 (fun w' => w'.cell? ⟨bx, 0, none⟩ = some (.slice p n1 c1))
          (first
            | go_keep
            | exact cell_up f0W HU2.out
            | exact cell_up f0W HU1.out)
          (first
            | ((refine step_app_new (by rfl) _ _ 35 (by rfl) W.heap.size 24 i0 _ 5 40 Try.underlying35 hi0 hz0 hz1 hz2 rfl (by omega) W.heap.size (by rfl) (((empty_own5 W 24 (Nat.le_refl _)).alloc _).drew) p n1 c1 (fbt B n1) (by rfl) (fbt_len B n1) (bv_src (HBV.out.up (((Up.alloc _ _).trans (Up.alloc _ _)).trans (Up.drewN _ 1)))) (fbt_one B n1) (by unfold maxLen; omega) (by omega) (by first | omega | (simp; done) | (simp; omega)) (W.heap.size + 1 + 1) (by simp) ?_); intro g1 cc1 w1 hown1 hgr1 hat1
               have HU1 : Hid (Up W w1) := Below.grown (((Up.alloc _ _).trans (Up.alloc _ _)).trans (Up.drewN _ 1)) hgr1 (by first | omega | (simp; done) | (simp; omega)) (fun x hx => by cases hx; exact Nat.le_refl _)
               have H78 : Hid (w1.heap[W.heap.size + 1]? = some (.cells #[.float .f64 0, .float .f64 0, .float .f64 0, .int .i64 0, .int .i64 78] 24)) := by
                 show _ = _
                 rw [hgr1.block _ (by simp) (by simp)]
                 exact last_one W _ _)
            | ((refine step_app_new (by rfl) _ _ 35 (by rfl) W.heap.size 24 i0 _ 5 40 Try.underlying35 hi0 hz0 hz1 hz2 rfl (by omega) (W.heap.size + 1) (by rfl) (by have := (empty_own5 (W.alloc (.cells #[.float .f64 0, .float .f64 0, .float .f64 0, .int .i64 0, .int .i64 78] 24)) 24 (b := W.heap.size) (by simp)).drew; simpa using this) p n1 c1 (fbt B n1) (by rfl) (fbt_len B n1) (bv_src (HBV.out.up (((Up.alloc _ _).trans (Up.alloc _ _)).trans (Up.drewN _ 1)))) (fbt_one B n1) (by unfold maxLen; omega) (by omega) (by first | omega | (simp; done) | (simp; omega)) (W.heap.size + 1 + 1) (by simp) ?_); intro g1 cc1 w1 hown1 hgr1 hat1
               have HU1 : Hid (Up W w1) := Below.grown (((Up.alloc _ _).trans (Up.alloc _ _)).trans (Up.drewN _ 1)) hgr1 (by first | omega | (simp; done) | (simp; omega)) (fun x hx => by cases hx; omega)
               have H78 : Hid (w1.heap[W.heap.size]? = some (.cells #[.float .f64 0, .float .f64 0, .float .f64 0, .int .i64 0, .int .i64 78] 24)) := by
                 show _ = _
                 rw [hgr1.block _ (by simp; omega) (by simp)]
                 exact ((Up.alloc (W.alloc (.cells #[.float .f64 0, .float .f64 0, .float .f64 0, .int .i64 0, .int .i64 78] 24)) (.cells #[] 24)).block W.heap.size (by simp)).trans (heap_alloc_last W _))
            | ((refine step_app_new (by rfl) _ _ 35 (by rfl) W.heap.size 24 i0 _ 5 40 Try.underlying35 hi0 hz0 hz1 hz2 rfl (by omega) W.heap.size (by rfl) ((empty_own5 W 24 (Nat.le_refl _)).drew) p n1 c1 (fbt B n1) (by rfl) (fbt_len B n1) (bv_src (HBV.out.up ((Up.alloc _ _).trans (Up.drewN _ 1)))) (fbt_one B n1) (by unfold maxLen; omega) (by omega) (by first | omega | (simp; done) | (simp; omega)) (W.heap.size + 1) (by simp) ?_); intro g1 cc1 w1 hown1 hgr1 hat1
               have HU1 : Hid (Up W w1) := Below.grown ((Up.alloc _ _).trans (Up.drewN _ 1)) hgr1 (by first | omega | (simp; done) | (simp; omega)) (fun x hx => by cases hx; exact Nat.le_refl _))
            | ((refine step_append_lies _ (by rfl) _ _ 35 (by rfl) W.heap.size 24 i0 _ 5 40 Try.underlying35 hi0 hz0 hz1 hz2 rfl (by omega) (.slice (some ⟨g1, 0, none⟩) n1 cc1) n1 _ (by rfl) hown1 ⟨W.heap.size + 1, 0, none⟩ 1 1 (bL markB) (by rfl) (by rfl) (bmark_new H78.out) (bL_one _) (by omega) (by unfold maxLen; omega) (by omega) HU1.out.size w1.heap.size rfl ?_); intro g2 cc2 w2x hown2 hgr2 hat2 hlt2
               have HU2 : Hid (Up W w2x) := Below.grown HU1.out hgr2 HU1.out.size (fun x hx => (hown1.lt x hx).1)
               have o2 := own_cap9 hown2
               have o3 : (n1 : Int) ≤ (cc2 : Int) := by omega)
            | ((refine step_append_lies _ (by rfl) _ _ 35 (by rfl) W.heap.size 24 i0 _ 5 40 Try.underlying35 hi0 hz0 hz1 hz2 rfl (by omega) (.slice (some ⟨g1, 0, none⟩) n1 cc1) n1 _ (by rfl) hown1 ⟨W.heap.size, 0, none⟩ 1 1 (bL markB) (by rfl) (by rfl) (bmark_new H78.out) (bL_one _) (by omega) (by unfold maxLen; omega) (by omega) HU1.out.size w1.heap.size rfl ?_); intro g2 cc2 w2x hown2 hgr2 hat2 hlt2
               have HU2 : Hid (Up W w2x) := Below.grown HU1.out hgr2 HU1.out.size (fun x hx => (hown1.lt x hx).1)
               have o2 := own_cap9 hown2
               have o3 : (n1 : Int) ≤ (cc2 : Int) := by omega)
            | ((refine step_append_lies _ (by rfl) _ _ 35 (by rfl) W.heap.size 24 i0 _ 5 40 Try.underlying35 hi0 hz0 hz1 hz2 rfl (by omega) (.slice (some ⟨g1, 0, none⟩) n1 cc1) n1 _ (by rfl) (hown1.alloc _) ⟨w1.heap.size, 0, none⟩ 1 1 (bL markB) (by rfl) (by rfl) (bmark_new (heap_alloc_last w1 _)) (bL_one _) (by omega) (by unfold maxLen; omega) (by omega) (Nat.le_trans HU1.out.size (Up.alloc _ _).size) (w1.heap.size + 1) (by simp) ?_); intro g2 cc2 w2x hown2 hgr2 hat2 hlt2
               have HU2 : Hid (Up W w2x) := Below.grown (HU1.out.trans (Up.alloc _ _)) hgr2 (Nat.le_trans HU1.out.size (Up.alloc _ _).size) (fun x hx => (hown1.lt x hx).1)
               have o2 := own_cap9 hown2
               have o3 : (n1 : Int) ≤ (cc2 : Int) := by omega))
        all_goals
          have HO : Hid (BK9 W.heap.size w2x g2 n1 cc2 B) := hown2
          clear hown1 hown2 hgr1 hgr2 hat1 hat2 hlt2
          try go_wp2
          go_meet
          case rel => exact ⟨g2, cc2, rfl, o2, HO, HU2⟩
      case rest =>
        obtain ⟨g, c, rfl, hc, HBK, UW⟩ := hcut
        have UP2 : Hid (Up w2 wc) := HI.out.up.trans UW.out
        have HCM : Hid (CM w2 wc (.slice pv i cv) C i hs) := HI.out.upon UW.out
        have hcv : i ≤ cv := own_cap9 HCM.out.row
        replace f0 := cell_up f0 UP2.out
        replace f1 := cell_up f1 UP2.out
        replace f2 := cell_up f2 UP2.out
        replace f3 := cell_up f3 UP2.out
        obtain ⟨A, hA⟩ : ∃ A, resC (fun j => (B j).code) (fun j => (B j).E) C (min n1 i) off most = A := ⟨_, rfl⟩
        obtain ⟨L, hL⟩ : ∃ L, L = if A = 0 then resL off (fun j => (B j).E) C (min n1 i) most.toNat else [] := ⟨_, rfl⟩
        obtain ⟨N, hN⟩ : ∃ N, L.length = N := ⟨_, rfl⟩
        have hN6 : N ≤ 65536 := by
          rw [← hN, hL, ← hA]
          exact res_few
        have HN : Hid (L.length = N ∧ N ≤ 65536 ∧ N < 4611686018427387904) := ⟨hN, hN6, by omega⟩
        have C14 : Hid (Calls Try.prog 14 #[.slice p n1 c1, .slice q i c2, .int .i64 off, .int .i64 most] wc (ResN A L N wc)) := by
          have h := t14 (c1 := c1) (c2 := c2) (off := off) (most := most) (HBW.out.up UP2.out) (HCW.out.up UP2.out) (by have := HN1.out; omega)
          rw [hA] at h
          exact h.mono fun e w' k => ResR.to k hL hN
        have C15 : Hid (∀ w', Up wc w' → Calls Try.prog 15 #[.slice (some ⟨g, 0, none⟩) n1 c, .slice pv i cv, .int .i64 off, .int .i64 most] w' (ResN A L N w')) := fun w' hu => by
          have h := t15 (c1 := c) (c2 := cv) (off := off) (most := most) (HBK.out.up hu).bv (HCM.out.upon hu).cv (by omega) hcv (by have := HN1.out; omega) HK.out.2.2
          rw [hA] at h
          exact h.mono fun e w' k => ResR.to k hL hN
        clear hA hL hN hN6 f0W f1W HBV HI
        go_wp2_with (first
          | (go_at_call 14; (with_reducible refine C14.out.mono ?_); rintro e wa ⟨pw, cw, rfl, OW, UA⟩; (replace f2 := cell_up f2 UA.out); (replace f3 := cell_up f3 UA.out))
          | (go_at_call 15; (with_reducible refine (C15.out _ UA.out).mono ?_); rintro e wb ⟨pl, cl, rfl, OL, UB⟩; (replace f2 := cell_up f2 UB.out); (replace f3 := cell_up f3 UB.out))
          | (go_at_call 15; (with_reducible refine (C15.out _ (UA.out.trans UB.out)).mono ?_); rintro e wd ⟨pk, ck, rfl, OK9, UD⟩; (have IW : Hid (Fo.IR wd pw N (fun j => L[j]!)) := (Fo.OI.ir (Fo.OI.up OW.out (UB.out.trans UD.out))).2); (have IL : Hid (Fo.IR wd pl N (fun j => L[j]!)) := (Fo.OI.ir (Fo.OI.up OL.out UD.out)).2); (have IK : Hid (Fo.IR wd pk N (fun j => L[j]!)) := (Fo.OI.ir OK9.out).2))
          | (go_at_call 16; (with_reducible refine (t16d pl pw N cl cw (fun j => L[j]!) _ HN.out.2.2 IL.out IW.out).mono ?_); rintro e w6 ⟨rfl, X6⟩; (have U6 : Hid (Up wd w6) := by obtain ⟨k, hk⟩ := X6; rw [hk]; exact Up.drewN _ _); clear X6)
          | (go_at_call 16; (with_reducible refine (t16d pk pw N ck cw (fun j => L[j]!) _ HN.out.2.2 (ir_up IK.out U6.out) (ir_up IW.out U6.out)).mono ?_); rintro e w7 ⟨rfl, X7⟩; (have U7 : Hid (Up wd w7) := by obtain ⟨k, hk⟩ := X7; rw [hk]; exact U6.out.trans (Up.drewN _ _)); clear X7))
        have HLK : Hid (LK wa wb w7 (.slice pl N cl) (.slice pk N ck) N (L.map (Value.int .i64)) L) := by
          refine ⟨UB.out.trans (UD.out.trans U7.out), ?_, Fo.OI.up OK9.out U7.out, fun x hx e => ?_⟩
          · have h := Fo.OI.up OL.out (UD.out.trans U7.out)
            unfold Fo.OI at h
            rwa [HN.out.1] at h
          · have h1 := (World.ownsRow.lt OL.out x hx).2
            have h2 := (World.ownsRow.lt OK9.out x e).1
            omega
        have HCA : Hid (CM w2 wa (.slice pv i cv) C i hs) := HCM.out.upon UA.out
        have HBA : Hid (BK9 W.heap.size wa g n1 c B) := HBK.out.up UA.out
        have UPA : Hid (Up w2 wa) := UP2.out.trans UA.out
        have f0A := cell_up f0 UA.out
        have f1A := cell_up f1 UA.out
        have HFA : Hid (wa.cell? ⟨bx, 0, none⟩ = some (.slice p n1 c1) ∧ wa.cell? ⟨bx, 1, none⟩ = some (.slice q i c2)) := ⟨f0A, f1A⟩
        clear f0 f1 f2 f3 f0A f1A OL OK9 IL IK IW U6 U7 UD UB HCM HBK C14 C15 UP2 UW
        go_loopw [12] (fun v12 wr => ∃ (j : Nat) (xs : List Value), j ≤ N ∧ v12 = .int .i64 j ∧ Hid (LK wa wb wr (.slice pl N cl) (.slice pk N ck) N xs L)) (fun v12 _ => N - (intOf v12).toNat)
        case atStart => exact ⟨0, _, by omega, rfl, HLK⟩
        case round =>
          clear HLK
          obtain ⟨j, xs, hj, rfl, HX⟩ := hrel
          rename World => wr
          by_cases hlt : j < N
          · obtain ⟨gl, hgl⟩ : ∃ g, pl = some ⟨g, 0, none⟩ := by
              obtain ⟨p', c', e1, e2⟩ := own_form HX.out.l
              simp only [Value.slice.injEq] at e1
              rw [e1.1]; exact e2 (by omega)
            subst hgl
            have hxl : j < xs.length := by have := HX.out.l.1; omega
            obtain ⟨u, hu⟩ : ∃ u, xs[j]? = some u := ⟨_, List.getElem?_eq_getElem hxl⟩
            have z0 : wr.cell? ⟨gl, j, none⟩ = some u := by
              rw [World.ownsRow.cellAt HX.out.l j (by omega)]; exact hu
            have z1 := World.ownsRow.frozenAt HX.out.l j
            have HX2 := HX.out.set j (.int .i64 (-5))
            replace HX2 : Hid _ := HX2
            have y1 : (j : Int) < (N : Int) := by omega
            have y2 : (N : Int) ≤ 65536 := by have := HN.out.2.1; omega
            clear hxl hu HX
            go_wp2
            go_roundw
            case rel => exact ⟨j + 1, _, by omega, by go_num, HX2⟩
            case measure => simp [intOf]; omega
          · obtain rfl : j = N := by omega
            clear hlt
            go_wp2
            go_loopw [8, 13] (fun v8 v13 wx => ∃ (t cl' : Nat) (pl' : Option Addr) (xs' : List Value), t ≤ 20 ∧ v8 = .slice pl' (j + t) cl' ∧ v13 = .int .i64 t ∧ Hid (LK wa wb wx (.slice pl' (j + t) cl') (.slice pk j ck) (j + t) xs' L)) (fun _ v13 _ => 20 - (intOf v13).toNat)
            case atStart => exact ⟨0, cl, pl, xs, by omega, rfl, rfl, HX⟩
            case round =>
              clear HX
              obtain ⟨t, cl', pl', xs', ht, rfl, rfl, HX⟩ := hrel
              rename World => wx
              by_cases hlt : t < 20
              · have y1 : (t : Int) < 20 := by omega
                obtain ⟨JT, hJT⟩ : ∃ JT, j + t = JT := ⟨_, rfl⟩
                have HJT : Hid (j + t = JT ∧ JT ≤ 2000000 ∧ t < 20) := ⟨hJT, by have := HN.out.2.1; omega, hlt⟩
                rw [hJT] at HX ⊢
                clear hJT
                go_wp2_with (at_builtin; (refine wpList_push2 (z := -6) rfl _ _ rfl pl' JT cl' (.slice pk j ck) L xs' rfl rfl HX.out HJT.out.2.1 ?_; intro p8 c8 wy xs8 HX8))
                go_roundw
                case rel =>
                  obtain ⟨e1, e2, e3⟩ := HJT.out
                  have e4 : j + (t + 1) = JT + 1 := by omega
                  exact ⟨t + 1, c8, p8, xs8, by omega, by rw [e4], by go_num, by rw [e4]; exact HX8⟩
                case measure => simp [intOf]; omega
              · obtain rfl : t = 20 := by omega
                clear hlt
                go_wp2
                have UX : Hid (Up wa wx) := HX.out.up
                have IK2 : Hid (Fo.IR wx pk j (fun z => L[z]!)) := (Fo.OI.ir HX.out.k).2
                have IW2 : Hid (Fo.IR wx pw j (fun z => L[z]!)) := (Fo.OI.ir (Fo.OI.up OW.out UX.out)).2
                clear HX
                go_loopw [14] (fun v14 wy => ∃ m : Nat, m ≤ i ∧ v14 = .int .i64 m ∧ Hid (Up wx wy)) (fun v14 _ => i - (intOf v14).toNat)
                case atStart => exact ⟨0, by omega, rfl, Up.refl _⟩
                case round =>
                  obtain ⟨m, hm, rfl, HY⟩ := hrel
                  rename World => wy
                  have UY : Hid (Up wa wy) := UX.out.trans HY.out
                  have f0 := cell_up HFA.out.1 UY.out
                  have f1 := cell_up HFA.out.2 UY.out
                  by_cases hlt : m < i
                  · obtain ⟨G, gg, cc, rfl, a1, a2, a3, a4⟩ := (HCA.out.upon UY.out).at_ hlt
                    obtain ⟨qb, qo, qq, qc, rfl, s0, sir⟩ := (HCW.out.up (UPA.out.trans UY.out)) m hlt
                    have HI1 : Hid (Fo.IR wy (some ⟨gg, 0, none⟩) (C m).length (fun z => (C m)[z]!)) := a3
                    have HI2 : Hid (Fo.IR wy qq (C m).length (fun z => (C m)[z]!)) := sir
                    have y1 : (m : Int) < (i : Int) := by omega
                    have hll : (C m).length ≤ 4096 := HCl.out m hlt
                    have y5 : (i : Int) ≤ 4096 := by have := HN2.out; omega
                    obtain ⟨n, hn⟩ : ∃ n, (C m).length = n := ⟨_, rfl⟩
                    have HCn : Hid (∀ k, Calls Try.prog 16 #[.slice (some ⟨gg, 0, none⟩) n cc, .slice qq n qc] (wy.drewN k) fun e w' => e = .returned (.bool true) ∧ ∃ k', w' = (wy.drewN k).drewN k') := fun k => by
                      rw [← hn]
                      exact t16d _ _ _ _ _ (fun z => (C m)[z]!) _ (by omega) (ir_up HI1.out (Up.drewN _ _)) (ir_up HI2.out (Up.drewN _ _))
                    rw [hn] at a1 a2 a4 s0 hll
                    have y2 : (n : Int) ≤ 4096 := by omega
                    have y3 : (n : Int) + 1 ≤ (cc : Int) := by omega
                    clear a3 sir HI1 HI2 hn
                    go_wp2_with fail
                    go_quiet (first | (go_at_call 16; refine Calls.quiet_of (HCn.out _)))
                    all_goals (try go_wp2)
                    go_roundw
                    case rel => exact ⟨m + 1, by omega, by go_num, HY.out.trans (Up.drewN _ _)⟩
                    case measure => simp [intOf]; omega
                  · obtain rfl : m = i := by omega
                    have HMk : Hid (wy.cell? ⟨g, n1 * 5 + 4, none⟩ = some (.int .i64 78)) := (HBA.out.up UY.out).mark
                    have UF : Hid (Up w wy) := HU.out.trans (UPA.out.trans UY.out)
                    have y3 : (n1 : Int) + 1 ≤ (c : Int) := by omega
                    have y4 : (n1 : Int) ≤ 4096 := by have := HN1.out; omega
                    have y5 : (j : Int) ≤ 65536 := by have := HN.out.2.1; omega
                    clear hlt
                    go_wp2_with (first
                      | (go_at_call 16; (with_reducible refine (t16d pk pw j ck cw (fun z => L[z]!) _ HN.out.2.2 (ir_up IK2.out HY.out) (ir_up IW2.out HY.out)).mono ?_); rintro e w8 ⟨rfl, X8⟩; (have U8 : Hid (Up wy w8) := by obtain ⟨k, hk⟩ := X8; rw [hk]; exact Up.drewN _ _); clear X8; (have z78 := cell_up HMk.out U8.out))
                      | (go_at_call 12; (with_reducible refine (t12 _).mono ?_); rintro e w9 ⟨rfl, U9⟩))
                    go_ret
                    exact ⟨rfl, UF.out.trans (U8.out.trans U9.out)⟩
end Go.Proofs.Ytijfmaepoamkgaa
