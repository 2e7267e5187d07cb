/- The walk of FilterRound. -/
import Derived.Test.YtdpogojhpfejjaaRl
namespace Go.Proofs.Ytdpogojhpfejjaa
open Go.ChangeShapes Go.WideShapes Go.ChangeAt Go.RowKit Go.Fl Ieee
attribute [local go_sem] run_store_float run_store_c isSome_set call32 call31 run_neg fold_eq fold_ne fold_lt fold_gt abs_eq

theorem cut_snoc (f : Nat → Nat × Nat) (k : Nat) : (cut f 0 (k + 1)).map ce = (cut f 0 k).map ce ++ [ce (f k)] := by
  unfold cut
  rw [List.range_succ]
  simp
theorem br_lt {b0 : Nat} {w4 : World} {br B0 B1 B2 A1 A2 sx sy tx ty x0 x1 x2 : Nat} (h : Hid (RG b0 w4 br B0 B1 B2 A1 A2 sx sy tx ty)) : br < (newT w4 x0 x1 x2).heap.size := by
  have : br < w4.heap.size := World.block_lt_of_cell? w4 _ h.out.k0
  simp; omega
/-- The three numbers, and their floats. -/
structure C3 (w wr : World) (s0 s1 : Nat) (z0 z1 z2 : Int) (f0 f1 f2 : Nat) : Prop where
  i0 : wr.cell? ⟨s0, 0, none⟩ = some (.int .i64 z0)
  i1 : wr.cell? ⟨s0, 1, none⟩ = some (.int .i64 z1)
  i2 : wr.cell? ⟨s0, 2, none⟩ = some (.int .i64 z2)
  a0 : wr.cell? ⟨s1, 0, none⟩ = some (.float .f64 f0)
  a1 : wr.cell? ⟨s1, 1, none⟩ = some (.float .f64 f1)
  a2 : wr.cell? ⟨s1, 2, none⟩ = some (.float .f64 f2)
  g0 : wr.frozen? ⟨s1, 0, none⟩ = false
  g1 : wr.frozen? ⟨s1, 1, none⟩ = false
  g2 : wr.frozen? ⟨s1, 2, none⟩ = false
  ne : s0 ≠ s1
  lo : w.heap.size ≤ s1
  up : Up w wr
theorem C3.new (w : World) (z0 z1 z2 : Int) : C3 w ((w.alloc (.cells #[.int .i64 z0, .int .i64 z1, .int .i64 z2] 22)).alloc (.cells #[.float .f64 0, .float .f64 0, .float .f64 0] 26)) w.heap.size (w.heap.size + 1) z0 z1 z2 0 0 0 := by
  have h1 : ((w.alloc (.cells #[.int .i64 z0, .int .i64 z1, .int .i64 z2] 22)).alloc (.cells #[.float .f64 0, .float .f64 0, .float .f64 0] 26)).heap[w.heap.size]? = some (.cells #[.int .i64 z0, .int .i64 z1, .int .i64 z2] 22) := by
    rw [Below.heap_alloc (w.alloc (.cells #[.int .i64 z0, .int .i64 z1, .int .i64 z2] 22)) _ w.heap.size (by simp)]; exact heap_alloc_last _ _
  have h2 : ((w.alloc (.cells #[.int .i64 z0, .int .i64 z1, .int .i64 z2] 22)).alloc (.cells #[.float .f64 0, .float .f64 0, .float .f64 0] 26)).heap[w.heap.size + 1]? = some (.cells #[.float .f64 0, .float .f64 0, .float .f64 0] 26) := by
    have := heap_alloc_last (w.alloc (.cells #[.int .i64 z0, .int .i64 z1, .int .i64 z2] 22)) (.cells #[.float .f64 0, .float .f64 0, .float .f64 0] 26)
    simpa using this
  refine ⟨?_, ?_, ?_, ?_, ?_, ?_, ?_, ?_, ?_, by omega, by omega, (Up.alloc _ _).trans (Up.alloc _ _)⟩
  · rw [cell_of_row _ _ _ _ _ _ h1]; rfl
  · rw [cell_of_row _ _ _ _ _ _ h1]; rfl
  · rw [cell_of_row _ _ _ _ _ _ h1]; rfl
  · rw [cell_of_row _ _ _ _ _ _ h2]; rfl
  · rw [cell_of_row _ _ _ _ _ _ h2]; rfl
  · rw [cell_of_row _ _ _ _ _ _ h2]; rfl
  · exact World.frozen?_alloc_at _ _ _ _ (by simp)
  · exact World.frozen?_alloc_at _ _ _ _ (by simp)
  · exact World.frozen?_alloc_at _ _ _ _ (by simp)
theorem C3.put0 {w wr : World} {s0 s1 : Nat} {z0 z1 z2 : Int} {f0 f1 f2 : Nat} (h : C3 w wr s0 s1 z0 z1 z2 f0 f1 f2) (x : Nat) : C3 w (wr.setCell ⟨s1, 0, none⟩ (.float .f64 x)) s0 s1 z0 z1 z2 x f1 f2 := by
  have hn := h.ne
  have cs : ∀ j v, wr.cell? ⟨s0, j, none⟩ = some v → (wr.setCell ⟨s1, 0, none⟩ (.float .f64 x)).cell? ⟨s0, j, none⟩ = some v := fun j v hv => by
    rw [World.cell?_setCell_other _ _ _ _ (by simp; try omega)]; exact hv
  have cf : ∀ j v, j ≠ 0 → wr.cell? ⟨s1, j, none⟩ = some v → (wr.setCell ⟨s1, 0, none⟩ (.float .f64 x)).cell? ⟨s1, j, none⟩ = some v := fun j v hj hv => by
    rw [World.cell?_setCell_other _ _ _ _ (by simp; try omega)]; exact hv
  refine ⟨cs _ _ h.i0, cs _ _ h.i1, cs _ _ h.i2, World.cell?_setCell_same _ _ _ h.a0, cf 1 _ (by omega) h.a1, cf 2 _ (by omega) h.a2, ?_, ?_, ?_, hn, h.lo, (show But s1 wr _ from grown_set wr ⟨s1, 0, none⟩ _).up h.up h.lo⟩
  · rw [World.frozen?_setCell]; exact h.g0
  · rw [World.frozen?_setCell]; exact h.g1
  · rw [World.frozen?_setCell]; exact h.g2
theorem C3.put1 {w wr : World} {s0 s1 : Nat} {z0 z1 z2 : Int} {f0 f1 f2 : Nat} (h : C3 w wr s0 s1 z0 z1 z2 f0 f1 f2) (x : Nat) : C3 w (wr.setCell ⟨s1, 1, none⟩ (.float .f64 x)) s0 s1 z0 z1 z2 f0 x f2 := by
  have hn := h.ne
  have cs : ∀ j v, wr.cell? ⟨s0, j, none⟩ = some v → (wr.setCell ⟨s1, 1, none⟩ (.float .f64 x)).cell? ⟨s0, j, none⟩ = some v := fun j v hv => by
    rw [World.cell?_setCell_other _ _ _ _ (by simp; try omega)]; exact hv
  have cf : ∀ j v, j ≠ 1 → wr.cell? ⟨s1, j, none⟩ = some v → (wr.setCell ⟨s1, 1, none⟩ (.float .f64 x)).cell? ⟨s1, j, none⟩ = some v := fun j v hj hv => by
    rw [World.cell?_setCell_other _ _ _ _ (by simp; try omega)]; exact hv
  refine ⟨cs _ _ h.i0, cs _ _ h.i1, cs _ _ h.i2, cf 0 _ (by omega) h.a0, World.cell?_setCell_same _ _ _ h.a1, cf 2 _ (by omega) h.a2, ?_, ?_, ?_, hn, h.lo, (show But s1 wr _ from grown_set wr ⟨s1, 1, none⟩ _).up h.up h.lo⟩
  · rw [World.frozen?_setCell]; exact h.g0
  · rw [World.frozen?_setCell]; exact h.g1
  · rw [World.frozen?_setCell]; exact h.g2
theorem C3.put2 {w wr : World} {s0 s1 : Nat} {z0 z1 z2 : Int} {f0 f1 f2 : Nat} (h : C3 w wr s0 s1 z0 z1 z2 f0 f1 f2) (x : Nat) : C3 w (wr.setCell ⟨s1, 2, none⟩ (.float .f64 x)) s0 s1 z0 z1 z2 f0 f1 x := by
  have hn := h.ne
  have cs : ∀ j v, wr.cell? ⟨s0, j, none⟩ = some v → (wr.setCell ⟨s1, 2, none⟩ (.float .f64 x)).cell? ⟨s0, j, none⟩ = some v := fun j v hv => by
    rw [World.cell?_setCell_other _ _ _ _ (by simp; try omega)]; exact hv
  have cf : ∀ j v, j ≠ 2 → wr.cell? ⟨s1, j, none⟩ = some v → (wr.setCell ⟨s1, 2, none⟩ (.float .f64 x)).cell? ⟨s1, j, none⟩ = some v := fun j v hj hv => by
    rw [World.cell?_setCell_other _ _ _ _ (by simp; try omega)]; exact hv
  refine ⟨cs _ _ h.i0, cs _ _ h.i1, cs _ _ h.i2, cf 0 _ (by omega) h.a0, cf 1 _ (by omega) h.a1, World.cell?_setCell_same _ _ _ h.a2, ?_, ?_, ?_, hn, h.lo, (show But s1 wr _ from grown_set wr ⟨s1, 2, none⟩ _).up h.up h.lo⟩
  · rw [World.frozen?_setCell]; exact h.g0
  · rw [World.frozen?_setCell]; exact h.g1
  · rw [World.frozen?_setCell]; exact h.g2
set_option maxRecDepth 100000 in
set_option maxHeartbeats 4000000 in
theorem t3 (z0 z1 z2 : Int) (x0 x1 x2 : Nat) (hx0 : floatOfInt .f64 (z0.tmod 1048576) = x0) (hx1 : floatOfInt .f64 (z1.tmod 1048576) = x1) (hx2 : floatOfInt .f64 (z2.tmod 1048576) = x2) (p : Option Addr) (lb lo len cap : Nat) (P Q : Nat → Int) (w : World) (hp : 0 < len → p = some ⟨lb, lo, none⟩)
    (hR : ∀ i, i < len → w.cell? ⟨lb, lo + i * 2, none⟩ = some (.int .i64 (P i)) ∧ w.cell? ⟨lb, lo + i * 2 + 1, none⟩ = some (.int .i64 (Q i))) (hl : len ≤ 9223372036854775807) (xf : Nat → Nat × Nat) (hxf : ∀ i, i < len → xf i = (floatOfInt .f64 ((P i).tmod 1048576), floatOfInt .f64 ((Q i).tmod 1048576))) :
    Calls Try.prog 3 #[.agg #[.int .i64 z0, .int .i64 z1, .int .i64 z2], .slice p len cap] w (TU w) := by
  by_cases h4 : 4096 < len
  · clear hR hp hxf
    have z : (4096 : Int) < (len : Int) := by omega
    go_enter Try.func3, Try.ntmps3
    go_wp2_with (first
      | (go_at_call 4; (with_reducible refine (t4 _).mono ?_); rintro e w1 ⟨rfl, u1⟩))
    go_ret
    exact ⟨rfl, (Up.alloc _ _).trans u1.out⟩
  · have z : ¬ (4096 : Int) < (len : Int) := by omega
    have HP : Hid (0 < len → p = some ⟨lb, lo, none⟩) := hp
    have HR : Hid (∀ i, i < len → w.cell? ⟨lb, lo + i * 2, none⟩ = some (.int .i64 (P i)) ∧ w.cell? ⟨lb, lo + i * 2 + 1, none⟩ = some (.int .i64 (Q i))) := hR
    have HXF : Hid (∀ i, i < len → xf i = (floatOfInt .f64 ((P i).tmod 1048576), floatOfInt .f64 ((Q i).tmod 1048576))) := hxf
    have HW : Hid (XW xf P Q len) := fun i hi => by
      rw [hxf i hi]
      exact ⟨md_wh rfl, md_wh rfl⟩
    obtain ⟨B0, B1, B2, hBB⟩ := BB.make (md_wh hx0) (md_wh hx1) (md_wh hx2)
    have HBB : Hid (BB x0 x1 x2 B0 B1 B2 z0 z1 z2) := hBB
    clear hp hR hxf hBB
    go_enter Try.func3, Try.ntmps3
    go_wp2
    have H0 : Hid (C3 w ((w.alloc (.cells #[.int .i64 z0, .int .i64 z1, .int .i64 z2] 22)).alloc (.cells #[.float .f64 0, .float .f64 0, .float .f64 0] 26)) w.heap.size (w.heap.size + 1) z0 z1 z2 0 0 0) := C3.new w z0 z1 z2
    generalize hw1 : ((w.alloc (.cells #[.int .i64 z0, .int .i64 z1, .int .i64 z2] 22)).alloc (.cells #[.float .f64 0, .float .f64 0, .float .f64 0] 26)) = w1 at *
    generalize hs0 : w.heap.size = s0 at *
    generalize hs1 : s0 + 1 = s1 at *
    clear hw1 hs0 hs1
    go_loopw [6] (fun vi wr => ∃ c : Int, (c = 0 ∧ Hid (C3 w wr s0 s1 z0 z1 z2 0 0 0) ∨ c = 1 ∧ Hid (C3 w wr s0 s1 z0 z1 z2 x0 0 0) ∨ c = 2 ∧ Hid (C3 w wr s0 s1 z0 z1 z2 x0 x1 0) ∨ c = 3 ∧ Hid (C3 w wr s0 s1 z0 z1 z2 x0 x1 x2)) ∧ vi = .int .i64 c) (fun vi _ => 3 - (intOf vi).toNat)
    case atStart => exact ⟨0, Or.inl ⟨rfl, H0⟩, rfl⟩
    case round =>
      clear H0
      obtain ⟨c, hc, rfl⟩ := hrel
      rcases hc with ⟨rfl, H⟩ | ⟨rfl, H⟩ | ⟨rfl, H⟩ | ⟨rfl, H⟩
      · have i0 := H.out.i0
        have a0 := H.out.a0
        have g0 := H.out.g0
        go_wp2
        go_roundw
        case rel => exact ⟨1, by first | exact Or.inr (Or.inl ⟨rfl, H.out.put0 _⟩) | exact Or.inr (Or.inr (Or.inl ⟨rfl, H.out.put0 _⟩)) | exact Or.inr (Or.inr (Or.inr ⟨rfl, H.out.put0 _⟩)), rfl⟩
        case measure => simp [intOf]
      · have i1 := H.out.i1
        have a1 := H.out.a1
        have g1 := H.out.g1
        go_wp2
        go_roundw
        case rel => exact ⟨2, by first | exact Or.inr (Or.inl ⟨rfl, H.out.put1 _⟩) | exact Or.inr (Or.inr (Or.inl ⟨rfl, H.out.put1 _⟩)) | exact Or.inr (Or.inr (Or.inr ⟨rfl, H.out.put1 _⟩)), rfl⟩
        case measure => simp [intOf]
      · have i2 := H.out.i2
        have a2 := H.out.a2
        have g2 := H.out.g2
        go_wp2
        go_roundw
        case rel => exact ⟨3, by first | exact Or.inr (Or.inl ⟨rfl, H.out.put2 _⟩) | exact Or.inr (Or.inr (Or.inl ⟨rfl, H.out.put2 _⟩)) | exact Or.inr (Or.inr (Or.inr ⟨rfl, H.out.put2 _⟩)), rfl⟩
        case measure => simp [intOf]
      · obtain ⟨w3, hw3⟩ : ∃ w3, w3 = wr := ⟨_, rfl⟩
        have H3 : Hid (C3 w w3 s0 s1 z0 z1 z2 x0 x1 x2) := hw3 ▸ H
        clear H
        subst hw3
        have RL : Hid (∀ i, i < len → w3.cell? ⟨lb, lo + i * 2, none⟩ = some (.int .i64 (P i)) ∧ w3.cell? ⟨lb, lo + i * 2 + 1, none⟩ = some (.int .i64 (Q i))) := fun i hi => ⟨cell_up (HR.out i hi).1 H3.out.up, cell_up (HR.out i hi).2 H3.out.up⟩
        obtain ⟨i0, hi, hz0, hz1, hz2⟩ := info_parts info26
        go_wp2
        go_loopw [7, 8] (fun v i wr => ∃ k : Nat, k ≤ len ∧ i = .int .i64 k ∧ wr.ownsRow w3.heap.size 28 1 v k ((cut xf 0 k).map ce) ∧ Hid (k = 0 → v = .slice none 0 0) ∧ Hid (Up w3 wr)) (fun _ i _ => len - (intOf i).toNat)
        case atStart => exact ⟨0, by omega, rfl, by simpa [cut] using World.ownsRow_nil _ _ _ _, fun _ => rfl, Up.refl _⟩
        case round =>
          obtain ⟨k, hk, rfl, hown, HZ, HU⟩ := hrel
          by_cases hlt : k < len
          · have hg := HP.out (by omega)
            subst hg
            obtain ⟨l0, l1⟩ := RL.out k hlt
            have c0 := cell_up l0 HU.out
            have c1 := cell_up l1 HU.out
            obtain ⟨px, hpx⟩ : ∃ px, floatOfInt .f64 ((P k).tmod 1048576) = px := ⟨_, rfl⟩
            obtain ⟨qx, hqx⟩ : ∃ qx, floatOfInt .f64 ((Q k).tmod 1048576) = qx := ⟨_, rfl⟩
            have XK : Hid (xf k = (px, qx)) := by
              show _ = _
              rw [HXF.out k hlt, hpx, hqx]
            have sz : w3.heap.size ≤ wr.heap.size := HU.out.size
            have hkz : (k : Int) < (len : Int) := by omega
            have lk := World.block_lt_of_cell? wr _ c0
            have lg : lb < w3.heap.size := World.block_lt_of_cell? w3 _ l0
            have ag : u7.ownBlock ≠ some lb := fun e => by have := (hown.lt lb e).1; omega
            have hk0 : (0 : Int) ≤ (k : Int) := Int.natCast_nonneg _
            clear l0 l1 HZ
            go_wp2_with fail
            go_region_held3 (fun w' => w'.cell? ⟨lb, lo + k * 2, none⟩ = some (.int .i64 (P k)) ∧ w'.cell? ⟨lb, lo + k * 2 + 1, none⟩ = some (.int .i64 (Q k)))
              (first
                | go_keep
                | exact ⟨(hgrow.cell_far _ (by simp; omega) (Ne.symm ag)).trans (cell_up c0 ((Up.alloc _ _).trans (Up.drew _))), (hgrow.cell_far _ (by simp; omega) (Ne.symm ag)).trans (cell_up c1 ((Up.alloc _ _).trans (Up.drew _)))⟩)
              ((refine step_append_lies _ (by rfl) _ _ _ (by rfl) w3.heap.size 28 i0 _ 1 16 Try.underlying27 hi hz0 hz1 hz2 rfl (by omega) u7 k _ (by rfl) ((hown.alloc _).drew)
                  ⟨wr.heap.size, 0, none⟩ 1 1 [.complex .f64 px qx] (by rfl) (by rfl) (World.news_of_block (cs := #[.complex .f64 px qx]) (t := 28) (fr := (0, 0)) (heap_alloc_new wr _)) (by simp [Value.oneCell'])
                  (by omega) (by unfold maxLen; omega) (by omega) (by simp; omega) (wr.heap.size + 1) (by simp) ?_; intro gg cap' w1 hown1 hgrow hat hlt2))
            all_goals
              have RO : w1.ownsRow w3.heap.size 28 1 (.slice (some ⟨gg, 0, none⟩) (k + 1) cap') (k + 1) ((cut xf 0 (k + 1)).map ce) := by
                rw [cut_snoc, XK.out]; exact hown1
              have RU : Hid (Up w3 w1) := Below.grown (HU.out.trans ((Up.alloc _ _).trans (Up.drew _))) hgrow (by simp; omega) (fun j hj => (hown.lt j hj).1)
              clear hown1 hgrow hat hlt2 hown HU c0 c1
              try go_wp2
              go_roundw
              case rel => exact ⟨k + 1, by omega, by go_num, RO, fun h => by omega, RU⟩
              case measure => simp [intOf]; omega
          · have hkl : k = len := by omega
            subst hkl
            obtain ⟨xp, xc, hv, hX⟩ := row_split hown HZ.out
            subst hv
            have XX : Hid (XR wr xp k xc xf wr.heap.size) := hX
            have HB : Hid (BB x0 x1 x2 B0 B1 B2 z0 z1 z2) := HBB
            have a0 := cell_up H3.out.a0 HU.out
            have a1 := cell_up H3.out.a1 HU.out
            have a2 := cell_up H3.out.a2 HU.out
            have hn : k ≤ 4096 := by omega
            have VW : Hid (Up w wr) := H3.out.up.trans HU.out
            clear hX hown HZ HU H3 RL
            generalize hW : wr = W at *
            clear hW
            go_wp2_with (first
              | (go_at_call 5; (with_reducible refine (w5f HB _).mono ?_); rintro e w4 ⟨br, rfl, r4, u4⟩; have a0' := cell_up a0 u4.out; have a1' := cell_up a1 u4.out; have a2' := cell_up a2 u4.out; have ht : W.heap.size ≤ br := r4.out.lo; clear a0 a1 a2)
              | (go_at_call 6; (with_reducible refine (w6f _ _ _ _).mono ?_); rintro e w5 ⟨b, gt, ct, gp, rfl, l5, u5⟩; have R5 : Hid (RG _ w5 br _ _ _ _ _ 0 0 0 0) := r4.out.up ((Up.alloc _ _).trans u5.out); have X5 : Hid (XR w5 xp k xc xf W.heap.size) := XX.out.up ((u4.out.trans (Up.alloc _ _)).trans u5.out); clear a0' a1' a2')
              | (go_at_call 7; (with_reducible refine (w7f HB HW R5 X5 ht hn).mono ?_); rintro e w6 ⟨g6, d6, sx, sy, tx, ty, rfl, c6, e6, b6, _, _⟩; have L6 : Hid (LN _ w6 b gt ct gp 2 _) := l5.out.but b6.out (br_lt r4); have X6 : Hid (XR w6 xp k xc xf W.heap.size) := X5.out.but b6.out ht)
              | (go_at_call 8; (with_reducible refine (w8f L6 X6 hn).mono ?_); rintro e w7 ⟨g7, d7, w7', rfl, c7, e7, b7⟩; obtain ⟨U7, AL⟩ := tail_facts HB HW r4 u4 l5 u5 c6 e6 b6 c7 e7 b7; clear R5 X5 L6 X6 r4 u4 l5 u5 c6 e6 b6 c7 e7 b7 XX))
            have VV : Hid (Up w w7) := VW.out.trans U7.out
            clear VW U7
            go_loopw [15] (fun vi wq => ∃ i : Nat, i ≤ k ∧ vi = .int .i64 i ∧ Hid (Up w7 wq)) (fun vi _ => k - (intOf vi).toNat)
            case atStart => exact ⟨0, by omega, rfl, Up.refl _⟩
            case round =>
              obtain ⟨i, hi', rfl, HQ⟩ := hrel
              by_cases hlt2 : i < k
              · obtain ⟨ya, yb, za, zb, y1, y2, y3, y4⟩ := AL.out i hlt2
                have v1 := cell_up y1 HQ.out
                have v2 := cell_up y2 HQ.out
                clear y1 y2
                have t1 : (i : Int) < (k : Int) := by omega
                have t0 : (0 : Int) ≤ (i : Int) := by omega
                go_wp2_with fail
                go_region_held3 (fun V => V.cell? ⟨g6, i, none⟩ = some (.complex .f64 ya yb) ∧ V.cell? ⟨g7, i, none⟩ = some (.complex .f64 za zb)) (go_keep) (fail)
                all_goals (try go_wp2)
                go_roundw
                case rel => exact ⟨i + 1, by omega, by go_num, HQ.out.trans (Up.drew _)⟩
                case measure => simp [intOf]; omega
              · have hik : i = k := by omega
                subst hik
                go_wp2_with (first
                  | (go_at_call 4; (with_reducible refine (t4 _).mono ?_); rintro e w9 ⟨rfl, u9⟩))
                go_ret
                exact ⟨rfl, (VV.out.trans HQ.out).trans u9.out⟩
end Go.Proofs.Ytdpogojhpfejjaa
