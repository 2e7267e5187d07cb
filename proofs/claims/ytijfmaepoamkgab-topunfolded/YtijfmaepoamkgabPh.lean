/- Order. -/
import Derived.Test.YtijfmaepoamkgabPg
namespace Go.Proofs.Ytijfmaepoamkgab
open Go.ChangeShapes Go.WideShapes Go.ChangeAt Go.RowKit Go.Fl Go.Sort Go.Shelf Go.Lib
attribute [local go_sem] run_store_float call18 run_neg fold_eq fold_ne fold_lt fold_gt abs_eq

theorem info3 : (Try.prog.info? 3).map (fun i => (i.zero, i.size, i.bytes)) = some (some (.int .i64 0), 1, 8) := by kernel_rfl
theorem made_nv (n : Nat) : (madeCells (Value.int .i64 0).cells (n * 1)).toList = (List.replicate n 0).map nv := by
  rw [Nat.mul_one]
  show (madeCells #[Value.int .i64 0] n).toList = _
  rw [toList_madeCells_one]; simp [nv]
theorem set_count (n i : Nat) (hi : i < n) : ((List.range i) ++ List.replicate (n - i) 0).set i i = (List.range (i + 1)) ++ List.replicate (n - (i + 1)) 0 := by
  rw [List.set_append_right _ _ (by simp)]
  simp only [List.length_range, Nat.sub_self, List.range_succ, List.append_assoc]
  rw [show n - i = (n - (i + 1)) + 1 by omega, List.replicate_succ]
  simp
/-- While the places are laid. -/
structure LayP (w W wr : World) (g n i : Nat) : Prop where
  row : OPl w.heap.size wr (.slice (some ⟨g, 0, none⟩) n n) ((List.range i) ++ List.replicate (n - i) 0)
  up : Up W wr
theorem lay_start {w W w1 : World} {g n : Nat} (_hg : W.heap.size = g) (hown : w1.ownsRow w.heap.size 3 1 (.slice (some ⟨g, 0, none⟩) n n) n (madeCells (Value.int .i64 0).cells (n * 1)).toList) (hgr : W.grownBy w1 none) : LayP w W w1 g n 0 := by
  refine ⟨?_, RowKit.Below.grown (Below.refl _ _) hgr (Nat.le_refl _) (fun j hj => by cases hj)⟩
  rw [made_nv] at hown
  unfold OPl OR
  simpa using hown
theorem LayP.next {w W wr : World} {g n i : Nat} (h : LayP w W wr g n i) (hi : i < n) (hg : W.heap.size = g) : LayP w W (wr.setCell ⟨g, i, none⟩ (.int .i64 i)) g n (i + 1) := by
  obtain ⟨s1, s2⟩ := OR.put h.row i i
  rw [set_count n i hi] at s1
  exact ⟨s1, s2.up h.up (by omega)⟩
/-- What Order leaves. -/
def OrdR (w : World) (P : Nat → Plt) (n : Nat) (e : Ending) (w' : World) : Prop := ∃ p c o, e = .returned (.slice p n c) ∧ Hid (InOrd P n o ∧ OPl w.heap.size w' (.slice p n c) o ∧ Up w w')
set_option maxRecDepth 20000 in
set_option maxHeartbeats 2000000 in
theorem t22 {w : World} {p : Option Addr} {n cap : Nat} {P : Nat → Plt} (hV : PV w p n cap P) : Calls Try.prog 22 #[.slice p n cap, .func (.func 23) #[] #[]] w (OrdR w P n) := by
  have HV : Hid (PV w p n cap P) := hV
  have few := hV.few
  have few2 : (n : Int) ≤ 1000000 := by omega
  clear hV
  obtain ⟨i0, hi, hz0, hz1, hz2⟩ := info_parts info3
  have HA : Hid (Up w ((w.alloc (.cells #[.slice p n cap] 22)).alloc (.cells #[.func (.func 23) #[] #[]] 59))) := (Up.alloc _ _).trans (Up.alloc _ _)
  have H1 : Hid (((w.alloc (.cells #[.slice p n cap] 22)).alloc (.cells #[.func (.func 23) #[] #[]] 59)).cell? ⟨w.heap.size, 0, none⟩ = some (.slice p n cap)) := cell_up (World.cell?_alloc_at _ _ _ _ rfl) (Up.alloc _ _)
  have H2 : Hid (((w.alloc (.cells #[.slice p n cap] 22)).alloc (.cells #[.func (.func 23) #[] #[]] 59)).cell? ⟨w.heap.size + 1, 0, none⟩ = some (.func (.func 23) #[] #[])) := by
    have : ((w.alloc (.cells #[.slice p n cap] 22)).alloc (.cells #[.func (.func 23) #[] #[]] 59)).cell? ⟨(w.alloc (.cells #[.slice p n cap] 22)).heap.size, 0, none⟩ = some (.func (.func 23) #[] #[]) := World.cell?_alloc_at _ _ _ _ rfl
    rwa [show (w.alloc (.cells #[.slice p n cap] 22)).heap.size = w.heap.size + 1 by simp] at this
  have H3 : Hid (((w.alloc (.cells #[.slice p n cap] 22)).alloc (.cells #[.func (.func 23) #[] #[]] 59)).heap.size = w.heap.size + 1 + 1) := by show _ = _; simp
  go_enter Try.func22, Try.ntmps22
  go_wp2_with (first
    | (refine wpList_make_full _ rfl _ _ 29 rfl w.heap.size 3 i0 (.int .i64 0) 1 Try.underlying29 hi hz0 hz1 .i64 .i64 _ _ n rfl rfl rfl rfl (by rw [hz2]; omega) (by unfold maxLen; omega) (by simp; omega) ?_; intro w1 hown hgr
       have HL : Hid (LayP w ((w.alloc (.cells #[.slice p n cap] 22)).alloc (.cells #[.func (.func 23) #[] #[]] 59)) w1 (w.heap.size + 1 + 1) n 0) := H3.out ▸ lay_start rfl hown hgr
       clear hown hgr))
  generalize hW : (w.alloc (.cells #[.slice p n cap] 22)).alloc (.cells #[.func (.func 23) #[] #[]] 59) = W at *
  clear hW
  generalize hgg : w.heap.size + 1 + 1 = g at *
  go_loopw [6, 12, 13, 14, 15, 16, 17, 18, 19] (fun _ vi _ _ _ _ _ _ _ wr => ∃ i : Nat, i ≤ n ∧ vi = .int .i64 i ∧ Hid (LayP w W wr g n i)) (fun _ vi _ _ _ _ _ _ _ _ => n - (intOf vi).toNat)
  case atStart => exact ⟨0, by omega, rfl, HL⟩
  case round =>
    clear HL
    obtain ⟨i, hi', rfl, HL⟩ := hrel
    rename World => wr
    by_cases hlt : i < n
    · have c0 := OR.cell HL.out.row (i := i) (by simp; omega)
      have f0 := OR.frz HL.out.row i
      generalize ((List.range i) ++ List.replicate (n - i) 0)[i]! = z0 at c0
      unfold nv at c0
      have HN : Hid (LayP w W (wr.setCell ⟨g, i, none⟩ (.int .i64 i)) g n (i + 1)) := HL.out.next hlt H3.out
      clear HL
      go_wp2
      go_roundw
      case rel => exact ⟨i + 1, by omega, by go_num, HN⟩
      case measure => simp [intOf]; omega
    · obtain rfl : i = n := by omega
      have HO : Hid (OPl w.heap.size wr (.slice (some ⟨g, 0, none⟩) i i) (List.range i)) := by
        show OPl _ _ _ _
        have := HL.out.row
        simpa using this
      have HU : Hid (Up W wr) := HL.out.up
      clear HL hlt
      rcases Nat.eq_zero_or_pos i with rfl | hpos
      · have CN : Hid (∀ W fv, Calls Try.prog 36 #[.slice (some ⟨g, 0, none⟩) 0 0, fv] W fun e w' => e = .returned (.tuple #[]) ∧ w' = W) := fun W fv => AnyF.slices_SortFunc_none { sortPlaces with } (some ⟨g, 0, none⟩) 0 fv W
        go_wp2_with (go_at_call 36; (with_reducible refine (CN.out _ _).mono ?_); rintro e w' ⟨rfl, hw⟩; subst w')
        go_ret
        exact ⟨_, _, [], rfl, InOrd.nil P, HO.out, HA.out.trans HU.out⟩
      · have CS : Hid (Calls Try.prog 36 #[.slice (some ⟨g, 0, none⟩) i i, .func (.func 37) #[] #[.pointer (some ⟨w.heap.size + 1, 0, none⟩), .pointer (some ⟨w.heap.size, 0, none⟩)]] wr fun e w' => e = .returned (.tuple #[]) ∧ ∃ o, Hid (InOrd P i o ∧ OPl w.heap.size w' (.slice (some ⟨g, 0, none⟩) i i) o ∧ ∀ w0, Up w0 wr → w0.heap.size ≤ g → Up w0 w')) :=
          t36 hpos (HV.out.up (HA.out.trans HU.out)) (fun b o hb => by
            obtain ⟨b', o', hb', hr⟩ := HV.out.rd hpos
            have hc := (hr 0 hpos).c0
            have hl := World.block_lt_of_cell? w _ hc
            rw [hb'] at hb
            simp only [Option.some.injEq, Addr.mk.injEq] at hb
            simp only at hl
            omega) (by omega) (by omega) (cell_up H2.out HU.out) (cell_up H1.out HU.out) HO.out
        go_wp2_with (go_at_call 36; (with_reducible refine CS.out.mono ?_); rintro e w' ⟨rfl, o, HX⟩)
        go_ret
        obtain ⟨h1, h2, h3⟩ := HX.out
        exact ⟨_, _, o, rfl, h1, h2, h3 w (HA.out.trans HU.out) (by omega)⟩
theorem t8 {w : World} {p : Option Addr} {n cap : Nat} {P : Nat → Plt} (hV : PV w p n cap P) : Calls Try.prog 8 #[.slice p n cap] w (OrdR w P n) := by
  have C : Hid (Calls Try.prog 22 #[.slice p n cap, .func (.func 23) #[] #[]] w (OrdR w P n)) := t22 hV
  clear hV
  go_enter Try.func8, Try.ntmps8
  go_wp2_with (go_at_call 22; (with_reducible refine C.out.mono ?_); rintro e w' ⟨p', c', o, rfl, H⟩)
  go_ret
  exact ⟨_, _, o, rfl, H⟩
end Go.Proofs.Ytijfmaepoamkgab
