/- The points of the circle. -/
import Derived.Test.YtlgejebgkkmacaaC
import Derived.Deep.WholeRow
import Derived.Laws.CopyOwn
import Derived.Deep.RegionWith
namespace Go.Proofs.Ytlgejebgkkmacaa
open Go.ChangeShapes Go.WideShapes Go.ChangeAt Go.RowKit Go.Fl
attribute [local go_sem] run_store_float run_store_complex call39 call50 run_neg fold_eq fold_ne fold_lt fold_gt abs_eq

def cleanF (x : Option Nat) : Option Nat := if eqF x (ab 0) then ab 0 else x
theorem t57 (x : Nat) (w : World) : Calls Try.prog 57 #[.float .f64 x] w (FR w (cleanF (ab x))) := by
  go_enter Try.func57, Try.ntmps57
  go_wp2
  all_goals (go_ret; go_tidy; refine FR.mk0 ?_; simp_all [cleanF])
theorem t60 (x : Nat) (w : World) : Calls Try.prog 60 #[.float .f64 x] w (FR w (cleanF (ab x))) := by
  go_enter Try.func60, Try.ntmps60
  go_wp2
  all_goals (go_ret; go_tidy; refine FR.mk0 ?_; simp_all [cleanF])
theorem t47 (x y : Nat) (w : World) : Calls Try.prog 47 #[.complex .f64 x y] w fun e w' => e = .returned (.complex .f64 x (neg y)) ∧ w' = w := by
  go_enter Try.func47, Try.ntmps47
  go_wp2
  go_ret
  exact ⟨rfl, rfl⟩
theorem t69 (w : World) : Calls Try.prog 69 #[] w fun e w' => e = .returned (.agg (sineL.map (Value.float .f64)).toArray) ∧ Below w.heap.size w w' := by
  go_enter Try.func69, Try.ntmps69
  go_wp2_with (refine wpList_build_to rfl 77 _ rfl (sineL.map (Value.float .f64)).toArray (by kernel_rfl) ?_)
  · refine upon_storeRow _ 77 (heap_alloc_last _ _) rfl ?_
    go_wp2
    exact bodyPost_ret (results_cell_row Try.results69 _ _ _ 77 (sineL.map (Value.float .f64)).toArray (0, 0) _ rfl (by first | exact heap_alloc_last _ _ | exact setRow_heap _ _ _ _ _ _ (heap_alloc_last _ _)) Try.underlying77 rfl (by kernel_rfl)) rfl ⟨rfl, by first | exact (Below.refl _ _).alloc (Nat.le_refl _) _ | exact below_setRow ((Below.refl _ _).alloc (Nat.le_refl _) _) (Nat.le_refl _) _⟩
theorem t70 (w : World) : Calls Try.prog 70 #[] w fun e w' => e = .returned (.agg (cosineL.map (Value.float .f64)).toArray) ∧ Below w.heap.size w w' := by
  go_enter Try.func70, Try.ntmps70
  go_wp2_with (refine wpList_build_to rfl 77 _ rfl (cosineL.map (Value.float .f64)).toArray (by kernel_rfl) ?_)
  · refine upon_storeRow _ 77 (heap_alloc_last _ _) rfl ?_
    go_wp2
    exact bodyPost_ret (results_cell_row Try.results70 _ _ _ 77 (cosineL.map (Value.float .f64)).toArray (0, 0) _ rfl (by first | exact heap_alloc_last _ _ | exact setRow_heap _ _ _ _ _ _ (heap_alloc_last _ _)) Try.underlying77 rfl (by kernel_rfl)) rfl ⟨rfl, by first | exact (Below.refl _ _).alloc (Nat.le_refl _) _ | exact below_setRow ((Below.refl _ _).alloc (Nat.le_refl _) _) (Nat.le_refl _) _⟩
theorem t80 (w : World) : Calls Try.prog 80 #[] w fun e w' => e = .returned (.agg (tangentL.map (Value.float .f64)).toArray) ∧ Below w.heap.size w w' := by
  go_enter Try.func80, Try.ntmps80
  go_wp2_with (refine wpList_build_to rfl 80 _ rfl (tangentL.map (Value.float .f64)).toArray (by kernel_rfl) ?_)
  · refine upon_storeRow _ 80 (heap_alloc_last _ _) rfl ?_
    go_wp2
    exact bodyPost_ret (results_cell_row Try.results80 _ _ _ 80 (tangentL.map (Value.float .f64)).toArray (0, 0) _ rfl (by first | exact heap_alloc_last _ _ | exact setRow_heap _ _ _ _ _ _ (heap_alloc_last _ _)) Try.underlying80 rfl (by kernel_rfl)) rfl ⟨rfl, by first | exact (Below.refl _ _).alloc (Nat.le_refl _) _ | exact below_setRow ((Below.refl _ _).alloc (Nat.le_refl _) _) (Nat.le_refl _) _⟩

theorem alloc2_one (w : World) (o1 o2 : Obj) : ((w.alloc o1).alloc o2).heap[w.heap.size]? = some o1 := by
  rw [Below.heap_alloc (w.alloc o1) o2 w.heap.size (by simp)]; exact heap_alloc_last _ _
theorem alloc2_two (w : World) (o1 o2 : Obj) (d : Array Value) : (((w.alloc o1).alloc o2).setRow w.heap.size d).heap[w.heap.size + 1]? = some o2 := by
  rw [setRow_other _ _ _ _ (by omega)]
  have := heap_alloc_last (w.alloc o1) o2
  simpa using this
theorem two_rows (w0 w : World) (c1 c2 d1 d2 : Array Value) (t : TypeId) (hb : Below w0.heap.size w0 w) :
    ∃ W, (((w.alloc (.cells c1 t)).alloc (.cells c2 t)).setRow w.heap.size d1).setRow (w.heap.size + 1) d2 = W ∧ W.heap[w.heap.size]? = some (.cells d1 t (0, 0)) ∧ W.heap[w.heap.size + 1]? = some (.cells d2 t (0, 0)) ∧ Below w0.heap.size w0 W := by
  have hs := hb.size
  refine ⟨_, rfl, ?_, ?_, ?_⟩
  · rw [setRow_other _ _ _ _ (by omega)]; exact setRow_heap _ _ _ _ _ _ (alloc2_one _ _ _)
  · exact setRow_heap _ _ _ _ _ _ (alloc2_two _ _ _ _)
  · exact below_setRow (below_setRow ((hb.alloc hs _).alloc (by simp; omega) _) hs _) (by omega) _
theorem row_cells {w : World} {g : Nat} {L : List Nat} {t : TypeId} (h : w.heap[g]? = some (.cells (L.map (Value.float .f64)).toArray t (0, 0))) : ∀ i, i < L.length → w.cell? ⟨g, 0 + i, none⟩ = some (.float .f64 (L.getD i 0)) := by
  intro i hi
  rw [cell_of_row _ _ _ _ _ _ h]
  simp [List.getD, List.getElem?_eq_getElem hi]

/-- The cosine and the sine of at most an eighth of a turn. -/
def eastC (x : Option Nat) : Option Nat := if eqF x (ab 4593671619917905920) then ab 4604544271217802189 else
  let y := bin .mul x (ab 4618760256179416344)
  foldF cosineL (bin .mul y y)
def eastS (x : Option Nat) : Option Nat := if eqF x (ab 4593671619917905920) then ab 4604544271217802189 else
  let y := bin .mul x (ab 4618760256179416344)
  bin .mul (foldF sineL (bin .mul y y)) y
theorem fold_row (L : List Nat) (m b z : Nat) (t : TypeId) (w : World) (hl : L.length = m + 1) (hm : m < 1000) (h : w.heap[b]? = some (.cells (L.map (Value.float .f64)).toArray t (0, 0))) :
    Calls Try.prog 71 #[.slice (some ⟨b, 0, none⟩) (m + 1) (m + 1), .float .f64 z] w (FR w (foldF L (ab z))) :=
  t71 L m b 0 (m + 1) z w hl hm (fun i hi => row_cells h i (by omega))
theorem below_two {w w1 w2 : World} {n : Nat} (h1 : Below w.heap.size (w.drewN n) w1) (h2 : Below w1.heap.size w1 w2) : Below w.heap.size w w2 :=
  ((below_drewN (Below.refl _ _) n).trans h1).trans (h2.mono (by have := h1.size; simpa using this))
set_option maxHeartbeats 1000000 in
theorem t61 (x : Nat) (w : World) : Calls Try.prog 61 #[.float .f64 x] w fun e w' => ∃ r s, e = .returned (.tuple #[.float .f64 r, .float .f64 s]) ∧ Hid (ab r = eastC (ab x)) ∧ Hid (ab s = eastS (ab x)) ∧ Below w.heap.size w w' := by
  go_enter Try.func61, Try.ntmps61
  go_wp2_with (first
    | ((with_reducible refine upon_fl (by simp) ?_); intro r n hr)
    | (go_at_call 69; refine (t69 _).mono ?_; rintro e w1 ⟨rfl, hb1⟩)
    | (go_at_call 70; refine (t70 _).mono ?_; rintro e w2 ⟨rfl, hb2⟩)
    | (with_reducible refine upon_storeRow _ 77 (alloc2_one _ _ _) rfl ?_)
    | (with_reducible refine upon_storeRow _ 77 (alloc2_two _ _ _ _) rfl ?_))
  · go_ret2
    go_tidy
    refine ⟨_, _, rfl, ?_, ?_, Below.refl _ _⟩ <;> simp_all [eastC, eastS, Hid]
  · obtain ⟨W, hW, hA, hB, hbel⟩ := two_rows w w2 _ _ (sineL.map (Value.float .f64)).toArray (cosineL.map (Value.float .f64)).toArray 77 (below_two hb1 hb2)
    rw [hW]
    have HA := hA; have HB := hB
    replace HA : Hid _ := hA
    replace HB : Hid _ := hB
    clear hA hB hW hb1 hb2
    go_region_with (first
      | ((with_reducible refine upon_fl (by simp) ?_); intro r n hr)
      | (go_at_call 71; refine (fold_row cosineL 8 _ _ 77 _ rfl (by omega) (by exact HB.out)).mono ?_; rintro e w' ⟨c, n, rfl, rfl, hr⟩)
      | (go_at_call 71; refine (fold_row sineL 8 _ _ 77 _ rfl (by omega) (by exact HA.out)).mono ?_; rintro e w' ⟨s, n, rfl, rfl, hr⟩))
    all_goals go_wp2
    all_goals (go_ret2; go_tidy; clear HA HB; refine ⟨_, _, rfl, ?_, ?_, below_drewN hbel _⟩ <;> simp_all [eastC, eastS, Hid])
end Go.Proofs.Ytlgejebgkkmacaa
