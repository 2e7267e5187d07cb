/- The order of cells; the leaves of it. -/
import Derived.Test.YtijfmaepoamkgabF
import Derived.Test.YtijfmaepoamkgabKa
import Derived.Test.YtijfmaepoamkgabRh
import Derived.Deep.RegionHeld3
import Derived.Deep.CutRange
import Derived.Sort.Grow
namespace Go.Proofs.Ytijfmaepoamkgab
open Go.ChangeShapes Go.WideShapes Go.ChangeAt Go.RowKit Go.Fl Go.Sort
attribute [local go_sem] run_store_float run_neg fold_eq fold_ne fold_lt fold_gt abs_eq

/-- Nothing has turned; blocks may have been laid, answers drawn. -/
def Gr (w w' : World) : Prop := ∃ q os, w' = grow (w.drewN q) os
theorem Gr.refl (w : World) : Gr w w := ⟨0, #[], by rw [grow_empty]; rfl⟩
theorem Gr.drewN (w : World) (n : Nat) : Gr w (w.drewN n) := ⟨n, #[], by rw [grow_empty]⟩
theorem Gr.alloc (w : World) (o : Obj) : Gr w (w.alloc o) := ⟨0, #[o], alloc_eq_grow w o⟩
theorem Gr.trans {a b c : World} (h : Gr a b) (k : Gr b c) : Gr a c := by
  obtain ⟨q, os, rfl⟩ := h
  obtain ⟨q', os', rfl⟩ := k
  exact ⟨q + q', os ++ os', by rw [← grow_grow, ← World.drewN_drewN]; rfl⟩
theorem Gr.up {w w' : World} (h : Gr w w') : Up w w' := by
  obtain ⟨q, os, rfl⟩ := h
  exact ⟨rfl, rfl, rfl, by rw [size_grow]; exact Nat.le_add_right _ _, fun k hk => heap_grow_old _ os (by exact hk)⟩
/-- The order of two numbers: -1, 0, 1. -/
def cmpI (a b : Int) : Int := if a < b then -1 else if b < a then 1 else 0
/-- .. of two cells. -/
def ordC (a b c d : Int) : Int := orI (cmpI a c) (cmpI b d)
theorem t57 (a : Int) (w : World) : Calls Try.prog 54 #[.int .i64 a] w fun e w' => e = .returned (.bool false) ∧ w' = w := by
  go_enter Try.func54, Try.ntmps54
  go_wp2
  go_ret
  exact ⟨by simp, rfl⟩
theorem t53 (a b : Int) (w : World) : Calls Try.prog 39 #[.int .i64 a, .int .i64 b] w fun e w' => e = .returned (.int .i64 (cmpI a b)) ∧ w' = w := by
  go_enter Try.func39, Try.ntmps39
  go_wp2_with (go_at_call 54; (with_reducible refine (t57 _ _).mono ?_); rintro e w' ⟨rfl, hw⟩; subst w')
  all_goals (go_ret; go_tidy; refine ⟨?_, rfl⟩; unfold cmpI)
  · rw [if_pos (by omega)]; rfl
  · rw [if_neg (by omega), if_pos (by omega)]; rfl
  · rw [if_neg (by omega), if_neg (by omega)]; rfl
/-- The first of two numbers that is not 0. -/
theorem t52 {w : World} {g : Nat} {x y : Int} {cap : Nat} (h0 : w.cell? ⟨g, 0, none⟩ = some (.int .i64 x)) (h1 : w.cell? ⟨g, 1, none⟩ = some (.int .i64 y)) : Calls Try.prog 38 #[.slice (some ⟨g, 0, none⟩) 2 cap] w fun e w' => e = .returned (.int .i64 (if x ≠ 0 then x else y)) ∧ w' = w := by
  go_enter Try.func38, Try.ntmps38
  go_wp2
  go_loopw [5, 8] (fun _ vi wr => ∃ i : Nat, i ≤ 2 ∧ vi = .int .i64 i ∧ Hid (wr = w ∧ (1 ≤ i → x = 0) ∧ (2 ≤ i → y = 0))) (fun _ vi _ => 2 - (intOf vi).toNat)
  case atStart => exact ⟨0, by omega, rfl, rfl, by omega, by omega⟩
  case round =>
    obtain ⟨i, hi, rfl, hw⟩ := hrel
    rename World => wr
    obtain ⟨hw, H1, H2⟩ := hw.out
    subst hw
    obtain rfl | rfl | rfl : i = 0 ∨ i = 1 ∨ i = 2 := by omega
    · clear H1 H2
      by_cases hx : x = 0
      · have HX : Hid (x = 0) := hx
        have b0 : (x == 0) = true := by simp [hx]
        clear hx
        go_wp2
        go_roundw
        case rel => exact ⟨1, by omega, by go_num, by first | trivial | rfl, fun _ => HX.out, by omega⟩
        case measure => simp [intOf]
      · have b0 : (x == 0) = false := by simp [hx]
        have HX : Hid (x ≠ 0) := hx
        clear hx
        go_wp2
        go_ret
        exact ⟨by first | rfl | (rw [if_pos HX.out]; rfl), rfl⟩
    · have HX : Hid (x = 0) := H1 (by omega)
      clear H1 H2
      by_cases hy : y = 0
      · have HY : Hid (y = 0) := hy
        have b0 : (y == 0) = true := by simp [hy]
        clear hy
        go_wp2
        go_roundw
        case rel => exact ⟨2, by omega, by go_num, by first | trivial | rfl, fun _ => HX.out, fun _ => HY.out⟩
        case measure => simp [intOf]
      · have b0 : (y == 0) = false := by simp [hy]
        clear hy
        go_wp2
        go_ret
        exact ⟨by first | rfl | (rw [if_neg (by simp [HX.out])]; rfl), rfl⟩
    · have HX : Hid (x = 0) := H1 (by omega)
      have HY : Hid (y = 0) := H2 (by omega)
      clear H1 H2
      go_wp2
      go_ret
      exact ⟨by first | rfl | (rw [if_neg (by simp [HX.out]), HY.out]; rfl) | (rw [HY.out]; rfl), rfl⟩
theorem two_cells (w : World) (a b : Value) (t : TypeId) : (w.alloc (.cells #[a, b] t)).cell? ⟨w.heap.size, 0, none⟩ = some a ∧ (w.alloc (.cells #[a, b] t)).cell? ⟨w.heap.size, 1, none⟩ = some b := by
  constructor <;> rw [World.cell?_alloc_at _ _ _ _ rfl] <;> rfl
theorem cell_up {w w' : World} {b k : Nat} {v : Value} (h : w.cell? ⟨b, k, none⟩ = some v) (hu : Up w w') : w'.cell? ⟨b, k, none⟩ = some v := by
  obtain ⟨c, e, fr, hb, _⟩ := cells_of_cell? h
  rw [RowKit.Below.cell hu (Array.getElem?_eq_some_iff.1 hb).1]; exact h
theorem four_cells (w : World) (a b c d : Value) (t t' : TypeId) : ((w.alloc (.cells #[a, b] t)).alloc (.cells #[c, d] t')).cell? ⟨w.heap.size, 0, none⟩ = some a ∧ ((w.alloc (.cells #[a, b] t)).alloc (.cells #[c, d] t')).cell? ⟨w.heap.size, 1, none⟩ = some b ∧
    ((w.alloc (.cells #[a, b] t)).alloc (.cells #[c, d] t')).cell? ⟨w.heap.size + 1, 0, none⟩ = some c ∧ ((w.alloc (.cells #[a, b] t)).alloc (.cells #[c, d] t')).cell? ⟨w.heap.size + 1, 1, none⟩ = some d := by
  obtain ⟨h1, h2⟩ := two_cells w a b t
  obtain ⟨h3, h4⟩ := two_cells (w.alloc (.cells #[a, b] t)) c d t'
  have e : (w.alloc (.cells #[a, b] t)).heap.size = w.heap.size + 1 := by simp
  rw [e] at h3 h4
  exact ⟨cell_up h1 (Up.alloc _ _), cell_up h2 (Up.alloc _ _), h3, h4⟩
theorem t52d (w : World) (x y : Int) : Calls Try.prog 38 #[.slice (some ⟨w.heap.size, 0, none⟩) 2 2] (w.alloc (.cells #[.int .i64 x, .int .i64 y] 3)).drew fun e w' => e = .returned (.int .i64 (orI x y)) ∧ w' = (w.alloc (.cells #[.int .i64 x, .int .i64 y] 3)).drew :=
  t52 (two_cells w _ _ 3).1 (two_cells w _ _ 3).2
end Go.Proofs.Ytijfmaepoamkgab
