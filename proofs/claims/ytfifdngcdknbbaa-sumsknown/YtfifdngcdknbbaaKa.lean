/- The examples' small functions: a number held against one of the reference's. -/
import Derived.Test.YtfifdngcdknbbaaK
namespace Go.Proofs.Ytfifdngcdknbbaa
open Go.ChangeShapes Go.WideShapes Go.ChangeAt Go.RowKit Go.Fl Go.Sort
attribute [local go_sem] run_store_float run_store_complex call12 call32 run_neg fold_eq fold_ne fold_lt fold_gt abs_eq

theorem t37 (x y : Nat) (w : World) : Calls Try.prog 37 #[.complex .f64 x y] w fun e w' => e = .returned (.agg #[.float .f64 x, .float .f64 y]) ∧ Hid (Up w w') := by
  go_enter Try.func37, Try.ntmps37
  go_wp2
  exact bodyPost_ret (v := .agg #[.float .f64 x, .float .f64 y]) (by simp [results, Try.results37, go_sem]) rfl ⟨rfl, Up.alloc _ _⟩
theorem t6k {x y : Nat} (h : Hid (ab x = ab y)) (w : World) : Calls Try.prog 6 #[.float .f64 x, .float .f64 y] w fun e w' => e = .returned (.bool true) ∧ w' = w :=
  (t6 x y w).mono fun _ _ ⟨he, hw⟩ => ⟨by rw [he, h.out]; simp, hw⟩
theorem t36 (x y x' y' : Nat) (w : World) (h1 : ab x = ab x') (h2 : ab y = ab y') : Calls Try.prog 36 #[.agg #[.float .f64 x, .float .f64 y], .agg #[.float .f64 x', .float .f64 y']] w (KV w (.bool true)) := by
  have H1 : Hid (ab x = ab x') := h1
  have H2 : Hid (ab y = ab y') := h2
  clear h1 h2
  go_enter Try.func36, Try.ntmps36
  go_wp2_with (first | (go_at_call 6; (with_reducible refine (t6k H1 _).mono ?_); rintro e w' ⟨rfl, rfl⟩) | (go_at_call 6; (with_reducible refine (t6k H2 _).mono ?_); rintro e w' ⟨rfl, rfl⟩))
  go_ret
  exact ⟨rfl, (Up.alloc _ _).trans (Up.alloc _ _)⟩
theorem agg_cells (w : World) (x y : Nat) (t : TypeId) : (w.alloc (.cells #[.float .f64 x, .float .f64 y] t)).cell? ⟨w.heap.size, 0, none⟩ = some (.float .f64 x) ∧ (w.alloc (.cells #[.float .f64 x, .float .f64 y] t)).cell? ⟨w.heap.size, 1, none⟩ = some (.float .f64 y) := by
  constructor <;> (rw [cell_of_row _ _ _ _ _ _ (heap_alloc_last _ _)]; rfl)
theorem cell_up2 {w w' : World} {b o : Nat} {v : Value} (h : w.cell? ⟨b, o, none⟩ = some v) (hu : Hid (Up w w')) : w'.cell? ⟨b, o, none⟩ = some v := by
  obtain ⟨c, e, fr, hb, _⟩ := cells_of_cell? h
  rw [RowKit.Below.cell hu.out (Array.getElem?_eq_some_iff.1 hb).1]; exact h
theorem t18 (x y x' y' : Nat) (w : World) (h1 : ab x = ab x') (h2 : ab y = ab y') : Calls Try.prog 18 #[.complex .f64 x y, .agg #[.float .f64 x', .float .f64 y']] w (KV w (.bool true)) := by
  have H1 : Hid (ab x = ab x') := h1
  have H2 : Hid (ab y = ab y') := h2
  clear h1 h2
  go_enter Try.func18, Try.ntmps18
  go_wp2_with fail
  obtain ⟨k0, k1⟩ := agg_cells w x' y' 44
  have HU : Hid (Up w (w.alloc (.cells #[.float .f64 x', .float .f64 y'] 44))) := Up.alloc _ _
  generalize w.alloc (.cells #[.float .f64 x', .float .f64 y'] 44) = W at k0 k1 HU ⊢
  generalize w.heap.size = g at k0 k1 ⊢
  have d0 : W.drew.cell? ⟨g, 0, none⟩ = some (.float .f64 x') := k0
  have d1 : W.drew.cell? ⟨g, 1, none⟩ = some (.float .f64 y') := k1
  go_region_with (first
    | (go_at_call 37; (with_reducible refine (t37 _ _ _).mono ?_); rintro e w1 ⟨rfl, hu⟩; have e0 := cell_up2 d0 hu; have e1 := cell_up2 d1 hu)
    | (go_at_call 36; (with_reducible refine (t36 _ _ _ _ _ H1.out H2.out).mono ?_); rintro e w2 ⟨rfl, hu2⟩))
  all_goals go_wp2
  all_goals (go_ret; exact ⟨rfl, ((HU.out.trans (Up.drewN W 1)).trans hu.out).trans hu2.out⟩)
end Go.Proofs.Ytfifdngcdknbbaa
