/- Plots that are the same, as the law asks. -/
import Derived.Test.YtijfmaepoamkgaaSa
import Derived.Test.YtijfmaepoamkgaaYa
namespace Go.Proofs.Ytijfmaepoamkgaa
open Go.ChangeShapes Go.WideShapes Go.ChangeAt Go.RowKit Go.Fl Go.Sort
attribute [local go_sem] run_store_float call53 run_neg fold_eq fold_ne fold_lt fold_gt abs_eq

theorem t67 {x y : Nat} (h : key x = key y) (hx : x < 2 ^ 64) (hy : y < 2 ^ 64) (w : World) : Calls Try.prog 67 #[.complex .f64 x 0, .complex .f64 y 0] w fun e w' => e = .returned (.bool true) ∧ w' = w := by
  have CX : Hid (∀ w, Calls Try.prog 76 #[.float .f64 x] w fun e w' => e = .returned (.int .u64 (key y)) ∧ w' = w) := fun w => by rw [← h]; exact t76 x w hx
  have CY : Hid (∀ w, Calls Try.prog 76 #[.float .f64 y] w fun e w' => e = .returned (.int .u64 (key y)) ∧ w' = w) := fun w => t76 y w hy
  have C0 : Hid (∀ w, Calls Try.prog 76 #[.float .f64 0] w fun e w' => e = .returned (.int .u64 (key 0)) ∧ w' = w) := fun w => t76 0 w (by omega)
  clear h hx hy
  generalize key y = k at *
  generalize key 0 = k0 at *
  go_enter Try.func67, Try.ntmps67
  go_wp2_with (first
    | (go_at_call 76; (with_reducible refine (CX.out _).mono ?_); rintro e w' ⟨rfl, hw⟩; subst w')
    | (go_at_call 76; (with_reducible refine (CY.out _).mono ?_); rintro e w' ⟨rfl, hw⟩; subst w')
    | (go_at_call 76; (with_reducible refine (C0.out _).mono ?_); rintro e w' ⟨rfl, hw⟩; subst w'))
  go_ret
  exact ⟨by simp, rfl⟩
theorem t47 {x y : Nat} (h : key x = key y) (hx : x < 2 ^ 64) (hy : y < 2 ^ 64) (w : World) : Calls Try.prog 47 #[.float .f64 x, .float .f64 y] w fun e w' => e = .returned (.bool true) ∧ w' = w := by
  have C : Hid (∀ w, Calls Try.prog 67 #[.complex .f64 x 0, .complex .f64 y 0] w fun e w' => e = .returned (.bool true) ∧ w' = w) := fun w => t67 h hx hy w
  clear h hx hy
  go_enter Try.func47, Try.ntmps47
  go_wp2_with (go_at_call 67; (with_reducible refine (C.out _).mono ?_); rintro e w' ⟨rfl, hw⟩; subst w')
  go_ret
  exact ⟨rfl, rfl⟩
set_option maxRecDepth 20000 in
theorem t25 {x y : Plt} (h : rk x = rk y) (hx : x.Fit) (hy : y.Fit) (w : World) : Calls Try.prog 25 #[.agg #[.float .f64 x.r, .float .f64 x.s, .float .f64 x.p, .float .f64 x.b, .float .f64 x.t], .agg #[.float .f64 y.r, .float .f64 y.s, .float .f64 y.p, .float .f64 y.b, .float .f64 y.t]] w fun e w' => e = .returned (.bool true) ∧ Hid (Up w w') := by
  obtain ⟨k1, k2, k3, k4, k5⟩ := rk_parts hx hy h
  have D1 : Hid (∀ w, Calls Try.prog 47 #[.float .f64 x.r, .float .f64 y.r] w fun e w' => e = .returned (.bool true) ∧ w' = w) := fun w => t47 k1 hx.r hy.r w
  have D2 : Hid (∀ w, Calls Try.prog 47 #[.float .f64 x.s, .float .f64 y.s] w fun e w' => e = .returned (.bool true) ∧ w' = w) := fun w => t47 k2 hx.s hy.s w
  have D3 : Hid (∀ w, Calls Try.prog 47 #[.float .f64 x.p, .float .f64 y.p] w fun e w' => e = .returned (.bool true) ∧ w' = w) := fun w => t47 k3 hx.p hy.p w
  have D4 : Hid (∀ w, Calls Try.prog 47 #[.float .f64 x.b, .float .f64 y.b] w fun e w' => e = .returned (.bool true) ∧ w' = w) := fun w => t47 k4 hx.b hy.b w
  have D5 : Hid (∀ w, Calls Try.prog 47 #[.float .f64 x.t, .float .f64 y.t] w fun e w' => e = .returned (.bool true) ∧ w' = w) := fun w => t47 k5 hx.t hy.t w
  have HX := (Bk.new w 28 (.float .f64 x.r) (.float .f64 x.s) (.float .f64 x.p) (.float .f64 x.b) (.float .f64 x.t)).up (Up.alloc _ (.cells #[.float .f64 y.r, .float .f64 y.s, .float .f64 y.p, .float .f64 y.b, .float .f64 y.t] 28))
  have HY := Bk.new (w.alloc (.cells #[.float .f64 x.r, .float .f64 x.s, .float .f64 x.p, .float .f64 x.b, .float .f64 x.t] 28)) 28 (.float .f64 y.r) (.float .f64 y.s) (.float .f64 y.p) (.float .f64 y.b) (.float .f64 y.t)
  rw [show (w.alloc (.cells #[.float .f64 x.r, .float .f64 x.s, .float .f64 x.p, .float .f64 x.b, .float .f64 x.t] 28)).heap.size = w.heap.size + 1 by simp] at HY
  obtain ⟨a0, a1, a2, a3, a4⟩ := HX.cells
  obtain ⟨b0, b1, b2, b3, b4⟩ := HY.cells
  clear h hx hy HX HY k1 k2 k3 k4 k5
  go_enter Try.func25, Try.ntmps25
  go_wp2_with (first
    | (go_at_call 47; (with_reducible refine (D1.out _).mono ?_); rintro e w' ⟨rfl, hw⟩; subst w')
    | (go_at_call 47; (with_reducible refine (D2.out _).mono ?_); rintro e w' ⟨rfl, hw⟩; subst w')
    | (go_at_call 47; (with_reducible refine (D3.out _).mono ?_); rintro e w' ⟨rfl, hw⟩; subst w')
    | (go_at_call 47; (with_reducible refine (D4.out _).mono ?_); rintro e w' ⟨rfl, hw⟩; subst w')
    | (go_at_call 47; (with_reducible refine (D5.out _).mono ?_); rintro e w' ⟨rfl, hw⟩; subst w'))
  go_ret
  exact ⟨rfl, (Up.alloc _ _).trans (Up.alloc _ _)⟩
end Go.Proofs.Ytijfmaepoamkgaa
