/- Plots that are the same, as the law asks. -/
import Derived.Test.YtijfmaepoamkgabSa
import Derived.Test.YtijfmaepoamkgabSw
namespace Go.Proofs.Ytijfmaepoamkgab
open Go.ChangeShapes Go.WideShapes Go.ChangeAt Go.RowKit Go.Fl Go.Sort
attribute [local go_sem] run_store_float call18 run_neg fold_eq fold_ne fold_lt fold_gt abs_eq

theorem t58n (x : Nat) (w : World) (hN : isN x = true) : Calls Try.prog 58 #[.float .f64 x] w fun e w' => e = .returned (.int .u64 (key x)) ∧ w' = w := by
  have hk : key x = 18446744073709551615 := key_nan hN
  rw [hk]
  go_enter Try.func58, Try.ntmps58
  go_wp2_with (go_at_call 49; refine (t49 _ _).mono ?_; rintro e w' ⟨rfl, rfl⟩; rw [hN])
  go_ret
  exact ⟨rfl, rfl⟩
theorem t58g (x : Nat) (w : World) (h : isN x = true ∨ x < 2 ^ 64) : Calls Try.prog 58 #[.float .f64 x] w fun e w' => e = .returned (.int .u64 (key x)) ∧ w' = w := by
  rcases h with h | h
  · exact t58n x w h
  · exact t58 x w h
theorem key_ab {x y : Nat} (h : ab x = ab y) : key x = key y := by
  cases hx : isN x
  · cases hy : isN y
    · rw [ab_some hx, ab_some hy] at h
      rw [Option.some.inj h]
    · rw [ab_some hx, ab_none hy] at h; cases h
  · cases hy : isN y
    · rw [ab_none hx, ab_some hy] at h; cases h
    · rw [key_nan hx, key_nan hy]
theorem fit_ab {x y : Nat} (h : ab x = ab y) (hy : y < 2 ^ 64) : isN x = true ∨ x < 2 ^ 64 := by
  cases hx : isN x
  · right
    cases hn : isN y
    · rw [ab_some hx, ab_some hn] at h
      rw [Option.some.inj h]; exact hy
    · rw [ab_some hx, ab_none hn] at h; cases h
  · exact Or.inl rfl
theorem t42 {x y : Nat} (h : ab x = ab y) (hy : y < 2 ^ 64) (w : World) : Calls Try.prog 42 #[.complex .f64 x 0, .complex .f64 y 0] w fun e w' => e = .returned (.bool true) ∧ w' = w := by
  have CX : Hid (∀ w, Calls Try.prog 58 #[.float .f64 x] w fun e w' => e = .returned (.int .u64 (key y)) ∧ w' = w) := fun w => by rw [← key_ab h]; exact t58g x w (fit_ab h hy)
  have CY : Hid (∀ w, Calls Try.prog 58 #[.float .f64 y] w fun e w' => e = .returned (.int .u64 (key y)) ∧ w' = w) := fun w => t58 y w hy
  have C0 : Hid (∀ w, Calls Try.prog 58 #[.float .f64 0] w fun e w' => e = .returned (.int .u64 (key 0)) ∧ w' = w) := fun w => t58 0 w (by omega)
  clear h hy
  generalize key y = k at *
  generalize key 0 = k0 at *
  go_enter Try.func42, Try.ntmps42
  go_wp2_with (first
    | (go_at_call 58; (with_reducible refine (CX.out _).mono ?_); rintro e w' ⟨rfl, hw⟩; subst w')
    | (go_at_call 58; (with_reducible refine (CY.out _).mono ?_); rintro e w' ⟨rfl, hw⟩; subst w')
    | (go_at_call 58; (with_reducible refine (C0.out _).mono ?_); rintro e w' ⟨rfl, hw⟩; subst w'))
  go_ret
  exact ⟨by simp, rfl⟩
theorem t24 {x y : Nat} (h : ab x = ab y) (hy : y < 2 ^ 64) (w : World) : Calls Try.prog 24 #[.float .f64 x, .float .f64 y] w fun e w' => e = .returned (.bool true) ∧ w' = w := by
  have C : Hid (∀ w, Calls Try.prog 42 #[.complex .f64 x 0, .complex .f64 y 0] w fun e w' => e = .returned (.bool true) ∧ w' = w) := fun w => t42 h hy w
  clear h hy
  go_enter Try.func24, Try.ntmps24
  go_wp2_with (go_at_call 42; (with_reducible refine (C.out _).mono ?_); rintro e w' ⟨rfl, hw⟩; subst w')
  go_ret
  exact ⟨rfl, rfl⟩
set_option maxRecDepth 20000 in
theorem t9 {x y : Plt} (h : Told y (ab y.p) x) (hy : y.Fit) (w : World) : Calls Try.prog 9 #[.agg #[.float .f64 x.r, .float .f64 x.s, .float .f64 x.p, .float .f64 x.b, .float .f64 x.t], .agg #[.float .f64 y.r, .float .f64 y.s, .float .f64 y.p, .float .f64 y.b, .float .f64 y.t]] w fun e w' => e = .returned (.bool true) ∧ Hid (Up w w') := by
  have D1 : Hid (∀ w, Calls Try.prog 24 #[.float .f64 x.r, .float .f64 y.r] w fun e w' => e = .returned (.bool true) ∧ w' = w) := fun w => t24 (by rw [h.r]) hy.r w
  have D2 : Hid (∀ w, Calls Try.prog 24 #[.float .f64 x.s, .float .f64 y.s] w fun e w' => e = .returned (.bool true) ∧ w' = w) := fun w => t24 (by rw [h.s]) hy.s w
  have D3 : Hid (∀ w, Calls Try.prog 24 #[.float .f64 x.p, .float .f64 y.p] w fun e w' => e = .returned (.bool true) ∧ w' = w) := fun w => t24 h.p hy.p w
  have D4 : Hid (∀ w, Calls Try.prog 24 #[.float .f64 x.b, .float .f64 y.b] w fun e w' => e = .returned (.bool true) ∧ w' = w) := fun w => t24 (by rw [h.b]) hy.b w
  have D5 : Hid (∀ w, Calls Try.prog 24 #[.float .f64 x.t, .float .f64 y.t] w fun e w' => e = .returned (.bool true) ∧ w' = w) := fun w => t24 (by rw [h.t]) hy.t w
  have HX := (Bk.new w 27 (.float .f64 x.r) (.float .f64 x.s) (.float .f64 x.p) (.float .f64 x.b) (.float .f64 x.t)).up (Up.alloc _ (.cells #[.float .f64 y.r, .float .f64 y.s, .float .f64 y.p, .float .f64 y.b, .float .f64 y.t] 27))
  have HY := Bk.new (w.alloc (.cells #[.float .f64 x.r, .float .f64 x.s, .float .f64 x.p, .float .f64 x.b, .float .f64 x.t] 27)) 27 (.float .f64 y.r) (.float .f64 y.s) (.float .f64 y.p) (.float .f64 y.b) (.float .f64 y.t)
  rw [show (w.alloc (.cells #[.float .f64 x.r, .float .f64 x.s, .float .f64 x.p, .float .f64 x.b, .float .f64 x.t] 27)).heap.size = w.heap.size + 1 by simp] at HY
  obtain ⟨a0, a1, a2, a3, a4⟩ := HX.cells
  obtain ⟨b0, b1, b2, b3, b4⟩ := HY.cells
  clear h hy HX HY
  go_enter Try.func9, Try.ntmps9
  go_wp2_with (first
    | (go_at_call 24; (with_reducible refine (D1.out _).mono ?_); rintro e w' ⟨rfl, hw⟩; subst w')
    | (go_at_call 24; (with_reducible refine (D2.out _).mono ?_); rintro e w' ⟨rfl, hw⟩; subst w')
    | (go_at_call 24; (with_reducible refine (D3.out _).mono ?_); rintro e w' ⟨rfl, hw⟩; subst w')
    | (go_at_call 24; (with_reducible refine (D4.out _).mono ?_); rintro e w' ⟨rfl, hw⟩; subst w')
    | (go_at_call 24; (with_reducible refine (D5.out _).mono ?_); rintro e w' ⟨rfl, hw⟩; subst w'))
  go_ret
  exact ⟨rfl, (Up.alloc _ _).trans (Up.alloc _ _)⟩
end Go.Proofs.Ytijfmaepoamkgab
