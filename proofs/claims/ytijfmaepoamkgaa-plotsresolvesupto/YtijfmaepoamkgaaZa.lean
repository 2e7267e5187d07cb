/- How the reference puts plots into order: two of them. -/
import Derived.Test.YtijfmaepoamkgaaSa
import Derived.Test.YtijfmaepoamkgaaYa
import Derived.Test.YtijfmaepoamkgaaTa
namespace Go.Proofs.Ytijfmaepoamkgaa
open Go.ChangeShapes Go.WideShapes Go.ChangeAt Go.RowKit Go.Fl Go.Sort
attribute [local go_sem] run_store_float call53 run_neg fold_eq fold_ne fold_lt fold_gt abs_eq

theorem t61 {x y : Nat} (hx : x < 2 ^ 64) (hy : y < 2 ^ 64) (w : World) : Calls Try.prog 61 #[.float .f64 x, .float .f64 y] w fun e w' => e = .returned (.int .i64 (cmpN (fall x) (fall y))) ∧ w' = w := by
  have C1 : Hid (∀ w, Calls Try.prog 62 #[.float .f64 x, .float .f64 y] w fun e w' => e = .returned (.int .i64 (cmpK x y)) ∧ w' = w) := fun w => t62 x y w hx hy
  have C2 : Hid (∀ w, Calls Try.prog 62 #[.float .f64 y, .float .f64 x] w fun e w' => e = .returned (.int .i64 (cmpK y x)) ∧ w' = w) := fun w => t62 y x w hy hx
  rw [← power_cmp hx hy]
  have e1 : eqF (ab x) (ab x) = !isN x := eqF_self x
  have e2 : eqF (ab y) (ab y) = !isN y := eqF_self y
  clear hx hy
  cases ex : isN x <;> cases ey : isN y <;> rw [ex] at e1 <;> rw [ey] at e2 <;> simp only [Bool.not_true, Bool.not_false] at e1 e2
  · simp only [Bool.false_eq_true, or_self, if_false]
    go_enter Try.func61, Try.ntmps61
    go_wp2_with (go_at_call 62; (with_reducible refine (C2.out _).mono ?_); rintro e w' ⟨rfl, hw⟩; subst w')
    go_ret
    exact ⟨rfl, rfl⟩
  all_goals
    simp only [Bool.false_eq_true, or_true, true_or, or_self, if_true]
    go_enter Try.func61, Try.ntmps61
    go_wp2_with (go_at_call 62; (with_reducible refine (C1.out _).mono ?_); rintro e w' ⟨rfl, hw⟩; subst w')
    go_ret
    exact ⟨rfl, rfl⟩
set_option maxRecDepth 20000 in
set_option maxHeartbeats 2000000 in
theorem t39 {x y : Plt} (hx : x.Fit) (hy : y.Fit) (w : World) : Calls Try.prog 39 #[.agg #[.float .f64 x.r, .float .f64 x.s, .float .f64 x.p, .float .f64 x.b, .float .f64 x.t], .agg #[.float .f64 y.r, .float .f64 y.s, .float .f64 y.p, .float .f64 y.b, .float .f64 y.t]] w fun e w' => e = .returned (.int .i64 (cmp5 x y)) ∧ Hid (Up w w') := by
  have D1 : Hid (∀ w, Calls Try.prog 61 #[.float .f64 x.p, .float .f64 y.p] w fun e w' => e = .returned (.int .i64 (cmpN (fall x.p) (fall y.p))) ∧ w' = w) := fun w => t61 hx.p hy.p w
  have D2 : Hid (∀ w, Calls Try.prog 62 #[.float .f64 x.r, .float .f64 y.r] w fun e w' => e = .returned (.int .i64 (cmpN (key x.r) (key y.r))) ∧ w' = w) := fun w => t62 x.r y.r w hx.r hy.r
  have D3 : Hid (∀ w, Calls Try.prog 62 #[.float .f64 x.s, .float .f64 y.s] w fun e w' => e = .returned (.int .i64 (cmpN (key x.s) (key y.s))) ∧ w' = w) := fun w => t62 x.s y.s w hx.s hy.s
  have D4 : Hid (∀ w, Calls Try.prog 62 #[.float .f64 x.b, .float .f64 y.b] w fun e w' => e = .returned (.int .i64 (cmpN (key x.b) (key y.b))) ∧ w' = w) := fun w => t62 x.b y.b w hx.b hy.b
  have D5 : Hid (∀ w, Calls Try.prog 62 #[.float .f64 x.t, .float .f64 y.t] w fun e w' => e = .returned (.int .i64 (cmpN (key x.t) (key y.t))) ∧ w' = w) := fun w => t62 x.t y.t w hx.t hy.t
  have HX := (Bk.new w 28 (.float .f64 x.r) (.float .f64 x.s) (.float .f64 x.p) (.float .f64 x.b) (.float .f64 x.t)).up (Up.alloc _ (.cells #[.float .f64 y.r, .float .f64 y.s, .float .f64 y.p, .float .f64 y.b, .float .f64 y.t] 28))
  have HY := Bk.new (w.alloc (.cells #[.float .f64 x.r, .float .f64 x.s, .float .f64 x.p, .float .f64 x.b, .float .f64 x.t] 28)) 28 (.float .f64 y.r) (.float .f64 y.s) (.float .f64 y.p) (.float .f64 y.b) (.float .f64 y.t)
  rw [show (w.alloc (.cells #[.float .f64 x.r, .float .f64 x.s, .float .f64 x.p, .float .f64 x.b, .float .f64 x.t] 28)).heap.size = w.heap.size + 1 by simp] at HY
  obtain ⟨a0, a1, a2, a3, a4⟩ := HX.cells
  obtain ⟨b0, b1, b2, b3, b4⟩ := HY.cells
  clear hx hy HX HY
  unfold cmp5
  generalize cmpN (fall x.p) (fall y.p) = v1 at *
  generalize cmpN (key x.r) (key y.r) = v2 at *
  generalize cmpN (key x.s) (key y.s) = v3 at *
  generalize cmpN (key x.b) (key y.b) = v4 at *
  generalize cmpN (key x.t) (key y.t) = v5 at *
  by_cases h1 : v1 = 0
  · subst h1
    by_cases h2 : v2 = 0
    · subst h2
      by_cases h3 : v3 = 0
      · subst h3
        by_cases h4 : v4 = 0
        · subst h4
          go_enter Try.func39, Try.ntmps39
          go_wp2_with (first
              | (go_at_call 61; (with_reducible refine (D1.out _).mono ?_); rintro e w' ⟨rfl, hw⟩; subst w')
              | (go_at_call 62; (with_reducible refine (D2.out _).mono ?_); rintro e w' ⟨rfl, hw⟩; subst w')
              | (go_at_call 62; (with_reducible refine (D3.out _).mono ?_); rintro e w' ⟨rfl, hw⟩; subst w')
              | (go_at_call 62; (with_reducible refine (D4.out _).mono ?_); rintro e w' ⟨rfl, hw⟩; subst w')
              | (go_at_call 62; (with_reducible refine (D5.out _).mono ?_); rintro e w' ⟨rfl, hw⟩; subst w'))
          go_ret
          exact ⟨by simp [orI], (Up.alloc _ _).trans (Up.alloc _ _)⟩
        · have g4 : (v4 == 0) = false := beq_false_of_ne h4
          go_enter Try.func39, Try.ntmps39
          go_wp2_with (first
              | (go_at_call 61; (with_reducible refine (D1.out _).mono ?_); rintro e w' ⟨rfl, hw⟩; subst w')
              | (go_at_call 62; (with_reducible refine (D2.out _).mono ?_); rintro e w' ⟨rfl, hw⟩; subst w')
              | (go_at_call 62; (with_reducible refine (D3.out _).mono ?_); rintro e w' ⟨rfl, hw⟩; subst w')
              | (go_at_call 62; (with_reducible refine (D4.out _).mono ?_); rintro e w' ⟨rfl, hw⟩; subst w')
              | (go_at_call 62; (with_reducible refine (D5.out _).mono ?_); rintro e w' ⟨rfl, hw⟩; subst w'))
          go_ret
          exact ⟨by simp [orI, h4], (Up.alloc _ _).trans (Up.alloc _ _)⟩
      · have g3 : (v3 == 0) = false := beq_false_of_ne h3
        go_enter Try.func39, Try.ntmps39
        go_wp2_with (first
            | (go_at_call 61; (with_reducible refine (D1.out _).mono ?_); rintro e w' ⟨rfl, hw⟩; subst w')
            | (go_at_call 62; (with_reducible refine (D2.out _).mono ?_); rintro e w' ⟨rfl, hw⟩; subst w')
            | (go_at_call 62; (with_reducible refine (D3.out _).mono ?_); rintro e w' ⟨rfl, hw⟩; subst w')
            | (go_at_call 62; (with_reducible refine (D4.out _).mono ?_); rintro e w' ⟨rfl, hw⟩; subst w')
            | (go_at_call 62; (with_reducible refine (D5.out _).mono ?_); rintro e w' ⟨rfl, hw⟩; subst w'))
        go_ret
        exact ⟨by simp [orI, h3], (Up.alloc _ _).trans (Up.alloc _ _)⟩
    · have g2 : (v2 == 0) = false := beq_false_of_ne h2
      go_enter Try.func39, Try.ntmps39
      go_wp2_with (first
          | (go_at_call 61; (with_reducible refine (D1.out _).mono ?_); rintro e w' ⟨rfl, hw⟩; subst w')
          | (go_at_call 62; (with_reducible refine (D2.out _).mono ?_); rintro e w' ⟨rfl, hw⟩; subst w')
          | (go_at_call 62; (with_reducible refine (D3.out _).mono ?_); rintro e w' ⟨rfl, hw⟩; subst w')
          | (go_at_call 62; (with_reducible refine (D4.out _).mono ?_); rintro e w' ⟨rfl, hw⟩; subst w')
          | (go_at_call 62; (with_reducible refine (D5.out _).mono ?_); rintro e w' ⟨rfl, hw⟩; subst w'))
      go_ret
      exact ⟨by simp [orI, h2], (Up.alloc _ _).trans (Up.alloc _ _)⟩
  · have g1 : (v1 == 0) = false := beq_false_of_ne h1
    go_enter Try.func39, Try.ntmps39
    go_wp2_with (first
        | (go_at_call 61; (with_reducible refine (D1.out _).mono ?_); rintro e w' ⟨rfl, hw⟩; subst w')
        | (go_at_call 62; (with_reducible refine (D2.out _).mono ?_); rintro e w' ⟨rfl, hw⟩; subst w')
        | (go_at_call 62; (with_reducible refine (D3.out _).mono ?_); rintro e w' ⟨rfl, hw⟩; subst w')
        | (go_at_call 62; (with_reducible refine (D4.out _).mono ?_); rintro e w' ⟨rfl, hw⟩; subst w')
        | (go_at_call 62; (with_reducible refine (D5.out _).mono ?_); rintro e w' ⟨rfl, hw⟩; subst w'))
    go_ret
    exact ⟨by simp [orI, h1], (Up.alloc _ _).trans (Up.alloc _ _)⟩
set_option maxRecDepth 20000 in
/-- Two lists of plots, alike one by one. -/
theorem t21 {w : World} {p q : Option Addr} {n c d : Nat} {P Q : Nat → Plt} (hP : 0 < n → ∃ b o, p = some ⟨b, o, none⟩ ∧ ∀ i, i < n → P5 w b (o + i * 5) (P i)) (hQ : 0 < n → ∃ b o, q = some ⟨b, o, none⟩ ∧ ∀ i, i < n → P5 w b (o + i * 5) (Q i)) (few : n ≤ 1000000) (h : ∀ i, i < n → (P i).ab = (Q i).ab) : Calls Try.prog 21 #[.slice p n c, .slice q n d] w fun e w' => e = .returned (.bool true) ∧ Hid (Up w w') := by
  have HP : Hid (0 < n → ∃ b o, p = some ⟨b, o, none⟩ ∧ ∀ i, i < n → P5 w b (o + i * 5) (P i)) := hP
  have HQ : Hid (0 < n → ∃ b o, q = some ⟨b, o, none⟩ ∧ ∀ i, i < n → P5 w b (o + i * 5) (Q i)) := hQ
  have HS : Hid (∀ i, i < n → (P i).ab = (Q i).ab) := h
  clear hP hQ h
  go_enter Try.func21, Try.ntmps21
  go_wp2_with fail
  go_loopw [5, 6] (fun v5 _ wr => ∃ i : Nat, i ≤ n ∧ v5 = .int .i64 i ∧ Hid (Up w wr)) (fun v5 _ _ => n - (intOf v5).toNat)
  case atStart => exact ⟨0, by omega, rfl, Up.refl _⟩
  case round =>
    obtain ⟨i, hi, rfl, HU⟩ := hrel
    rename World => wr
    by_cases hlt : i < n
    · obtain ⟨b, o, rfl, h1⟩ := HP.out (by omega)
      obtain ⟨b', o', rfl, h2⟩ := HQ.out (by omega)
      have h5 := (h1 i hlt).up HU.out
      have h6 := (h2 i hlt).up HU.out
      have hs := HS.out i hlt
      have C : Hid (∀ W, Calls Try.prog 11 #[.agg #[.float .f64 (P i).r, .float .f64 (P i).s, .float .f64 (P i).p, .float .f64 (P i).b, .float .f64 (P i).t], .agg #[.float .f64 (Q i).r, .float .f64 (Q i).s, .float .f64 (Q i).p, .float .f64 (Q i).b, .float .f64 (Q i).t]] W fun e w' => e = .returned (.bool true) ∧ Hid (Up W w')) := fun W => t11 hs W
      generalize P i = x at *
      generalize Q i = y at *
      have HSS : Hid (P5 wr.drew b (o + i * 5) x ∧ P5 wr.drew b' (o' + i * 5) y) := ⟨h5.up (Up.drew _), h6.up (Up.drew _)⟩
      have hil : (i : Int) < n := by omega
      clear h1 h2 h5 h6 hs
      go_wp2_with fail
      refine wp_region_shut 8 [(0, none), (1, none), (2, none), (3, some false), (4, none), (5, none), (6, none), (7, some false)] (fun w' => P5 w' b (o + i * 5) x ∧ P5 w' b' (o' + i * 5) y) (by kernel_rfl) (by decide) rfl (by kernel_rfl) (fun _ _ d _ _ h => by cases d <;> exact h) HSS.out ?_
      refine OrdS.looks (.slice (some ⟨b, o, none⟩) n c) (some 18) _ rfl rfl (Or.inl ⟨by kernel_rfl, fun w' hS => ?_⟩) ?_
      · go_simp
      refine OrdS.looks (.int .i64 i) (some 19) _ rfl rfl (Or.inl ⟨by kernel_rfl, fun w' hS => ?_⟩) ?_
      · go_simp
      refine OrdS.looks (.pointer (some ⟨b, o + i * 5, none⟩)) (some 20) _ rfl rfl (Or.inl ⟨by kernel_rfl, fun w' hS => ?_⟩) ?_
      · go_simp
      refine OrdS.reads (.agg #[.float .f64 x.r, .float .f64 x.s, .float .f64 x.p, .float .f64 x.b, .float .f64 x.t]) (some 21) _ rfl rfl (Or.inl ⟨by kernel_rfl, fun w' hS => ?_⟩) ?_
      · obtain ⟨⟨a0, a1, a2, a3, a4⟩, ⟨b0, b1, b2, b3, b4⟩⟩ := hS
        go_simp
      refine OrdS.looks (.slice (some ⟨b', o', none⟩) n d) (some 22) _ rfl rfl (Or.inl ⟨by kernel_rfl, fun w' hS => ?_⟩) ?_
      · go_simp
      refine OrdS.looks (.int .i64 i) (some 23) _ rfl rfl (Or.inl ⟨by kernel_rfl, fun w' hS => ?_⟩) ?_
      · go_simp
      refine OrdS.looks (.pointer (some ⟨b', o' + i * 5, none⟩)) (some 24) _ rfl rfl (Or.inl ⟨by kernel_rfl, fun w' hS => ?_⟩) ?_
      · go_simp
      refine OrdS.reads (.agg #[.float .f64 y.r, .float .f64 y.s, .float .f64 y.p, .float .f64 y.b, .float .f64 y.t]) (some 25) _ rfl rfl (Or.inl ⟨by kernel_rfl, fun w' hS => ?_⟩) ?_
      · obtain ⟨⟨a0, a1, a2, a3, a4⟩, ⟨b0, b1, b2, b3, b4⟩⟩ := hS
        go_simp
      refine OrdS.ends ?_
      simp only [List.drop_succ_cons, List.drop_zero, Act.put, List.setIfInBounds_toArray]
      go_wp2_with (go_at_call 11; (with_reducible refine (C.out _).mono ?_); rintro e w3 ⟨rfl, HU3⟩)
      go_roundw
      case rel => exact ⟨i + 1, by omega, by go_num, HU.out.trans ((Up.drew _).trans HU3.out)⟩
      case measure => simp [intOf]; omega
    · obtain rfl : i = n := by omega
      go_wp2
      go_ret
      exact ⟨rfl, HU⟩
end Go.Proofs.Ytijfmaepoamkgaa
