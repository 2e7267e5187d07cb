/- PlaceTurns. -/
import Derived.Test.YtlgejebgkkmacaaPm
namespace Go.Proofs.Ytlgejebgkkmacaa
open Go.ChangeShapes Go.WideShapes Go.ChangeAt Go.RowKit Go.Fl Ieee
attribute [local go_sem] run_store_float run_store_complex call39 call50 run_neg fold_eq fold_ne fold_lt fold_gt abs_eq

theorem t14k {x y : Nat} (h : ab x = ab y) (w : World) : Calls Try.prog 14 #[.float .f64 x, .float .f64 y] w fun e w' => e = .returned (.bool true) ∧ w' = w := by
  have := t14 x y w
  rw [h, beq_self_eq_true] at this
  exact this
theorem t11k {x y x' y' : Nat} (h1 : ab x = ab x') (h2 : ab y = ab y') (w : World) : Calls Try.prog 11 #[.agg #[.float .f64 x, .float .f64 y], .agg #[.float .f64 x', .float .f64 y']] w (VU w (.bool true)) := by
  replace h1 : Hid _ := h1
  replace h2 : Hid _ := h2
  go_enter Try.func11, Try.ntmps11
  go_wp2_with (first
    | (go_at_call 14; (with_reducible refine (t14k h1.out _).mono ?_); rintro e w' ⟨rfl, hw⟩; subst w')
    | (go_at_call 14; (with_reducible refine (t14k h2.out _).mono ?_); rintro e w' ⟨rfl, hw⟩; subst w'))
  go_ret
  exact ⟨rfl, (Up.alloc _ _).trans (Up.alloc _ _)⟩
/-- The world of a call that is handed a site and a point. -/
abbrev wT (w : World) (ax ay t x y : Nat) : World := (w.alloc (.cells #[.float .f64 ax, .float .f64 ay, .float .f64 t] 26)).alloc (.cells #[.float .f64 x, .float .f64 y] 24)
theorem wT_cells {w v : World} {ax ay t x y : Nat} (hu : Up (wT w ax ay t x y) v) : v.cell? ⟨w.heap.size, 0, none⟩ = some (.float .f64 ax) ∧ v.cell? ⟨w.heap.size, 1, none⟩ = some (.float .f64 ay) ∧ v.cell? ⟨w.heap.size, 2, none⟩ = some (.float .f64 t) ∧ v.cell? ⟨w.heap.size + 1, 0, none⟩ = some (.float .f64 x) ∧ v.cell? ⟨w.heap.size + 1, 1, none⟩ = some (.float .f64 y) := by
  have e1 : (wT w ax ay t x y).heap[w.heap.size]? = some (.cells #[.float .f64 ax, .float .f64 ay, .float .f64 t] 26) := kept2 (heap_alloc_last w _) (Up.alloc _ _)
  have e2 : (wT w ax ay t x y).heap[w.heap.size + 1]? = some (.cells #[.float .f64 x, .float .f64 y] 24) := second w _ _
  have f1 := kept2 e1 hu
  have f2 := kept2 e2 hu
  exact ⟨by simp [World.cell?, f1], by simp [World.cell?, f1], by simp [World.cell?, f1], by simp [World.cell?, f2], by simp [World.cell?, f2]⟩
set_option maxHeartbeats 8000000 in
set_option maxRecDepth 20000 in
theorem t3 (m b ax ay t x y : Nat) (n : Int) (w : World) (hn : -9223372036854775808 ≤ n) (hn' : n ≤ 9223372036854775807) : Calls Try.prog 3 #[.float .f64 m, .float .f64 b, .agg #[.float .f64 ax, .float .f64 ay, .float .f64 t], .agg #[.float .f64 x, .float .f64 y], .int .i64 n] w (TU w) := by
  obtain ⟨s, hs⟩ : ∃ s, secF (ab b) n = s := ⟨_, rfl⟩
  obtain ⟨k, e9⟩ := s
  have HS1 : Hid (∀ w, Calls Try.prog 15 #[.float .f64 b, .int .i64 n] w (VU w (.tuple #[.int .i64 k, .int .i64 e9]))) := fun w => i2_some (t15 b n w hn hn') hs
  have HS2 : Hid (∀ w, Calls Try.prog 16 #[.float .f64 b, .int .i64 n] w (VU w (.tuple #[.int .i64 k, .int .i64 e9]))) := fun w => i2_some (t16 b n w hn hn') hs
  clear hs
  go_enter Try.func3, Try.ntmps3
  go_upto_region 7 with (first
    | (go_at_call 9; (with_reducible refine (t9 _ _ _).mono ?_); rintro e w1 ⟨r1, s1, rfl, hr1, hs1, u1⟩; obtain ⟨_, _, _, k0, k1⟩ := wT_cells u1; replace u1 : Hid _ := u1)
    | (go_at_call 10; (with_reducible refine (t10 _ _ _).mono ?_); rintro e w2 ⟨r2, s2, rfl, hr2, hs2, u2⟩; replace u2 : Hid _ := u2)
    | (go_at_call 12; (with_reducible refine (t12 _ _ _).mono ?_); rintro e w3 ⟨r3, s3, rfl, hr3, hs3, u3⟩; replace u3 : Hid _ := u3)
    | (go_at_call 13; (with_reducible refine (t13 _ _ _).mono ?_); rintro e w4 ⟨r4, s4, rfl, hr4, hs4, u4⟩; replace u4 : Hid _ := u4)
    | (go_at_call 11; (with_reducible refine (t11k (hr3.out.trans hr4.out.symm) (hs3.out.trans hs4.out.symm) _).mono ?_); rintro e w5 ⟨rfl, u5⟩; replace u5 : Hid _ := u5)
    | (go_at_call 14; (with_reducible refine (t14k (hr1.out.trans hr2.out.symm) _).mono ?_); rintro e w' ⟨rfl, hw⟩; subst w')
    | (go_at_call 14; (with_reducible refine (t14k (hs2.out.trans hs1.out.symm) _).mono ?_); rintro e w' ⟨rfl, hw⟩; subst w')
    | (go_at_call 15; (with_reducible refine (HS1.out _).mono ?_); rintro e w6 ⟨rfl, u6⟩; replace u6 : Hid _ := u6)
    | (go_at_call 16; (with_reducible refine (HS2.out _).mono ?_); rintro e w7 ⟨rfl, u7⟩; replace u7 : Hid _ := u7))
  have HB : Hid (Up (wT w ax ay t x y) w7) := Up.trans (Up.trans (Up.trans (Up.trans (Up.trans (Up.trans u1.out u2.out) u3.out) u4.out) u5.out) u6.out) u7.out
  clear u1 u2 u3 u4 u5 u6 u7 k0 k1 HS1 HS2
  refine wp_region_up 29 [cV (.agg #[.float .f64 ax, .float .f64 ay, .float .f64 t]), cV (.agg #[.float .f64 x, .float .f64 y]), cA (movX (ab ax) (ab t) (ab x) (ab y)) (movY (ab ay) (ab t) (ab x) (ab y)), cV (.agg #[.float .f64 ax, .float .f64 ay, .float .f64 t]), cV (.agg #[.float .f64 x, .float .f64 y]), cA (movX (ab ax) (ab t) (ab x) (ab y)) (movY (ab ay) (ab t) (ab x) (ab y)), cV (.bool true), cV (.bool true), cV (.agg #[.float .f64 ax, .float .f64 ay, .float .f64 t]), cV (.agg #[.float .f64 x, .float .f64 y]), cA (bakI (ab ax) (ab ay) (ab t) (ab x) (ab y)) (bakR (ab ax) (ab ay) (ab t) (ab x) (ab y)), cV (.agg #[.float .f64 ax, .float .f64 ay, .float .f64 t]), cV (.agg #[.float .f64 x, .float .f64 y]), cA (bakI (ab ax) (ab ay) (ab t) (ab x) (ab y)) (bakR (ab ax) (ab ay) (ab t) (ab x) (ab y)), cV (.bool true), cV (.bool true), cV (.bool true), cV (.int .i64 k), cV (.int .i64 k), cV (.bool true), cV (.bool true), cV (.bool true), cV (.int .i64 e9), cV (.int .i64 e9), cV (.bool true), cV (.bool true), cV (.bool true), cV (.bool true), cV (.bool true)] (by kernel_rfl) (by decide) rfl (by kernel_rfl) (by kernel_rfl) ⟨mV _, mV _, mA _ _, mV _, mV _, mA _ _, mV _, mV _, mV _, mV _, mA _ _, mV _, mV _, mA _ _, mV _, mV _, mV _, mV _, mV _, mV _, mV _, mV _, mV _, mV _, mV _, mV _, mV _, mV _, mV _, trivial⟩ ?_
  intro vals
  simp only [List.take_succ_cons, List.take_zero, valsN, FillL, Act.put, List.setIfInBounds_toArray, List.set_cons_succ, List.set_cons_zero, Nat.zero_add, Nat.reduceAdd]
  refine ⟨⟨fun v hu h => ?_, fun v hu h => ?_, fun v hu h => ?_, fun v hu h => ?_, fun v hu h => ?_, fun v hu h => ?_, fun v hu h => ?_, fun v hu h => ?_, fun v hu h => ?_, fun v hu h => ?_, fun v hu h => ?_, fun v hu h => ?_, fun v hu h => ?_, fun v hu h => ?_, fun v hu h => ?_, fun v hu h => ?_, fun v hu h => ?_, fun v hu h => ?_, fun v hu h => ?_, fun v hu h => ?_, fun v hu h => ?_, fun v hu h => ?_, fun v hu h => ?_, fun v hu h => ?_, fun v hu h => ?_, fun v hu h => ?_, fun v hu h => ?_, fun v hu h => ?_, fun v hu h => ?_, trivial⟩, fun v hu h => ?_⟩
  all_goals obtain ⟨c0, c1, c2, d0, d1⟩ := wT_cells (Up.trans HB.out hu)
  · refine UpO.is _ rfl rfl ?_
    go_simp
  · refine UpO.is _ rfl rfl ?_
    go_simp
  · have e0 : vals 0 = .agg #[.float .f64 ax, .float .f64 ay, .float .f64 t] := h 0 (by decide) (by kernel_rfl)
    have e1 : vals 1 = .agg #[.float .f64 x, .float .f64 y] := h 1 (by decide) (by kernel_rfl)
    refine UpO.call #[.agg #[.float .f64 ax, .float .f64 ay, .float .f64 t], .agg #[.float .f64 x, .float .f64 y]] rfl rfl (by rw [e0, e1]; kernel_rfl) (enters Try.func17 (by kernel_rfl) (by kernel_rfl) _ _) ?_
    exact (t17 _ _ _ _ _ _).mono sr_cA
  · refine UpO.is _ rfl rfl ?_
    go_simp
  · refine UpO.is _ rfl rfl ?_
    go_simp
  · have e3 : vals 3 = .agg #[.float .f64 ax, .float .f64 ay, .float .f64 t] := h 3 (by decide) (by kernel_rfl)
    have e4 : vals 4 = .agg #[.float .f64 x, .float .f64 y] := h 4 (by decide) (by kernel_rfl)
    refine UpO.call #[.agg #[.float .f64 ax, .float .f64 ay, .float .f64 t], .agg #[.float .f64 x, .float .f64 y]] rfl rfl (by rw [e3, e4]; kernel_rfl) (enters Try.func18 (by kernel_rfl) (by kernel_rfl) _ _) ?_
    exact (t18 _ _ _ _ _ _).mono sr_cA
  · obtain ⟨r2, i2, e2, hr2, hi2⟩ : cA (movX (ab ax) (ab t) (ab x) (ab y)) (movY (ab ay) (ab t) (ab x) (ab y)) (vals 2) v := h 2 (by decide) (by kernel_rfl)
    obtain ⟨r5, i5, e5, hr5, hi5⟩ : cA (movX (ab ax) (ab t) (ab x) (ab y)) (movY (ab ay) (ab t) (ab x) (ab y)) (vals 5) v := h 5 (by decide) (by kernel_rfl)
    refine UpO.call #[.agg #[.float .f64 r2, .float .f64 i2], .agg #[.float .f64 r5, .float .f64 i5]] rfl rfl (by rw [e2, e5]; kernel_rfl) (enters Try.func11 (by kernel_rfl) (by kernel_rfl) _ _) ?_
    exact (t11k (hr2.out.trans hr5.out.symm) (hi2.out.trans hi5.out.symm) _).mono vu_cV
  · have e6 : vals 6 = .bool true := h 6 (by decide) (by kernel_rfl)
    refine UpO.is _ rfl rfl ?_
    rw [e6]
    go_simp
  · have e7 : vals 7 = .bool true := h 7 (by decide) (by kernel_rfl)
    refine UpO.isW _ rfl (by rw [e7]; kernel_rfl) ?_
    rw [e7]
    go_simp
  · have e7 : vals 7 = .bool true := h 7 (by decide) (by kernel_rfl)
    refine UpO.isW _ rfl (by rw [e7]; kernel_rfl) ?_
    rw [e7]
    go_simp
  · have e7 : vals 7 = .bool true := h 7 (by decide) (by kernel_rfl)
    have e8 : vals 8 = .agg #[.float .f64 ax, .float .f64 ay, .float .f64 t] := h 8 (by decide) (by kernel_rfl)
    have e9 : vals 9 = .agg #[.float .f64 x, .float .f64 y] := h 9 (by decide) (by kernel_rfl)
    refine UpO.call #[.agg #[.float .f64 ax, .float .f64 ay, .float .f64 t], .agg #[.float .f64 x, .float .f64 y]] (by rw [e7, e8, e9]; kernel_rfl) rfl (by rw [e7, e8, e9]; kernel_rfl) (enters Try.func19 (by kernel_rfl) (by kernel_rfl) _ _) ?_
    exact (t19 _ _ _ _ _ _).mono sr_cA
  · have e7 : vals 7 = .bool true := h 7 (by decide) (by kernel_rfl)
    refine UpO.isW _ rfl (by rw [e7]; kernel_rfl) ?_
    rw [e7]
    go_simp
  · have e7 : vals 7 = .bool true := h 7 (by decide) (by kernel_rfl)
    refine UpO.isW _ rfl (by rw [e7]; kernel_rfl) ?_
    rw [e7]
    go_simp
  · have e7 : vals 7 = .bool true := h 7 (by decide) (by kernel_rfl)
    have e11 : vals 11 = .agg #[.float .f64 ax, .float .f64 ay, .float .f64 t] := h 11 (by decide) (by kernel_rfl)
    have e12 : vals 12 = .agg #[.float .f64 x, .float .f64 y] := h 12 (by decide) (by kernel_rfl)
    refine UpO.call #[.agg #[.float .f64 ax, .float .f64 ay, .float .f64 t], .agg #[.float .f64 x, .float .f64 y]] (by rw [e7, e11, e12]; kernel_rfl) rfl (by rw [e7, e11, e12]; kernel_rfl) (enters Try.func20 (by kernel_rfl) (by kernel_rfl) _ _) ?_
    exact (t20 _ _ _ _ _ _).mono sr_cA
  · have e7 : vals 7 = .bool true := h 7 (by decide) (by kernel_rfl)
    obtain ⟨r10, i10, e10, hr10, hi10⟩ : cA (bakI (ab ax) (ab ay) (ab t) (ab x) (ab y)) (bakR (ab ax) (ab ay) (ab t) (ab x) (ab y)) (vals 10) v := h 10 (by decide) (by kernel_rfl)
    obtain ⟨r13, i13, e13, hr13, hi13⟩ : cA (bakI (ab ax) (ab ay) (ab t) (ab x) (ab y)) (bakR (ab ax) (ab ay) (ab t) (ab x) (ab y)) (vals 13) v := h 13 (by decide) (by kernel_rfl)
    refine UpO.call #[.agg #[.float .f64 r10, .float .f64 i10], .agg #[.float .f64 r13, .float .f64 i13]] (by rw [e7, e10, e13]; kernel_rfl) rfl (by rw [e7, e10, e13]; kernel_rfl) (enters Try.func11 (by kernel_rfl) (by kernel_rfl) _ _) ?_
    exact (t11k (hr10.out.trans hr13.out.symm) (hi10.out.trans hi13.out.symm) _).mono vu_cV
  · have e7 : vals 7 = .bool true := h 7 (by decide) (by kernel_rfl)
    have e14 : vals 14 = .bool true := h 14 (by decide) (by kernel_rfl)
    refine UpO.is _ rfl rfl ?_
    rw [e7, e14]
    go_simp
  · have e15 : vals 15 = .bool true := h 15 (by decide) (by kernel_rfl)
    refine UpO.is _ rfl rfl ?_
    rw [e15]
    go_simp
  · have e16 : vals 16 = .bool true := h 16 (by decide) (by kernel_rfl)
    refine UpO.isW _ rfl (by rw [e16]; kernel_rfl) ?_
    rw [e16]
    go_simp
  · have e16 : vals 16 = .bool true := h 16 (by decide) (by kernel_rfl)
    refine UpO.isW _ rfl (by rw [e16]; kernel_rfl) ?_
    rw [e16]
    go_simp
  · have e16 : vals 16 = .bool true := h 16 (by decide) (by kernel_rfl)
    have e17 : vals 17 = .int .i64 k := h 17 (by decide) (by kernel_rfl)
    have e18 : vals 18 = .int .i64 k := h 18 (by decide) (by kernel_rfl)
    refine UpO.isW _ rfl (by rw [e16, e17, e18]; kernel_rfl) ?_
    rw [e16, e17, e18]
    go_simp
  · have e16 : vals 16 = .bool true := h 16 (by decide) (by kernel_rfl)
    have e19 : vals 19 = .bool true := h 19 (by decide) (by kernel_rfl)
    refine UpO.is _ rfl rfl ?_
    rw [e16, e19]
    go_simp
  · have e20 : vals 20 = .bool true := h 20 (by decide) (by kernel_rfl)
    refine UpO.is _ rfl rfl ?_
    rw [e20]
    go_simp
  · have e21 : vals 21 = .bool true := h 21 (by decide) (by kernel_rfl)
    refine UpO.isW _ rfl (by rw [e21]; kernel_rfl) ?_
    rw [e21]
    go_simp
  · have e21 : vals 21 = .bool true := h 21 (by decide) (by kernel_rfl)
    refine UpO.isW _ rfl (by rw [e21]; kernel_rfl) ?_
    rw [e21]
    go_simp
  · have e21 : vals 21 = .bool true := h 21 (by decide) (by kernel_rfl)
    have e22 : vals 22 = .int .i64 e9 := h 22 (by decide) (by kernel_rfl)
    have e23 : vals 23 = .int .i64 e9 := h 23 (by decide) (by kernel_rfl)
    refine UpO.isW _ rfl (by rw [e21, e22, e23]; kernel_rfl) ?_
    rw [e21, e22, e23]
    go_simp
  · have e21 : vals 21 = .bool true := h 21 (by decide) (by kernel_rfl)
    have e24 : vals 24 = .bool true := h 24 (by decide) (by kernel_rfl)
    refine UpO.is _ rfl rfl ?_
    rw [e21, e24]
    go_simp
  · have e25 : vals 25 = .bool true := h 25 (by decide) (by kernel_rfl)
    refine UpO.is _ rfl rfl ?_
    rw [e25]
    go_simp
  · have e26 : vals 26 = .bool true := h 26 (by decide) (by kernel_rfl)
    refine UpO.call #[] (by rw [e26]; kernel_rfl) rfl (by kernel_rfl) (enters Try.func21 (by kernel_rfl) (by kernel_rfl) _ _) ?_
    exact (t21 _).mono fun _ _ ⟨a1, a2⟩ => ⟨_, a1, rfl, a2.out⟩
  · have e26 : vals 26 = .bool true := h 26 (by decide) (by kernel_rfl)
    have e27 : vals 27 = .bool true := h 27 (by decide) (by kernel_rfl)
    refine UpO.is _ rfl rfl ?_
    rw [e26, e27]
    go_simp
  · have e28 : vals 28 = .bool true := h 28 (by decide)
    rw [e28]
    simp only [List.drop_succ_cons, List.drop_zero]
    replace hu : Hid (Up _ _) := hu
    clear h e28 c0 c1 c2 d0 d1
    go_wp2
    go_ret
    exact ⟨rfl, Up.trans (Up.trans ((Up.alloc _ _).trans (Up.alloc _ _)) HB.out) hu.out⟩
end Go.Proofs.Ytlgejebgkkmacaa
