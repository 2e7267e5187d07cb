/- What each statement asks first (works); the walks of GateCells and GateBins. -/
import Derived.Test.YtcekbnjgdgapgaaLj
namespace Go.Proofs.Ytcekbnjgdgapgaa
open Go.ChangeShapes Go.WideShapes Go.ChangeAt Go.RowKit Go.Fl Ieee
attribute [local go_sem] run_store_float call36 call37 run_neg fold_eq fold_ne fold_lt fold_gt abs_eq

theorem uph {a b c : World} (h : Hid (Up a b)) (k : Hid (Up b c)) : Hid (Up a c) := h.out.trans k.out
theorem PR.k {w w' : World} {p : Option Nat × Int} {e : Ending} {x : Nat} {k : Int} (h : PR w p e w') (hp : p = (some x, k)) : e = .returned (.tuple #[.float .f64 x, .int .i64 k]) ∧ Hid (Up w w') := by
  obtain ⟨y, rfl, hy, hu⟩ := h
  have hy := hy.out
  subst hp
  exact ⟨by rw [of_ab hy], hu⟩
theorem I3.k {w w' : World} {p : Int × Int × Int} {e : Ending} {a b k : Int} (h : I3 w p e w') (hp : p = (a, b, k)) : e = .returned (.tuple #[.int .i64 a, .int .i64 b, .int .i64 k]) ∧ Hid (Up w w') := by
  subst hp; exact h
theorem P3.k {w w' : World} {p : Option Nat × Option Nat × Int} {e : Ending} {x y : Nat} {k : Int} (h : P3 w p e w') (hp : p = (some x, some y, k)) : e = .returned (.tuple #[.float .f64 x, .float .f64 y, .int .i64 k]) ∧ Hid (Up w w') := by
  obtain ⟨x', y', rfl, hx, hy, hu⟩ := h
  have hx := hx.out
  have hy := hy.out
  subst hp
  exact ⟨by rw [of_ab hx, of_ab hy], hu⟩
theorem w11 (w : World) : Calls Try.prog 11 #[.agg #[.float .f64 4621819117588971520, .float .f64 4598175219545276416, .float .f64 4652007308841189376, .int .i64 100, .int .i64 8], .float .f64 4657375124607991808] w fun e w' => e = .returned (.tuple #[.int .i64 34, .int .i64 2, .int .i64 0]) ∧ Hid (Up w w') :=
  (t11 _ _ _ _ _ _ w).mono fun _ _ h => h.k (by decide +kernel)
theorem w13 (w : World) : Calls Try.prog 13 #[.agg #[.float .f64 4621819117588971520, .float .f64 4598175219545276416, .float .f64 4652007308841189376, .int .i64 100, .int .i64 8], .int .i64 34, .int .i64 2] w fun e w' => e = .returned (.tuple #[.float .f64 4657375124607991808, .int .i64 0]) ∧ Hid (Up w w') :=
  (t13 _ _ _ _ _ _ _ w).mono fun _ _ h => h.k (by decide +kernel)
theorem w17 (w : World) : Calls Try.prog 17 #[.agg #[.float .f64 4621819117588971520, .float .f64 4598175219545276416, .float .f64 4652007308841189376, .int .i64 100, .int .i64 8], .float .f64 4599301119452119040] w fun e w' => e = .returned (.tuple #[.float .f64 13835058055282163712, .int .i64 0]) ∧ Hid (Up w w') :=
  (t17 _ _ _ _ _ _ w).mono fun _ _ h => h.k (by decide +kernel)
theorem w19 (w : World) : Calls Try.prog 19 #[.agg #[.float .f64 4621819117588971520, .float .f64 4598175219545276416, .float .f64 4652007308841189376, .int .i64 100, .int .i64 8], .float .f64 4616189618054758400] w fun e w' => e = .returned (.tuple #[.float .f64 13827176755934265344, .int .i64 0]) ∧ Hid (Up w w') :=
  (t19 _ _ _ _ _ _ w).mono fun _ _ h => h.k (by decide +kernel)
theorem t16 (w : World) : Calls Try.prog 16 #[] w (TU w) := by
  have e1 : eqF (ab 4657375124607991808) (ab 4657375124607991808) = true := by decide +kernel
  have e2 : eqF (ab 13835058055282163712) (ab 13835058055282163712) = true := by decide +kernel
  have e3 : eqF (ab 13827176755934265344) (ab 13827176755934265344) = true := by decide +kernel
  have HU : Hid (Up w w) := Up.refl _
  go_enter Try.func16, Try.ntmps16
  go_wp2_with (first
    | (go_at_call 26; (with_reducible refine (t26 _).mono ?_); rintro e wa ⟨rfl, ua⟩; replace HU := uph HU ua; clear ua)
    | (go_at_call 11; (with_reducible refine (w11 _).mono ?_); rintro e wb ⟨rfl, ub⟩; replace HU := uph HU ub; clear ub)
    | (go_at_call 13; (with_reducible refine (w13 _).mono ?_); rintro e wc ⟨rfl, uc⟩; replace HU := uph HU uc; clear uc)
    | (go_at_call 17; (with_reducible refine (w17 _).mono ?_); rintro e wd ⟨rfl, ud⟩; replace HU := uph HU ud; clear ud)
    | (go_at_call 19; (with_reducible refine (w19 _).mono ?_); rintro e we ⟨rfl, ue⟩; replace HU := uph HU ue; clear ue))
  go_ret
  exact ⟨rfl, HU⟩
theorem t15k {x y : Nat} {o : Option Nat} (h1 : Hid (ab x = o)) (h2 : Hid (ab y = o)) (w : World) : Calls Try.prog 15 #[.float .f64 x, .float .f64 y] w fun e w' => e = .returned (.bool true) ∧ w' = w := by
  refine (t15 x y w).mono ?_
  rintro e w' ⟨rfl, rfl⟩
  rw [h1.out, h2.out]
  simp
set_option maxHeartbeats 1000000 in
theorem t3 (c v r : Nat) (E R : Int) (m : Nat) (cell turns : Int) (w : World) : Calls Try.prog 3 #[.agg #[.float .f64 c, .float .f64 v, .float .f64 r, .int .i64 E, .int .i64 R], .float .f64 m, .int .i64 cell, .int .i64 turns] w (TU w) := by
  have H9 : Hid (∀ w, Calls Try.prog 9 #[.agg #[.float .f64 c, .float .f64 v, .float .f64 r, .int .i64 E, .int .i64 R]] w (IU w (checkF (ab c) (ab v) (ab r) E R))) := fun w => t9 c v r E R w
  have H10 : Hid (∀ w, Calls Try.prog 10 #[.agg #[.float .f64 c, .float .f64 v, .float .f64 r, .int .i64 E, .int .i64 R]] w (IU w (checkF (ab c) (ab v) (ab r) E R))) := fun w => t10 c v r E R w
  have H11 : Hid (∀ w, Calls Try.prog 11 #[.agg #[.float .f64 c, .float .f64 v, .float .f64 r, .int .i64 E, .int .i64 R], .float .f64 m] w (I3 w (cellF (ab c) (ab v) (ab r) E R (ab m)))) := fun w => t11 c v r E R m w
  have H12 : Hid (∀ w, Calls Try.prog 12 #[.agg #[.float .f64 c, .float .f64 v, .float .f64 r, .int .i64 E, .int .i64 R], .float .f64 m] w (I3 w (cellF (ab c) (ab v) (ab r) E R (ab m)))) := fun w => t12 c v r E R m w
  have H13 : Hid (∀ w, Calls Try.prog 13 #[.agg #[.float .f64 c, .float .f64 v, .float .f64 r, .int .i64 E, .int .i64 R], .int .i64 cell, .int .i64 turns] w (PR w (metF (ab c) (ab v) (ab r) E R cell turns))) := fun w => t13 c v r E R cell turns w
  have H14 : Hid (∀ w, Calls Try.prog 14 #[.agg #[.float .f64 c, .float .f64 v, .float .f64 r, .int .i64 E, .int .i64 R], .int .i64 cell, .int .i64 turns] w (PR w (metF (ab c) (ab v) (ab r) E R cell turns))) := fun w => t14 c v r E R cell turns w
  generalize checkF (ab c) (ab v) (ab r) E R = k at *
  generalize cellF (ab c) (ab v) (ab r) E R (ab m) = p at *
  generalize metF (ab c) (ab v) (ab r) E R cell turns = q at *
  obtain ⟨p1, p2, p3⟩ := p
  obtain ⟨q1, q2⟩ := q
  have HB := BC.new w c v r E R
  have HU : Hid (Up w (w.alloc (.cells #[.float .f64 c, .float .f64 v, .float .f64 r, .int .i64 E, .int .i64 R] 24))) := Up.alloc _ _
  obtain ⟨b0, b1, b2, b3, b4⟩ := HB
  go_enter Try.func3, Try.ntmps3
  go_wp2_with fail
  generalize w.alloc (.cells #[.float .f64 c, .float .f64 v, .float .f64 r, .int .i64 E, .int .i64 R] 24) = w0 at *
  generalize w.heap.size = s0 at *
  go_region_with (first
    | (go_at_call 9; (with_reducible refine (H9.out _).mono ?_); rintro e w1 ⟨rfl, u1⟩; have c0 := up_cell u1.out (by first | exact b0 | exact d0); have c1 := up_cell u1.out (by first | exact b1 | exact d1); have c2 := up_cell u1.out (by first | exact b2 | exact d2); have c3 := up_cell u1.out (by first | exact b3 | exact d3); have c4 := up_cell u1.out (by first | exact b4 | exact d4); replace HU := (by first | exact uph HU u1 | exact uph (uph HU (Up.drew _)) u1 | exact uph (uph HU (Up.drewN _ _)) u1 : Hid (Up w w1)))
    | (go_at_call 10; (with_reducible refine (H10.out _).mono ?_); rintro e w2 ⟨rfl, u2⟩; have d0 := up_cell u2.out (by first | exact b0 | exact c0); have d1 := up_cell u2.out (by first | exact b1 | exact c1); have d2 := up_cell u2.out (by first | exact b2 | exact c2); have d3 := up_cell u2.out (by first | exact b3 | exact c3); have d4 := up_cell u2.out (by first | exact b4 | exact c4); replace HU := (by first | exact uph HU u2 | exact uph (uph HU (Up.drew _)) u2 | exact uph (uph HU (Up.drewN _ _)) u2 : Hid (Up w w2))))
  all_goals clear H9 H10
  all_goals go_wp2_with (first
    | (go_at_call 11; (with_reducible refine (H11.out _).mono ?_); rintro e w3 ⟨rfl, u3⟩; have f0 := up_cell u3.out (by first | exact c0 | exact d0); have f1 := up_cell u3.out (by first | exact c1 | exact d1); have f2 := up_cell u3.out (by first | exact c2 | exact d2); have f3 := up_cell u3.out (by first | exact c3 | exact d3); have f4 := up_cell u3.out (by first | exact c4 | exact d4); replace HU := (by first | exact uph HU u3 | exact uph (uph HU (Up.drew _)) u3 | exact uph (uph HU (Up.drewN _ _)) u3 : Hid (Up w w3)))
    | (go_at_call 12; (with_reducible refine (H12.out _).mono ?_); rintro e w4 ⟨rfl, u4⟩; have g0 := up_cell u4.out (by first | exact f0); have g1 := up_cell u4.out (by first | exact f1); have g2 := up_cell u4.out (by first | exact f2); have g3 := up_cell u4.out (by first | exact f3); have g4 := up_cell u4.out (by first | exact f4); replace HU := (by first | exact uph HU u4 | exact uph (uph HU (Up.drew _)) u4 | exact uph (uph HU (Up.drewN _ _)) u4 : Hid (Up w w4)))
    | (go_at_call 13; (with_reducible refine (H13.out _).mono ?_); rintro e w5 ⟨x5, rfl, hx5, u5⟩; have i0 := up_cell u5.out (by first | exact g0); have i1 := up_cell u5.out (by first | exact g1); have i2 := up_cell u5.out (by first | exact g2); have i3 := up_cell u5.out (by first | exact g3); have i4 := up_cell u5.out (by first | exact g4); replace HU := (by first | exact uph HU u5 | exact uph (uph HU (Up.drew _)) u5 | exact uph (uph HU (Up.drewN _ _)) u5 : Hid (Up w w5)))
    | (go_at_call 14; (with_reducible refine (H14.out _).mono ?_); rintro e w6 ⟨x6, rfl, hx6, u6⟩; have j0 := up_cell u6.out (by first | exact i0); have j1 := up_cell u6.out (by first | exact i1); have j2 := up_cell u6.out (by first | exact i2); have j3 := up_cell u6.out (by first | exact i3); have j4 := up_cell u6.out (by first | exact i4); replace HU := (by first | exact uph HU u6 | exact uph (uph HU (Up.drew _)) u6 | exact uph (uph HU (Up.drewN _ _)) u6 : Hid (Up w w6)))
    | (go_at_call 15; (with_reducible refine (t15k hx5 hx6 _).mono ?_); rintro e w' ⟨rfl, rfl⟩)
    | (go_at_call 16; (with_reducible refine (t16 _).mono ?_); rintro e w7 ⟨rfl, u7⟩; replace HU := uph HU u7))
  all_goals go_ret
  all_goals exact ⟨rfl, HU⟩
set_option maxHeartbeats 1000000 in
theorem t4 (c v r : Nat) (E R : Int) (s b : Nat) (w : World) : Calls Try.prog 4 #[.agg #[.float .f64 c, .float .f64 v, .float .f64 r, .int .i64 E, .int .i64 R], .float .f64 s, .float .f64 b] w (TU w) := by
  have H17 : Hid (∀ w, Calls Try.prog 17 #[.agg #[.float .f64 c, .float .f64 v, .float .f64 r, .int .i64 E, .int .i64 R], .float .f64 s] w (PR w (binF (ab c) (ab v) (ab r) E R (ab s)))) := fun w => t17 c v r E R s w
  have H18 : Hid (∀ w, Calls Try.prog 18 #[.agg #[.float .f64 c, .float .f64 v, .float .f64 r, .int .i64 E, .int .i64 R], .float .f64 s] w (PR w (binF (ab c) (ab v) (ab r) E R (ab s)))) := fun w => t18 c v r E R s w
  have H19 : Hid (∀ w, Calls Try.prog 19 #[.agg #[.float .f64 c, .float .f64 v, .float .f64 r, .int .i64 E, .int .i64 R], .float .f64 b] w (PR w (speedF (ab c) (ab v) (ab r) E R (ab b)))) := fun w => t19 c v r E R b w
  have H20 : Hid (∀ w, Calls Try.prog 20 #[.agg #[.float .f64 c, .float .f64 v, .float .f64 r, .int .i64 E, .int .i64 R], .float .f64 b] w (PR w (speedF (ab c) (ab v) (ab r) E R (ab b)))) := fun w => t20 c v r E R b w
  have H21 : Hid (∀ w, Calls Try.prog 21 #[.agg #[.float .f64 c, .float .f64 v, .float .f64 r, .int .i64 E, .int .i64 R]] w (P3 w (blindF (ab c) (ab v) (ab r) E R))) := fun w => t21 c v r E R w
  have H22 : Hid (∀ w, Calls Try.prog 22 #[.agg #[.float .f64 c, .float .f64 v, .float .f64 r, .int .i64 E, .int .i64 R]] w (P3 w (blindF (ab c) (ab v) (ab r) E R))) := fun w => t22 c v r E R w
  generalize binF (ab c) (ab v) (ab r) E R (ab s) = p at *
  generalize speedF (ab c) (ab v) (ab r) E R (ab b) = q at *
  generalize blindF (ab c) (ab v) (ab r) E R = z at *
  obtain ⟨p1, p2⟩ := p
  obtain ⟨q1, q2⟩ := q
  obtain ⟨z1, z2, z3⟩ := z
  have HB := BC.new w c v r E R
  have HU : Hid (Up w (w.alloc (.cells #[.float .f64 c, .float .f64 v, .float .f64 r, .int .i64 E, .int .i64 R] 24))) := Up.alloc _ _
  obtain ⟨b0, b1, b2, b3, b4⟩ := HB
  go_enter Try.func4, Try.ntmps4
  go_wp2_with (first
    | (go_at_call 17; (with_reducible refine (H17.out _).mono ?_); rintro e w1 ⟨x1, rfl, hx1, u1⟩; have c0 := up_cell u1.out (by first | exact b0); have c1 := up_cell u1.out (by first | exact b1); have c2 := up_cell u1.out (by first | exact b2); have c3 := up_cell u1.out (by first | exact b3); have c4 := up_cell u1.out (by first | exact b4); replace HU := (by first | exact uph HU u1 | exact uph (uph HU (Up.drew _)) u1 | exact uph (uph HU (Up.drewN _ _)) u1 : Hid (Up w w1)))
    | (go_at_call 18; (with_reducible refine (H18.out _).mono ?_); rintro e w2 ⟨x2, rfl, hx2, u2⟩; have d0 := up_cell u2.out (by first | exact c0); have d1 := up_cell u2.out (by first | exact c1); have d2 := up_cell u2.out (by first | exact c2); have d3 := up_cell u2.out (by first | exact c3); have d4 := up_cell u2.out (by first | exact c4); replace HU := (by first | exact uph HU u2 | exact uph (uph HU (Up.drew _)) u2 | exact uph (uph HU (Up.drewN _ _)) u2 : Hid (Up w w2)))
    | (go_at_call 15; (with_reducible refine (t15k hx1 hx2 _).mono ?_); rintro e w' ⟨rfl, rfl⟩)
    | (go_at_call 19; (with_reducible refine (H19.out _).mono ?_); rintro e w3 ⟨x3, rfl, hx3, u3⟩; have f0 := up_cell u3.out (by first | exact d0); have f1 := up_cell u3.out (by first | exact d1); have f2 := up_cell u3.out (by first | exact d2); have f3 := up_cell u3.out (by first | exact d3); have f4 := up_cell u3.out (by first | exact d4); replace HU := (by first | exact uph HU u3 | exact uph (uph HU (Up.drew _)) u3 | exact uph (uph HU (Up.drewN _ _)) u3 : Hid (Up w w3)))
    | (go_at_call 20; (with_reducible refine (H20.out _).mono ?_); rintro e w4 ⟨x4, rfl, hx4, u4⟩; have g0 := up_cell u4.out (by first | exact f0); have g1 := up_cell u4.out (by first | exact f1); have g2 := up_cell u4.out (by first | exact f2); have g3 := up_cell u4.out (by first | exact f3); have g4 := up_cell u4.out (by first | exact f4); replace HU := (by first | exact uph HU u4 | exact uph (uph HU (Up.drew _)) u4 | exact uph (uph HU (Up.drewN _ _)) u4 : Hid (Up w w4)))
    | (go_at_call 15; (with_reducible refine (t15k hx3 hx4 _).mono ?_); rintro e w' ⟨rfl, rfl⟩)
    | (go_at_call 21; (with_reducible refine (H21.out _).mono ?_); rintro e w5 ⟨x5, y5, rfl, hx5, hy5, u5⟩; have i0 := up_cell u5.out (by first | exact g0); have i1 := up_cell u5.out (by first | exact g1); have i2 := up_cell u5.out (by first | exact g2); have i3 := up_cell u5.out (by first | exact g3); have i4 := up_cell u5.out (by first | exact g4); replace HU := (by first | exact uph HU u5 | exact uph (uph HU (Up.drew _)) u5 | exact uph (uph HU (Up.drewN _ _)) u5 : Hid (Up w w5)))
    | (go_at_call 22; (with_reducible refine (H22.out _).mono ?_); rintro e w6 ⟨x6, y6, rfl, hx6, hy6, u6⟩; have j0 := up_cell u6.out (by first | exact i0); have j1 := up_cell u6.out (by first | exact i1); have j2 := up_cell u6.out (by first | exact i2); have j3 := up_cell u6.out (by first | exact i3); have j4 := up_cell u6.out (by first | exact i4); replace HU := (by first | exact uph HU u6 | exact uph (uph HU (Up.drew _)) u6 | exact uph (uph HU (Up.drewN _ _)) u6 : Hid (Up w w6)))
    | (go_at_call 15; (with_reducible refine (t15k hx5 hx6 _).mono ?_); rintro e w' ⟨rfl, rfl⟩)
    | (go_at_call 15; (with_reducible refine (t15k hy5 hy6 _).mono ?_); rintro e w' ⟨rfl, rfl⟩)
    | (go_at_call 16; (with_reducible refine (t16 _).mono ?_); rintro e w7 ⟨rfl, u7⟩; replace HU := uph HU u7))
  go_ret
  exact ⟨rfl, HU⟩
end Go.Proofs.Ytcekbnjgdgapgaa
