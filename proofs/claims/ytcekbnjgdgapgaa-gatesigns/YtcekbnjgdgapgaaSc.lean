/- The walk of GateSigns. -/
import Derived.Test.YtcekbnjgdgapgaaLk
import Derived.Test.YtcekbnjgdgapgaaSb
namespace Go.Proofs.Ytcekbnjgdgapgaa
open Go.ChangeShapes Go.WideShapes Go.ChangeAt Go.RowKit Go.Fl Ieee
attribute [local go_sem] run_store_float call36 call37 run_neg fold_eq fold_ne fold_lt fold_gt abs_eq

def SgS (p1 q1 : Option Nat) (k : Int) : Prop := k = 0 → ∀ x y, ab x = p1 → ab y = q1 → eqF (ab y) (ab (neg x)) = true
theorem sg_hq {p1 q1 : Option Nat} {k : Int} {x y : Nat} (HS : Hid (SgS p1 q1 k)) (hk : k = 0) (hx : Hid (ab x = p1)) (hy : Hid (ab y = q1)) : eqF (ab y) (ab (neg x)) = true := HS.out hk x y hx.out hy.out
def SgB (R : Int) (p1 q1 : Option Nat) (g : Int) : Prop := g = 0 → ∀ z w h, ab z = p1 → ab w = q1 → ab h = bin .quo (ab (neg (floatOfInt .f64 R))) (ab 4611686018427387904) → (eqF (ab w) (ab (neg z)) || (eqF (ab z) (ab h) && eqF (ab w) (ab h))) = true
theorem sg_hb {R : Int} {p1 q1 : Option Nat} {g : Int} {z w h : Nat} (HS : Hid (SgB R p1 q1 g)) (hg : g = 0) (hz : Hid (ab z = p1)) (hw : Hid (ab w = q1)) (hh : Hid (ab h = bin .quo (ab (neg (floatOfInt .f64 R))) (ab 4611686018427387904))) : (eqF (ab w) (ab (neg z)) || (eqF (ab z) (ab h) && eqF (ab w) (ab h))) = true := HS.out hg z w h hz.out hw.out hh.out
set_option maxHeartbeats 2000000 in
theorem t6 (c v r : Nat) (E R : Int) (s b : Nat) (w : World) : Calls Try.prog 6 #[.agg #[.float .f64 c, .float .f64 v, .float .f64 r, .int .i64 E, .int .i64 R], .float .f64 s, .float .f64 b] w (TU w) := by
  obtain ⟨sa, sb⟩ := speed_signs c v r E R b
  obtain ⟨ba, bb⟩ := bin_signs c v r E R s
  have H17 : Hid (∀ w, Calls Try.prog 17 #[.agg #[.float .f64 c, .float .f64 v, .float .f64 r, .int .i64 E, .int .i64 R], .float .f64 s] w (PR w (binF (ab c) (ab v) (ab r) E R (ab s)))) := fun w => t17 c v r E R s w
  have H18 : Hid (∀ w, Calls Try.prog 17 #[.agg #[.float .f64 c, .float .f64 v, .float .f64 r, .int .i64 E, .int .i64 R], .float .f64 (neg s)] w (PR w (binF (ab c) (ab v) (ab r) E R (ab (neg s))))) := fun w => t17 c v r E R (neg s) w
  have H19 : Hid (∀ w, Calls Try.prog 19 #[.agg #[.float .f64 c, .float .f64 v, .float .f64 r, .int .i64 E, .int .i64 R], .float .f64 b] w (PR w (speedF (ab c) (ab v) (ab r) E R (ab b)))) := fun w => t19 c v r E R b w
  have H20 : Hid (∀ w, Calls Try.prog 19 #[.agg #[.float .f64 c, .float .f64 v, .float .f64 r, .int .i64 E, .int .i64 R], .float .f64 (neg b)] w (PR w (speedF (ab c) (ab v) (ab r) E R (ab (neg b))))) := fun w => t19 c v r E R (neg b) w
  generalize binF (ab c) (ab v) (ab r) E R (ab s) = p at *
  generalize binF (ab c) (ab v) (ab r) E R (ab (neg s)) = p' at *
  generalize speedF (ab c) (ab v) (ab r) E R (ab b) = q at *
  generalize speedF (ab c) (ab v) (ab r) E R (ab (neg b)) = q' at *
  obtain ⟨p1, g⟩ := p
  obtain ⟨p1', g'⟩ := p'
  obtain ⟨q1, k⟩ := q
  obtain ⟨q1', k'⟩ := q'
  simp only at sa sb ba bb
  subst sa ba
  have HS : Hid (SgS q1 q1' k') := sb
  have HT : Hid (SgB R p1 p1' g') := bb
  clear sb bb
  have HB := BC.new w c v r E R
  have HU : Hid (Up w (w.alloc (.cells #[.float .f64 c, .float .f64 v, .float .f64 r, .int .i64 E, .int .i64 R] 24))) := Up.alloc _ _
  obtain ⟨b0, b1, b2, b3, b4⟩ := HB
  by_cases hk : k' = 0 <;> by_cases hg : g' = 0
  · subst hk; subst hg
    go_enter Try.func6, Try.ntmps6
    go_wp2_with (first
      | (go_at_call 16; (with_reducible refine (t16 _).mono ?_); rintro e w0 ⟨rfl, u0⟩; have a0 := up_cell u0.out (by first | exact b0); have a1 := up_cell u0.out (by first | exact b1); have a2 := up_cell u0.out (by first | exact b2); have a3 := up_cell u0.out (by first | exact b3); have a4 := up_cell u0.out (by first | exact b4); replace HU := (by first | exact uph HU u0 | exact uph (uph HU (Up.drew _)) u0 | exact uph (uph HU (Up.drewN _ _)) u0 : Hid (Up w w0)))
      | (go_at_call 19; (with_reducible refine (H19.out _).mono ?_); rintro e w1 ⟨x1, rfl, hx1, u1⟩; have c0 := up_cell u1.out (by first | exact a0); have c1 := up_cell u1.out (by first | exact a1); have c2 := up_cell u1.out (by first | exact a2); have c3 := up_cell u1.out (by first | exact a3); have c4 := up_cell u1.out (by first | exact a4); replace HU := (by first | exact uph HU u1 | exact uph (uph HU (Up.drew _)) u1 | exact uph (uph HU (Up.drewN _ _)) u1 : Hid (Up w w1)))
      | (go_at_call 19; (with_reducible refine (H20.out _).mono ?_); rintro e w2 ⟨x2, rfl, hx2, u2⟩; have d0 := up_cell u2.out (by first | exact c0); have d1 := up_cell u2.out (by first | exact c1); have d2 := up_cell u2.out (by first | exact c2); have d3 := up_cell u2.out (by first | exact c3); have d4 := up_cell u2.out (by first | exact c4); replace HU := (by first | exact uph HU u2 | exact uph (uph HU (Up.drew _)) u2 | exact uph (uph HU (Up.drewN _ _)) u2 : Hid (Up w w2)); have hq := sg_hq HS rfl hx1 hx2)
      | (go_at_call 17; (with_reducible refine (H17.out _).mono ?_); rintro e w3 ⟨x3, rfl, hx3, u3⟩; have f0 := up_cell u3.out (by first | exact d0); have f1 := up_cell u3.out (by first | exact d1); have f2 := up_cell u3.out (by first | exact d2); have f3 := up_cell u3.out (by first | exact d3); have f4 := up_cell u3.out (by first | exact d4); replace HU := (by first | exact uph HU u3 | exact uph (uph HU (Up.drew _)) u3 | exact uph (uph HU (Up.drewN _ _)) u3 : Hid (Up w w3)))
      | (go_at_call 17; (with_reducible refine (H18.out _).mono ?_); rintro e w4 ⟨x4, rfl, hx4, u4⟩; have g0 := up_cell u4.out (by first | exact f0); have g1 := up_cell u4.out (by first | exact f1); have g2 := up_cell u4.out (by first | exact f2); have g3 := up_cell u4.out (by first | exact f3); have g4 := up_cell u4.out (by first | exact f4); replace HU := (by first | exact uph HU u4 | exact uph (uph HU (Up.drew _)) u4 | exact uph (uph HU (Up.drewN _ _)) u4 : Hid (Up w w4)))
      | ((with_reducible refine upon_fl (op := .quo) (by simp) ?_); intro x5 n5 hx5; have hb := sg_hb HT rfl hx3 hx4 hx5))
    all_goals go_ret
    all_goals (go_tidy; refine ⟨?_, HU.out.trans (Up.drewN _ _)⟩)
    all_goals first | rfl | (simp_all; done)
  · subst hk
    go_enter Try.func6, Try.ntmps6
    go_wp2_with (first
      | (go_at_call 16; (with_reducible refine (t16 _).mono ?_); rintro e w0 ⟨rfl, u0⟩; have a0 := up_cell u0.out (by first | exact b0); have a1 := up_cell u0.out (by first | exact b1); have a2 := up_cell u0.out (by first | exact b2); have a3 := up_cell u0.out (by first | exact b3); have a4 := up_cell u0.out (by first | exact b4); replace HU := (by first | exact uph HU u0 | exact uph (uph HU (Up.drew _)) u0 | exact uph (uph HU (Up.drewN _ _)) u0 : Hid (Up w w0)))
      | (go_at_call 19; (with_reducible refine (H19.out _).mono ?_); rintro e w1 ⟨x1, rfl, hx1, u1⟩; have c0 := up_cell u1.out (by first | exact a0); have c1 := up_cell u1.out (by first | exact a1); have c2 := up_cell u1.out (by first | exact a2); have c3 := up_cell u1.out (by first | exact a3); have c4 := up_cell u1.out (by first | exact a4); replace HU := (by first | exact uph HU u1 | exact uph (uph HU (Up.drew _)) u1 | exact uph (uph HU (Up.drewN _ _)) u1 : Hid (Up w w1)))
      | (go_at_call 19; (with_reducible refine (H20.out _).mono ?_); rintro e w2 ⟨x2, rfl, hx2, u2⟩; have d0 := up_cell u2.out (by first | exact c0); have d1 := up_cell u2.out (by first | exact c1); have d2 := up_cell u2.out (by first | exact c2); have d3 := up_cell u2.out (by first | exact c3); have d4 := up_cell u2.out (by first | exact c4); replace HU := (by first | exact uph HU u2 | exact uph (uph HU (Up.drew _)) u2 | exact uph (uph HU (Up.drewN _ _)) u2 : Hid (Up w w2)); have hq := sg_hq HS rfl hx1 hx2)
      | (go_at_call 17; (with_reducible refine (H17.out _).mono ?_); rintro e w3 ⟨x3, rfl, hx3, u3⟩; have f0 := up_cell u3.out (by first | exact d0); have f1 := up_cell u3.out (by first | exact d1); have f2 := up_cell u3.out (by first | exact d2); have f3 := up_cell u3.out (by first | exact d3); have f4 := up_cell u3.out (by first | exact d4); replace HU := (by first | exact uph HU u3 | exact uph (uph HU (Up.drew _)) u3 | exact uph (uph HU (Up.drewN _ _)) u3 : Hid (Up w w3)))
      | (go_at_call 17; (with_reducible refine (H18.out _).mono ?_); rintro e w4 ⟨x4, rfl, hx4, u4⟩; have g0 := up_cell u4.out (by first | exact f0); have g1 := up_cell u4.out (by first | exact f1); have g2 := up_cell u4.out (by first | exact f2); have g3 := up_cell u4.out (by first | exact f3); have g4 := up_cell u4.out (by first | exact f4); replace HU := (by first | exact uph HU u4 | exact uph (uph HU (Up.drew _)) u4 | exact uph (uph HU (Up.drewN _ _)) u4 : Hid (Up w w4)))
      | ((with_reducible refine upon_fl (op := .quo) (by simp) ?_); intro x5 n5 hx5))
    all_goals go_ret
    all_goals (go_tidy; refine ⟨?_, HU.out.trans (Up.drewN _ _)⟩)
    all_goals first | rfl | (simp_all; done)
  · skip; subst hg
    go_enter Try.func6, Try.ntmps6
    go_wp2_with (first
      | (go_at_call 16; (with_reducible refine (t16 _).mono ?_); rintro e w0 ⟨rfl, u0⟩; have a0 := up_cell u0.out (by first | exact b0); have a1 := up_cell u0.out (by first | exact b1); have a2 := up_cell u0.out (by first | exact b2); have a3 := up_cell u0.out (by first | exact b3); have a4 := up_cell u0.out (by first | exact b4); replace HU := (by first | exact uph HU u0 | exact uph (uph HU (Up.drew _)) u0 | exact uph (uph HU (Up.drewN _ _)) u0 : Hid (Up w w0)))
      | (go_at_call 19; (with_reducible refine (H19.out _).mono ?_); rintro e w1 ⟨x1, rfl, hx1, u1⟩; have c0 := up_cell u1.out (by first | exact a0); have c1 := up_cell u1.out (by first | exact a1); have c2 := up_cell u1.out (by first | exact a2); have c3 := up_cell u1.out (by first | exact a3); have c4 := up_cell u1.out (by first | exact a4); replace HU := (by first | exact uph HU u1 | exact uph (uph HU (Up.drew _)) u1 | exact uph (uph HU (Up.drewN _ _)) u1 : Hid (Up w w1)))
      | (go_at_call 19; (with_reducible refine (H20.out _).mono ?_); rintro e w2 ⟨x2, rfl, hx2, u2⟩; have d0 := up_cell u2.out (by first | exact c0); have d1 := up_cell u2.out (by first | exact c1); have d2 := up_cell u2.out (by first | exact c2); have d3 := up_cell u2.out (by first | exact c3); have d4 := up_cell u2.out (by first | exact c4); replace HU := (by first | exact uph HU u2 | exact uph (uph HU (Up.drew _)) u2 | exact uph (uph HU (Up.drewN _ _)) u2 : Hid (Up w w2)))
      | (go_at_call 17; (with_reducible refine (H17.out _).mono ?_); rintro e w3 ⟨x3, rfl, hx3, u3⟩; have f0 := up_cell u3.out (by first | exact d0); have f1 := up_cell u3.out (by first | exact d1); have f2 := up_cell u3.out (by first | exact d2); have f3 := up_cell u3.out (by first | exact d3); have f4 := up_cell u3.out (by first | exact d4); replace HU := (by first | exact uph HU u3 | exact uph (uph HU (Up.drew _)) u3 | exact uph (uph HU (Up.drewN _ _)) u3 : Hid (Up w w3)))
      | (go_at_call 17; (with_reducible refine (H18.out _).mono ?_); rintro e w4 ⟨x4, rfl, hx4, u4⟩; have g0 := up_cell u4.out (by first | exact f0); have g1 := up_cell u4.out (by first | exact f1); have g2 := up_cell u4.out (by first | exact f2); have g3 := up_cell u4.out (by first | exact f3); have g4 := up_cell u4.out (by first | exact f4); replace HU := (by first | exact uph HU u4 | exact uph (uph HU (Up.drew _)) u4 | exact uph (uph HU (Up.drewN _ _)) u4 : Hid (Up w w4)))
      | ((with_reducible refine upon_fl (op := .quo) (by simp) ?_); intro x5 n5 hx5; have hb := sg_hb HT rfl hx3 hx4 hx5))
    all_goals go_ret
    all_goals (go_tidy; refine ⟨?_, HU.out.trans (Up.drewN _ _)⟩)
    all_goals first | rfl | (simp_all; done)
  · skip
    go_enter Try.func6, Try.ntmps6
    go_wp2_with (first
      | (go_at_call 16; (with_reducible refine (t16 _).mono ?_); rintro e w0 ⟨rfl, u0⟩; have a0 := up_cell u0.out (by first | exact b0); have a1 := up_cell u0.out (by first | exact b1); have a2 := up_cell u0.out (by first | exact b2); have a3 := up_cell u0.out (by first | exact b3); have a4 := up_cell u0.out (by first | exact b4); replace HU := (by first | exact uph HU u0 | exact uph (uph HU (Up.drew _)) u0 | exact uph (uph HU (Up.drewN _ _)) u0 : Hid (Up w w0)))
      | (go_at_call 19; (with_reducible refine (H19.out _).mono ?_); rintro e w1 ⟨x1, rfl, hx1, u1⟩; have c0 := up_cell u1.out (by first | exact a0); have c1 := up_cell u1.out (by first | exact a1); have c2 := up_cell u1.out (by first | exact a2); have c3 := up_cell u1.out (by first | exact a3); have c4 := up_cell u1.out (by first | exact a4); replace HU := (by first | exact uph HU u1 | exact uph (uph HU (Up.drew _)) u1 | exact uph (uph HU (Up.drewN _ _)) u1 : Hid (Up w w1)))
      | (go_at_call 19; (with_reducible refine (H20.out _).mono ?_); rintro e w2 ⟨x2, rfl, hx2, u2⟩; have d0 := up_cell u2.out (by first | exact c0); have d1 := up_cell u2.out (by first | exact c1); have d2 := up_cell u2.out (by first | exact c2); have d3 := up_cell u2.out (by first | exact c3); have d4 := up_cell u2.out (by first | exact c4); replace HU := (by first | exact uph HU u2 | exact uph (uph HU (Up.drew _)) u2 | exact uph (uph HU (Up.drewN _ _)) u2 : Hid (Up w w2)))
      | (go_at_call 17; (with_reducible refine (H17.out _).mono ?_); rintro e w3 ⟨x3, rfl, hx3, u3⟩; have f0 := up_cell u3.out (by first | exact d0); have f1 := up_cell u3.out (by first | exact d1); have f2 := up_cell u3.out (by first | exact d2); have f3 := up_cell u3.out (by first | exact d3); have f4 := up_cell u3.out (by first | exact d4); replace HU := (by first | exact uph HU u3 | exact uph (uph HU (Up.drew _)) u3 | exact uph (uph HU (Up.drewN _ _)) u3 : Hid (Up w w3)))
      | (go_at_call 17; (with_reducible refine (H18.out _).mono ?_); rintro e w4 ⟨x4, rfl, hx4, u4⟩; have g0 := up_cell u4.out (by first | exact f0); have g1 := up_cell u4.out (by first | exact f1); have g2 := up_cell u4.out (by first | exact f2); have g3 := up_cell u4.out (by first | exact f3); have g4 := up_cell u4.out (by first | exact f4); replace HU := (by first | exact uph HU u4 | exact uph (uph HU (Up.drew _)) u4 | exact uph (uph HU (Up.drewN _ _)) u4 : Hid (Up w w4)))
      | ((with_reducible refine upon_fl (op := .quo) (by simp) ?_); intro x5 n5 hx5))
    all_goals go_ret
    all_goals (go_tidy; refine ⟨?_, HU.out.trans (Up.drewN _ _)⟩)
    all_goals first | rfl | (simp_all; done)
end Go.Proofs.Ytcekbnjgdgapgaa
