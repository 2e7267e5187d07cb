/- The walk of GateBack. -/
import Derived.Test.YtcekbnjgdgapgaaLk
import Derived.Test.YtcekbnjgdgapgaaBb
import Derived.Deep.CutRange
namespace Go.Proofs.Ytcekbnjgdgapgaa
open Go.ChangeShapes Go.WideShapes Go.ChangeAt Go.RowKit Go.Fl Ieee
attribute [local go_sem] run_store_float call36 call37 run_neg fold_eq fold_ne fold_lt fold_gt abs_eq

theorem wd_of {c : Nat} (h : goodF (ab c) = true) (hb : ((gtF (ab c) (ab 3110860544497550640) || eqF (ab c) (ab 3110860544497550640)) && (ltF (ab c) (ab 6103021453049119613) || eqF (ab c) (ab 6103021453049119613))) = true) : Wd c := by
  obtain ⟨f, p⟩ := good_val h
  have f1 : Fnt 3110860544497550640 := by unfold Fnt; decide
  have f2 : Fnt 6103021453049119613 := by unfold Fnt; decide
  have v1 : pw (-333) ≤ val 3110860544497550640 := by decide +kernel
  have v2 : val 6103021453049119613 ≤ pw 333 := by decide +kernel
  rw [gtF_val f f1, eqF_val f f1, ltF_val f f2, eqF_val f f2] at hb
  simp only [Bool.and_eq_true, Bool.or_eq_true, decide_eq_true_eq] at hb
  exact ⟨f, by grind, by grind⟩
theorem w24 (w : World) : Calls Try.prog 24 #[.float .f64 0] w fun e w' => e = .returned (.bool false) ∧ w' = w := by
  go_enter Try.func24, Try.ntmps24
  go_wp2
  go_ret
  exact ⟨rfl, rfl⟩
def BkA (c v r : Option Nat) (E R cell turns : Int) (p1 : Option Nat) (k : Int) : Prop := k = 0 → ∀ x, ab x = p1 → cellF c v r E R (ab x) = (cell, turns, 0)
theorem bkA {c v r : Nat} {E R cell turns : Int} {p1 : Option Nat} {k : Int} {x : Nat} (H : Hid (BkA (ab c) (ab v) (ab r) E R cell turns p1 k)) (hk : k = 0) (hx : Hid (ab x = p1)) (w : World) : Calls Try.prog 11 #[.agg #[.float .f64 c, .float .f64 v, .float .f64 r, .int .i64 E, .int .i64 R], .float .f64 x] w fun e w' => e = .returned (.tuple #[.int .i64 cell, .int .i64 turns, .int .i64 0]) ∧ Hid (Up w w') :=
  (t11 _ _ _ _ _ _ w).mono fun _ _ h => h.k (H.out hk x hx.out)
def BkB (cell turns cell2 turns2 : Int) (p1 q1 : Option Nat) (k k' : Int) : Prop := k = 0 → k' = 0 → (turns < turns2 ∨ turns = turns2 ∧ cell < cell2) → ∀ x y, ab x = p1 → ab y = q1 → (ltF (ab x) (ab y) || eqF (ab x) (ab y)) = true
theorem bkB {cell turns cell2 turns2 : Int} {p1 q1 : Option Nat} {k k' : Int} {x y : Nat} (H : Hid (BkB cell turns cell2 turns2 p1 q1 k k')) (h1 : k = 0) (h2 : k' = 0) (h3 : turns < turns2 ∨ turns = turns2 ∧ cell < cell2) (hx : Hid (ab x = p1)) (hy : Hid (ab y = q1)) : (ltF (ab x) (ab y) || eqF (ab x) (ab y)) = true := H.out h1 h2 h3 x y hx.out hy.out
theorem bk11 {c v r : Nat} {E R z : Int} (hk : Hid (checkF (ab c) (ab v) (ab r) E R = 0)) (h0 : 0 ≤ z) (hz : z < 1125899906842624) (w : World) : Calls Try.prog 11 #[.agg #[.float .f64 4607182418800017408, .float .f64 v, .float .f64 r, .int .i64 E, .int .i64 R], .float .f64 (floatOfInt .f64 z)] w fun e w' => e = .returned (.tuple #[.int .i64 (z % E), .int .i64 (z / E), .int .i64 0]) ∧ Hid (Up w w') :=
  (t11 _ _ _ _ _ _ w).mono fun _ _ h => h.k (cell_one hk.out h0 hz)
theorem bk11n {c v r : Nat} {E R far n z : Int} (hk : Hid (checkF (ab c) (ab v) (ab r) E R = 0)) (he : 1 ≤ E) (h0 : 0 ≤ z) (hz : z < 1125899906842624) (h : z = far + n * E) (w : World) : Calls Try.prog 11 #[.agg #[.float .f64 4607182418800017408, .float .f64 v, .float .f64 r, .int .i64 E, .int .i64 R], .float .f64 (floatOfInt .f64 z)] w fun e w' => e = .returned (.tuple #[.int .i64 (far % E), .int .i64 (far / E + n), .int .i64 0]) ∧ Hid (Up w w') := by
  refine (bk11 hk h0 hz w).mono ?_
  rintro e w' ⟨rfl, hu⟩
  refine ⟨?_, hu⟩
  rw [h, Int.add_mul_emod_self_right, Int.add_mul_ediv_right _ _ (by omega)]
theorem bin0 {c v r : Nat} {E R : Int} (hk : checkF (ab c) (ab v) (ab r) E R = 0) : ∃ g : Int, (g = 0 ∨ g = 6) ∧ ∀ w, Calls Try.prog 17 #[.agg #[.float .f64 c, .float .f64 v, .float .f64 r, .int .i64 E, .int .i64 R], .float .f64 0] w fun e w' => e = .returned (.tuple #[.float .f64 0, .int .i64 g]) ∧ Hid (Up w w') := by
  rcases bin_zero hk with h | h
  · exact ⟨0, Or.inl rfl, fun w => (t17 _ _ _ _ _ _ w).mono fun _ _ q => q.k h⟩
  · exact ⟨6, Or.inr rfl, fun w => (t17 _ _ _ _ _ _ w).mono fun _ _ q => q.k h⟩
set_option maxRecDepth 100000 in
set_option maxHeartbeats 1000000 in
theorem t5no (c v r : Nat) (E R cell turns cell2 turns2 far n : Int) (w : World) (h : checkF (ab c) (ab v) (ab r) E R ≠ 0 ∨ ((gtF (ab c) (ab 3110860544497550640) || eqF (ab c) (ab 3110860544497550640)) && (ltF (ab c) (ab 6103021453049119613) || eqF (ab c) (ab 6103021453049119613))) = false) : Calls Try.prog 5 #[.agg #[.float .f64 c, .float .f64 v, .float .f64 r, .int .i64 E, .int .i64 R], .int .i64 cell, .int .i64 turns, .int .i64 cell2, .int .i64 turns2, .int .i64 far, .int .i64 n] w (TU w) := by
  have H9 : Hid (∀ w, Calls Try.prog 9 #[.agg #[.float .f64 c, .float .f64 v, .float .f64 r, .int .i64 E, .int .i64 R]] w (IU w (checkF (ab c) (ab v) (ab r) E R))) := fun w => t9 c v r E R w
  have HB := BC.new w c v r E R
  have HU : Hid (Up w (w.alloc (.cells #[.float .f64 c, .float .f64 v, .float .f64 r, .int .i64 E, .int .i64 R] 24))) := Up.alloc _ _
  obtain ⟨b0, b1, b2, b3, b4⟩ := HB
  by_cases hk : checkF (ab c) (ab v) (ab r) E R = 0
  · have hb : ((gtF (ab c) (ab 3110860544497550640) || eqF (ab c) (ab 3110860544497550640)) && (ltF (ab c) (ab 6103021453049119613) || eqF (ab c) (ab 6103021453049119613))) = false := h.resolve_left (by simp [hk])
    rw [hk] at H9
    clear hk h
    go_enter Try.func5, Try.ntmps5
    go_wp2_with (first
      | (go_at_call 16; (with_reducible refine (t16 _).mono ?_); rintro e w0 ⟨rfl, u0⟩; have a0 := up_cell u0.out (by first | exact b0 | exact c0); have a1 := up_cell u0.out (by first | exact b1 | exact c1); have a2 := up_cell u0.out (by first | exact b2 | exact c2); have a3 := up_cell u0.out (by first | exact b3 | exact c3); have a4 := up_cell u0.out (by first | exact b4 | exact c4); replace HU := uph HU u0)
      | (go_at_call 9; (with_reducible refine (H9.out _).mono ?_); rintro e w1 ⟨rfl, u1⟩; have c0 := up_cell u1.out (by first | exact a0); have c1 := up_cell u1.out (by first | exact a1); have c2 := up_cell u1.out (by first | exact a2); have c3 := up_cell u1.out (by first | exact a3); have c4 := up_cell u1.out (by first | exact a4); replace HU := (by first | exact uph HU u1 | exact uph (uph HU (Up.drew _)) u1 | exact uph (uph HU (Up.drewN _ _)) u1 : Hid (Up w w1)))
      | (go_at_call 23; (with_reducible refine (t23 _ _ _ _).mono ?_); rintro e w' ⟨rfl, rfl⟩))
    go_ret
    exact ⟨rfl, HU⟩
  · generalize checkF (ab c) (ab v) (ab r) E R = k at *
    clear h
    go_enter Try.func5, Try.ntmps5
    go_wp2_with (first
      | (go_at_call 16; (with_reducible refine (t16 _).mono ?_); rintro e w0 ⟨rfl, u0⟩; have a0 := up_cell u0.out (by first | exact b0 | exact c0); have a1 := up_cell u0.out (by first | exact b1 | exact c1); have a2 := up_cell u0.out (by first | exact b2 | exact c2); have a3 := up_cell u0.out (by first | exact b3 | exact c3); have a4 := up_cell u0.out (by first | exact b4 | exact c4); replace HU := uph HU u0)
      | (go_at_call 9; (with_reducible refine (H9.out _).mono ?_); rintro e w1 ⟨rfl, u1⟩; have c0 := up_cell u1.out (by first | exact a0); have c1 := up_cell u1.out (by first | exact a1); have c2 := up_cell u1.out (by first | exact a2); have c3 := up_cell u1.out (by first | exact a3); have c4 := up_cell u1.out (by first | exact a4); replace HU := (by first | exact uph HU u1 | exact uph (uph HU (Up.drew _)) u1 | exact uph (uph HU (Up.drewN _ _)) u1 : Hid (Up w w1)))
      | (go_at_call 23; (with_reducible refine (t23 _ _ _ _).mono ?_); rintro e w' ⟨rfl, rfl⟩))
    go_ret
    exact ⟨rfl, HU⟩
set_option maxRecDepth 100000 in
set_option maxHeartbeats 2000000 in
theorem t5yes (c v r : Nat) (E R cell turns cell2 turns2 far n : Int) (w : World) (hk : checkF (ab c) (ab v) (ab r) E R = 0) (hb : ((gtF (ab c) (ab 3110860544497550640) || eqF (ab c) (ab 3110860544497550640)) && (ltF (ab c) (ab 6103021453049119613) || eqF (ab c) (ab 6103021453049119613))) = true) : Calls Try.prog 5 #[.agg #[.float .f64 c, .float .f64 v, .float .f64 r, .int .i64 E, .int .i64 R], .int .i64 cell, .int .i64 turns, .int .i64 cell2, .int .i64 turns2, .int .i64 far, .int .i64 n] w (TU w) := by
  have hwd := wd_of (check0 hk).c hb
  have hE1 := (check0 hk).e1
  have hE2 := (check0 hk).e2
  have H9 : Hid (∀ w, Calls Try.prog 9 #[.agg #[.float .f64 c, .float .f64 v, .float .f64 r, .int .i64 E, .int .i64 R]] w (IU w 0)) := fun w => by rw [← hk]; exact t9 c v r E R w
  have H13 : Hid (∀ w, Calls Try.prog 13 #[.agg #[.float .f64 c, .float .f64 v, .float .f64 r, .int .i64 E, .int .i64 R], .int .i64 cell, .int .i64 turns] w (PR w (metF (ab c) (ab v) (ab r) E R cell turns))) := fun w => t13 c v r E R cell turns w
  have H13' : Hid (∀ w, Calls Try.prog 13 #[.agg #[.float .f64 c, .float .f64 v, .float .f64 r, .int .i64 E, .int .i64 R], .int .i64 cell2, .int .i64 turns2] w (PR w (metF (ab c) (ab v) (ab r) E R cell2 turns2))) := fun w => t13 c v r E R cell2 turns2 w
  have HA : Hid (BkA (ab c) (ab v) (ab r) E R cell turns (metF (ab c) (ab v) (ab r) E R cell turns).1 (metF (ab c) (ab v) (ab r) E R cell turns).2) := fun h x hx => (back hk hwd h hx).1
  have HBB : Hid (BkB cell turns cell2 turns2 (metF (ab c) (ab v) (ab r) E R cell turns).1 (metF (ab c) (ab v) (ab r) E R cell2 turns2).1 (metF (ab c) (ab v) (ab r) E R cell turns).2 (metF (ab c) (ab v) (ab r) E R cell2 turns2).2) := fun h h' ho x y hx hy => back2 hk hwd h hx h' hy ho
  generalize metF (ab c) (ab v) (ab r) E R cell turns = p at *
  generalize metF (ab c) (ab v) (ab r) E R cell2 turns2 = q at *
  obtain ⟨p1, k⟩ := p
  obtain ⟨q1, k'⟩ := q
  obtain ⟨g, hg, hG⟩ := bin0 hk
  have HG : Hid (∀ w, Calls Try.prog 17 #[.agg #[.float .f64 c, .float .f64 v, .float .f64 r, .int .i64 E, .int .i64 R], .float .f64 0] w fun e w' => e = .returned (.tuple #[.float .f64 0, .int .i64 g]) ∧ Hid (Up w w')) := hG
  have Hg : Hid (g = 0 ∨ g = 6) := hg
  have HK : Hid (checkF (ab c) (ab v) (ab r) E R = 0) := hk
  clear hk hwd hG hg
  have HB := BC.new w c v r E R
  have HU : Hid (Up w (w.alloc (.cells #[.float .f64 c, .float .f64 v, .float .f64 r, .int .i64 E, .int .i64 R] 24))) := Up.alloc _ _
  obtain ⟨b0, b1, b2, b3, b4⟩ := HB
  go_enter Try.func5, Try.ntmps5
  go_upto_if 60 with (first
      | (go_at_call 16; (with_reducible refine (t16 _).mono ?_); rintro e w0 ⟨rfl, u0⟩; have a0 := up_cell u0.out (by first | exact b0); have a1 := up_cell u0.out (by first | exact b1); have a2 := up_cell u0.out (by first | exact b2); have a3 := up_cell u0.out (by first | exact b3); have a4 := up_cell u0.out (by first | exact b4); replace HU := (by first | exact uph HU u0 | exact uph (uph HU (Up.drew _)) u0 | exact uph (uph HU (Up.drewN _ _)) u0 : Hid (Up w w0)))
      | (go_at_call 9; (with_reducible refine (H9.out _).mono ?_); rintro e w1 ⟨rfl, u1⟩; have c0 := up_cell u1.out (by first | exact a0); have c1 := up_cell u1.out (by first | exact a1); have c2 := up_cell u1.out (by first | exact a2); have c3 := up_cell u1.out (by first | exact a3); have c4 := up_cell u1.out (by first | exact a4); replace HU := (by first | exact uph HU u1 | exact uph (uph HU (Up.drew _)) u1 | exact uph (uph HU (Up.drewN _ _)) u1 : Hid (Up w w1)))
      | (go_at_call 23; (with_reducible refine (t23 _ _ _ _).mono ?_); rintro e w' ⟨rfl, rfl⟩)
      | (go_at_call 13; (with_reducible refine (H13.out _).mono ?_); rintro e w2 ⟨x2, rfl, hx2, u2⟩; have d0 := up_cell u2.out (by first | exact c0); have d1 := up_cell u2.out (by first | exact c1); have d2 := up_cell u2.out (by first | exact c2); have d3 := up_cell u2.out (by first | exact c3); have d4 := up_cell u2.out (by first | exact c4); replace HU := (by first | exact uph HU u2 | exact uph (uph HU (Up.drew _)) u2 | exact uph (uph HU (Up.drewN _ _)) u2 : Hid (Up w w2)))
      | (go_at_call 13; (with_reducible refine (H13'.out _).mono ?_); rintro e w3 ⟨x3, rfl, hx3, u3⟩; have f0 := up_cell u3.out (by first | exact d0); have f1 := up_cell u3.out (by first | exact d1); have f2 := up_cell u3.out (by first | exact d2); have f3 := up_cell u3.out (by first | exact d3); have f4 := up_cell u3.out (by first | exact d4); replace HU := (by first | exact uph HU u3 | exact uph (uph HU (Up.drew _)) u3 | exact uph (uph HU (Up.drewN _ _)) u3 : Hid (Up w w3))))
  generalize w.heap.size = s0 at *
  go_cut [] from 59 (fun wx => BC wx s0 c v r E R ∧ Hid (Up w wx))
  case first =>
    by_cases he : k = 0
    · subst he
      go_wp2_with (first
        | (go_at_call 11; (with_reducible refine (bkA HA rfl hx2 _).mono ?_); rintro e w4 ⟨rfl, u4⟩; have i0 := up_cell u4.out (by first | exact f0); have i1 := up_cell u4.out (by first | exact f1); have i2 := up_cell u4.out (by first | exact f2); have i3 := up_cell u4.out (by first | exact f3); have i4 := up_cell u4.out (by first | exact f4); replace HU := (by first | exact uph HU u4 | exact uph (uph HU (Up.drew _)) u4 | exact uph (uph HU (Up.drewN _ _)) u4 : Hid (Up w w4))))
      go_meet
      case rel => exact ⟨⟨i0, i1, i2, i3, i4⟩, HU⟩
    · go_wp2
      go_meet
      case rel => exact ⟨⟨f0, f1, f2, f3, f4⟩, HU⟩
  case rest =>
    obtain ⟨⟨l0, l1, l2, l3, l4⟩, HU1⟩ := hcut
    go_upto_region 9 with fail
    go_cut [106] from 59 (fun s106 wx => s106 = .bool false ∧ BC wx s0 c v r E R ∧ Hid (Up w wx))
    case first =>
      by_cases h1 : k = 0
      · subst h1
        by_cases h2 : k' = 0
        · subst h2
          by_cases h3 : turns < turns2
          · have hle := bkB HBB rfl rfl (Or.inl h3) hx2 hx3
            go_wp2
            go_meet
            case rel => exact ⟨rfl, ⟨l0, l1, l2, l3, l4⟩, HU1⟩
          · by_cases h4 : turns = turns2
            · subst h4
              by_cases h5 : cell < cell2
              · have hle := bkB HBB rfl rfl (Or.inr ⟨rfl, h5⟩) hx2 hx3
                go_wp2
                go_meet
                case rel => exact ⟨rfl, ⟨l0, l1, l2, l3, l4⟩, HU1⟩
              · go_wp2
                go_meet
                case rel => exact ⟨rfl, ⟨l0, l1, l2, l3, l4⟩, HU1⟩
            · go_wp2
              go_meet
              case rel => exact ⟨rfl, ⟨l0, l1, l2, l3, l4⟩, HU1⟩
        · go_wp2
          go_meet
          case rel => exact ⟨rfl, ⟨l0, l1, l2, l3, l4⟩, HU1⟩
      · go_wp2
        go_meet
        case rel => exact ⟨rfl, ⟨l0, l1, l2, l3, l4⟩, HU1⟩
    case rest =>
      obtain ⟨rfl, ⟨m0, m1, m2, m3, m4⟩, HU2⟩ := hcut
      clear HA HBB H13 H13' H9 hx2 hx3 HU HU1
      go_upto_region 12 with (first
        | (go_at_call 17; (with_reducible refine (HG.out _).mono ?_); rintro e w5 ⟨rfl, u5⟩; have o0 := up_cell u5.out m0; have o1 := up_cell u5.out m1; have o2 := up_cell u5.out m2; have o3 := up_cell u5.out m3; have o4 := up_cell u5.out m4; have HU3 := uph HU2 u5))
      go_cut [129] from 59 (fun s129 wx => s129 = .bool false ∧ BC wx s0 c v r E R ∧ Hid (Up w wx))
      case first =>
        have ez : eqF (ab 0) (ab 0) = true := by decide +kernel
        rcases Hg.out with hg | hg
        · subst hg
          go_wp2_with (go_at_call 24; (with_reducible refine (w24 _).mono ?_); rintro e w' ⟨rfl, rfl⟩)
          go_meet
          case rel => exact ⟨rfl, ⟨o0, o1, o2, o3, o4⟩, HU3⟩
        · subst hg
          go_wp2
          go_meet
          case rel => exact ⟨rfl, ⟨o0, o1, o2, o3, o4⟩, HU3⟩
      case rest =>
        obtain ⟨rfl, HC, HU4⟩ := hcut
        have HC' := HC
        obtain ⟨n0, n1, n2, n3, n4⟩ := HC'
        by_cases hf : 0 ≤ far ∧ far < 562949953421312 ∧ 0 ≤ n ∧ n ≤ 1048576
        · obtain ⟨g1, g2, g3, g4⟩ := hf
          have e1 := Int.mul_nonneg g3 (show 0 ≤ E by omega)
          have e2 := Int.mul_le_mul g4 hE2 (by omega) (by omega)
          obtain ⟨d1, d2⟩ := quo_in g1 hE1
          have d3 := Int.emod_nonneg far (show E ≠ 0 by omega)
          have d4 := Int.emod_lt_of_pos far (show 0 < E by omega)
          have HN : Hid (BC (wc.alloc (.cells #[.float .f64 4607182418800017408, .float .f64 v, .float .f64 r, .int .i64 E, .int .i64 R] 24)) wc.heap.size 4607182418800017408 v r E R) := BC.new wc _ _ _ _ _
          go_wp2_with (first
            | (go_at_call 11; (with_reducible refine (bk11 HK g1 (by omega) _).mono ?_); rintro e w6 ⟨rfl, u6⟩; obtain ⟨q0, q1, q2, q3, q4⟩ := HN.out.up u6.out; have q5 := up_cell ((Up.alloc _ _).trans u6.out) n3; have HU5 := uph (uph HU4 (Up.alloc _ _)) u6)
            | (go_at_call 11; (with_reducible refine (bk11n HK hE1 (by omega) (by omega) rfl _).mono ?_); rintro e w7 ⟨rfl, u7⟩; have q6 := up_cell u7.out q5; have HU6 := uph HU5 u7))
          go_ret
          exact ⟨rfl, HU6⟩
        · go_wp2
          all_goals go_ret
          all_goals exact ⟨rfl, HU4⟩
theorem t5 (c v r : Nat) (E R cell turns cell2 turns2 far n : Int) (w : World) : Calls Try.prog 5 #[.agg #[.float .f64 c, .float .f64 v, .float .f64 r, .int .i64 E, .int .i64 R], .int .i64 cell, .int .i64 turns, .int .i64 cell2, .int .i64 turns2, .int .i64 far, .int .i64 n] w (TU w) := by
  by_cases hk : checkF (ab c) (ab v) (ab r) E R = 0
  · cases hb : ((gtF (ab c) (ab 3110860544497550640) || eqF (ab c) (ab 3110860544497550640)) && (ltF (ab c) (ab 6103021453049119613) || eqF (ab c) (ab 6103021453049119613)))
    · exact t5no c v r E R cell turns cell2 turns2 far n w (Or.inr hb)
    · exact t5yes c v r E R cell turns cell2 turns2 far n w hk hb
  · exact t5no c v r E R cell turns cell2 turns2 far n w (Or.inl hk)
end Go.Proofs.Ytcekbnjgdgapgaa
