/- One, walked. -/
import Derived.Test.YtijfmaepoamkgaaNa
namespace Go.Proofs.Ytijfmaepoamkgaa
open Go.ChangeShapes Go.WideShapes Go.ChangeAt Go.RowKit Go.Fl Go.Sort
attribute [local go_sem] run_store_float call53 run_neg fold_eq fold_ne fold_lt fold_gt abs_eq

/-- How many of the four are known to be finite. -/
def G4 (z : Int) (bi ga po tm : Nat) : Prop := (1 ≤ z → fin (ab bi) = true) ∧ (2 ≤ z → fin (ab ga) = true) ∧ (3 ≤ z → fin (ab po) = true) ∧ (4 ≤ z → fin (ab tm) = true)
theorem size28' : (Try.prog.info? 28).map (·.size) = some (#[Value.float .f64 0, .float .f64 0, .float .f64 0, .float .f64 0, .float .f64 0] : Array Value).size := by kernel_rfl
theorem zero_ab : Plt.zero.ab = (⟨0, 0, 0, 0, 0⟩ : Plt).ab := rfl
theorem four_no {b1 b2 b3 b4 : Bool} (h : b1 = false ∨ b2 = false ∨ b3 = false ∨ b4 = false) : (b1 && b2 && b3 && b4) = false := by
  rcases h with rfl | rfl | rfl | rfl <;> simp
set_option maxRecDepth 20000 in
set_option maxHeartbeats 2000000 in
theorem t9 (c v r : Nat) (E R : Int) (bi ga po : Nat) (sp : Int) (tm : Nat) (w : World) : Calls Try.prog 9 #[.agg #[.float .f64 c, .float .f64 v, .float .f64 r, .int .i64 E, .int .i64 R], .agg #[.float .f64 bi, .float .f64 ga, .float .f64 po, .int .i64 sp], .float .f64 tm] w (OneR w (oneF c v r E R bi ga po tm)) := by
  have HN : Hid (On w w.heap.size c v r E R bi ga po sp (onW w c v r E R bi ga po sp)) := on_new w c v r E R bi ga po sp
  have CK : Hid (∀ w, Calls Try.prog 26 #[.agg #[.float .f64 c, .float .f64 v, .float .f64 r, .int .i64 E, .int .i64 R]] w (Gt.IU w (Gt.checkF (ab c) (ab v) (ab r) E R))) := fun w => Gt.t26 c v r E R w
  have SP : Hid (∀ w, Calls Try.prog 28 #[.agg #[.float .f64 c, .float .f64 v, .float .f64 r, .int .i64 E, .int .i64 R], .float .f64 bi] w (Gt.PR w (Gt.speedF (ab c) (ab v) (ab r) E R (ab bi)))) := fun w => Gt.t28 c v r E R bi w
  generalize hA0 : oneF c v r E R bi ga po tm = A at *
  have HA : Hid (A = oneF c v r E R bi ga po tm) := hA0.symm
  clear hA0
  unfold oneF at HA
  generalize hC : Gt.checkF (ab c) (ab v) (ab r) E R = C at *
  generalize hS : Gt.speedF (ab c) (ab v) (ab r) E R (ab bi) = S at *
  clear hC hS
  obtain ⟨b0, b1, b2, b3, b4⟩ := HN.out.bt.cells
  by_cases hc : C = 0
  · subst hc
    have HA2 : Hid (A = if (fin (ab bi) && fin (ab ga) && fin (ab po) && fin (ab tm)) = false then (Plt.zero.ab, 6) else if S.2 ≠ 0 then (Plt.zero.ab, S.2) else (⟨bin .mul (bin .add (ab ga) (ab 4602678819172646912)) (ab c), S.1, ab po, ab 0, ab tm⟩, 0)) := by
      have e := HA.out
      rw [if_neg (by simp)] at e
      exact e
    clear HA
    go_enter Try.func9, Try.ntmps9
    go_wp2_with (go_at_call 26; (with_reducible refine (CK.out _).mono ?_); rintro e w1 ⟨rfl, HU1⟩; (have HN1 : Hid (On w w.heap.size c v r E R bi ga po sp w1) := HN.out.upon HU1.out); (have g0 := HN1.out.g0); (have g1 := HN1.out.g1); (have g2 := HN1.out.g2))
    have HA1 := HN1.out.ans
    generalize hx : w.heap.size = x at *
    go_loopw [10, 27] (fun _ vi wr => ∃ z : Int, (z = 0 ∨ z = 1 ∨ z = 2 ∨ z = 3 ∨ z = 4) ∧ vi = .int .i64 z ∧ w1 = wr ∧ Hid (G4 z bi ga po tm)) (fun _ vi _ => 4 - (intOf vi).toNat)
    case atStart => exact ⟨0, by omega, rfl, rfl, ⟨fun h => by omega, fun h => by omega, fun h => by omega, fun h => by omega⟩⟩
    case round =>
      obtain ⟨z, hz, rfl, hw, HG⟩ := hrel
      subst hw
      rcases hz with rfl | rfl | rfl | rfl | rfl
      · cases hb : fin (ab bi)
        · go_wp2_with (first
            | (refine wpList_index4 0 bi rfl rfl _ _ rfl rfl rfl (by omega) ?_)
            | (go_at_call 27; (with_reducible refine (t27 bi _).mono ?_); rintro e w' ⟨rfl, hw⟩; subst w'; rw [hb])
            | (refine wpList_store_mid rfl 28 _ _ rfl (x + 1 + 1) 0 _ rfl rfl (Bk.there HA1) size28' (by simp [Value.oneCell']) ?_))
          refine bodyPost_ret (results_plot Try.results9 _ _ (x + 1 + 1) (.float .f64 0) (.float .f64 0) (.float .f64 0) (.float .f64 0) (.float .f64 0) rfl (Bk.set HA1 _ _ _ _ _)) rfl ?_
          rw [HA2.out, if_pos (four_no (by simp [hb]))]
          exact ⟨⟨0, 0, 0, 0, 0⟩, rfl, rfl, up_set HN1.out.up (by rw [hx]; omega) _ _⟩
        · go_wp2_with (first
            | (refine wpList_index4 0 bi rfl rfl _ _ rfl rfl rfl (by omega) ?_)
            | (go_at_call 27; (with_reducible refine (t27 bi _).mono ?_); rintro e w' ⟨rfl, hw⟩; subst w'; rw [hb]))
          go_roundw
          case rel => exact ⟨1, by omega, rfl, by simp, ⟨fun _ => hb, fun h => by omega, fun h => by omega, fun h => by omega⟩⟩
          case measure => simp [intOf]
      · cases hb : fin (ab ga)
        · go_wp2_with (first
            | (refine wpList_index4 1 ga rfl rfl _ _ rfl rfl rfl (by omega) ?_)
            | (go_at_call 27; (with_reducible refine (t27 ga _).mono ?_); rintro e w' ⟨rfl, hw⟩; subst w'; rw [hb])
            | (refine wpList_store_mid rfl 28 _ _ rfl (x + 1 + 1) 0 _ rfl rfl (Bk.there HA1) size28' (by simp [Value.oneCell']) ?_))
          refine bodyPost_ret (results_plot Try.results9 _ _ (x + 1 + 1) (.float .f64 0) (.float .f64 0) (.float .f64 0) (.float .f64 0) (.float .f64 0) rfl (Bk.set HA1 _ _ _ _ _)) rfl ?_
          rw [HA2.out, if_pos (four_no (by simp [hb]))]
          exact ⟨⟨0, 0, 0, 0, 0⟩, rfl, rfl, up_set HN1.out.up (by rw [hx]; omega) _ _⟩
        · go_wp2_with (first
            | (refine wpList_index4 1 ga rfl rfl _ _ rfl rfl rfl (by omega) ?_)
            | (go_at_call 27; (with_reducible refine (t27 ga _).mono ?_); rintro e w' ⟨rfl, hw⟩; subst w'; rw [hb]))
          go_roundw
          case rel => exact ⟨2, by omega, rfl, by simp, ⟨fun _ => HG.out.1 (by omega), fun _ => hb, fun h => by omega, fun h => by omega⟩⟩
          case measure => simp [intOf]
      · cases hb : fin (ab po)
        · go_wp2_with (first
            | (refine wpList_index4 2 po rfl rfl _ _ rfl rfl rfl (by omega) ?_)
            | (go_at_call 27; (with_reducible refine (t27 po _).mono ?_); rintro e w' ⟨rfl, hw⟩; subst w'; rw [hb])
            | (refine wpList_store_mid rfl 28 _ _ rfl (x + 1 + 1) 0 _ rfl rfl (Bk.there HA1) size28' (by simp [Value.oneCell']) ?_))
          refine bodyPost_ret (results_plot Try.results9 _ _ (x + 1 + 1) (.float .f64 0) (.float .f64 0) (.float .f64 0) (.float .f64 0) (.float .f64 0) rfl (Bk.set HA1 _ _ _ _ _)) rfl ?_
          rw [HA2.out, if_pos (four_no (by simp [hb]))]
          exact ⟨⟨0, 0, 0, 0, 0⟩, rfl, rfl, up_set HN1.out.up (by rw [hx]; omega) _ _⟩
        · go_wp2_with (first
            | (refine wpList_index4 2 po rfl rfl _ _ rfl rfl rfl (by omega) ?_)
            | (go_at_call 27; (with_reducible refine (t27 po _).mono ?_); rintro e w' ⟨rfl, hw⟩; subst w'; rw [hb]))
          go_roundw
          case rel => exact ⟨3, by omega, rfl, by simp, ⟨fun _ => HG.out.1 (by omega), fun _ => HG.out.2.1 (by omega), fun _ => hb, fun h => by omega⟩⟩
          case measure => simp [intOf]
      · cases hb : fin (ab tm)
        · go_wp2_with (first
            | (refine wpList_index4 3 tm rfl rfl _ _ rfl rfl rfl (by omega) ?_)
            | (go_at_call 27; (with_reducible refine (t27 tm _).mono ?_); rintro e w' ⟨rfl, hw⟩; subst w'; rw [hb])
            | (refine wpList_store_mid rfl 28 _ _ rfl (x + 1 + 1) 0 _ rfl rfl (Bk.there HA1) size28' (by simp [Value.oneCell']) ?_))
          refine bodyPost_ret (results_plot Try.results9 _ _ (x + 1 + 1) (.float .f64 0) (.float .f64 0) (.float .f64 0) (.float .f64 0) (.float .f64 0) rfl (Bk.set HA1 _ _ _ _ _)) rfl ?_
          rw [HA2.out, if_pos (four_no (by simp [hb]))]
          exact ⟨⟨0, 0, 0, 0, 0⟩, rfl, rfl, up_set HN1.out.up (by rw [hx]; omega) _ _⟩
        · go_wp2_with (first
            | (refine wpList_index4 3 tm rfl rfl _ _ rfl rfl rfl (by omega) ?_)
            | (go_at_call 27; (with_reducible refine (t27 tm _).mono ?_); rintro e w' ⟨rfl, hw⟩; subst w'; rw [hb]))
          go_roundw
          case rel => exact ⟨4, by omega, rfl, by simp, ⟨fun _ => HG.out.1 (by omega), fun _ => HG.out.2.1 (by omega), fun _ => HG.out.2.2.1 (by omega), fun _ => hb⟩⟩
          case measure => simp [intOf]
      · have q1 := HG.out.1 (by omega)
        have q2 := HG.out.2.1 (by omega)
        have q3 := HG.out.2.2.1 (by omega)
        have q4 := HG.out.2.2.2 (by omega)
        clear HG
        have hall : (fin (ab bi) && fin (ab ga) && fin (ab po) && fin (ab tm)) = true := by simp [q1, q2, q3, q4]
        have HA3 : Hid (A = if S.2 ≠ 0 then (Plt.zero.ab, S.2) else (⟨bin .mul (bin .add (ab ga) (ab 4602678819172646912)) (ab c), S.1, ab po, ab 0, ab tm⟩, 0)) := by
          have e := HA2.out
          rw [if_neg (by simp [hall])] at e
          exact e
        clear HA2 hall
        obtain ⟨S1, S2⟩ := S
        simp only at *
        obtain ⟨d0, d1, d2, d3, d4⟩ := HN1.out.bt.cells
        by_cases hs : S2 = 0
        · subst hs
          have HA4 : Hid (A = (⟨bin .mul (bin .add (ab ga) (ab 4602678819172646912)) (ab c), S1, ab po, ab 0, ab tm⟩, 0)) := by
            have e := HA3.out
            rw [if_neg (by simp)] at e
            exact e
          clear HA3
          go_wp2_with (first
            | (go_at_call 28; (with_reducible refine (SP.out _).mono ?_); rintro e w3 ⟨sv, rfl, HSv, HU3⟩; (have HN3 : Hid (On w x c v r E R bi ga po sp w3) := HN1.out.upon HU3.out); (obtain ⟨j0, j1, j2, j3, j4⟩ := HN3.out.bt.cells); (have i1 := HN3.out.g1); (have i2 := HN3.out.g2))
            | ((fail_if_success have := HR5); (with_reducible refine upon_fl (by simp) ?_); intro r5 n5 hr5; (have HR5 : Hid (Go.Fl.ab r5 = bin .add (Go.Fl.ab ga) (Go.Fl.ab 4602678819172646912)) := hr5))
            | ((with_reducible refine upon_fl (by simp) ?_); intro r6 n6 hr6)
            | (refine wpList_store_mid rfl 28 _ _ rfl (x + 1 + 1) 0 _ rfl rfl (Bk.there (HN3.out.ans.up (Up.drewN _ _))) size28' (by simp [Value.oneCell']) ?_))
          refine bodyPost_ret (results_plot Try.results9 _ _ (x + 1 + 1) (.float .f64 r6) (.float .f64 sv) (.float .f64 po) (.float .f64 0) (.float .f64 tm) rfl (Bk.set (HN3.out.ans.up (Up.drewN _ _)) _ _ _ _ _)) rfl ?_
          rw [HA4.out]
          refine ⟨⟨r6, sv, po, 0, tm⟩, rfl, ?_, up_set (HN3.out.up.trans (Up.drewN _ _)) (by rw [hx]; omega) _ _⟩
          show Plt.ab ⟨r6, sv, po, 0, tm⟩ = _
          unfold Plt.ab
          simp only
          rw [hr6.out, HR5.out, HSv.out]
        · have HA4 : Hid (A = (Plt.zero.ab, S2)) := by
            have e := HA3.out
            rw [if_pos hs] at e
            exact e
          have hsb : (S2 != 0) = true := by simp [hs]
          clear HA3 hs
          go_wp2_with (first
            | (go_at_call 28; (with_reducible refine (SP.out _).mono ?_); rintro e w3 ⟨sv, rfl, HSv, HU3⟩; (have HN3 : Hid (On w x c v r E R bi ga po sp w3) := HN1.out.upon HU3.out))
            | (refine wpList_store_mid rfl 28 _ _ rfl (x + 1 + 1) 0 _ rfl rfl (Bk.there HN3.out.ans) size28' (by simp [Value.oneCell']) ?_))
          refine bodyPost_ret (results_plot Try.results9 _ _ (x + 1 + 1) (.float .f64 0) (.float .f64 0) (.float .f64 0) (.float .f64 0) (.float .f64 0) rfl (Bk.set HN3.out.ans _ _ _ _ _)) rfl ?_
          rw [HA4.out]
          exact ⟨⟨0, 0, 0, 0, 0⟩, rfl, rfl, up_set HN3.out.up (by rw [hx]; omega) _ _⟩
  · have HA2 : Hid (A = (Plt.zero.ab, C)) := by
      have e := HA.out
      rw [if_pos hc] at e
      exact e
    have hcb : (C != 0) = true := by simp [hc]
    have HC : Hid (C ≠ 0) := hc
    have HA1 := HN.out.ans
    clear HA hc
    go_enter Try.func9, Try.ntmps9
    go_wp2_with (first
      | (go_at_call 26; (with_reducible refine (CK.out _).mono ?_); rintro e w1 ⟨rfl, HU1⟩; (have HN1 : Hid (On w w.heap.size c v r E R bi ga po sp w1) := HN.out.upon HU1.out); (have HB1 : Hid _ := HN1.out.ans))
      | (refine wpList_store_mid rfl 28 _ _ rfl (w.heap.size + 1 + 1) 0 _ rfl rfl (Bk.there HN1.out.ans) size28' (by simp [Value.oneCell']) ?_))
    refine bodyPost_ret (results_plot Try.results9 _ _ (w.heap.size + 1 + 1) (.float .f64 0) (.float .f64 0) (.float .f64 0) (.float .f64 0) (.float .f64 0) rfl (Bk.set HN1.out.ans _ _ _ _ _)) rfl ?_
    rw [HA2.out]
    exact ⟨⟨0, 0, 0, 0, 0⟩, rfl, rfl, up_set HN1.out.up (by omega) _ _⟩
set_option maxRecDepth 20000 in
set_option maxHeartbeats 2000000 in
theorem t10 (c v r : Nat) (E R : Int) (bi ga po : Nat) (sp : Int) (tm : Nat) (w : World) : Calls Try.prog 10 #[.agg #[.float .f64 c, .float .f64 v, .float .f64 r, .int .i64 E, .int .i64 R], .agg #[.float .f64 bi, .float .f64 ga, .float .f64 po, .int .i64 sp], .float .f64 tm] w (OneR w (oneF c v r E R bi ga po tm)) := by
  have HN : Hid (On w w.heap.size c v r E R bi ga po sp (onW w c v r E R bi ga po sp)) := on_new w c v r E R bi ga po sp
  have CK : Hid (∀ w, Calls Try.prog 29 #[.agg #[.float .f64 c, .float .f64 v, .float .f64 r, .int .i64 E, .int .i64 R]] w (Gt.IU w (Gt.checkF (ab c) (ab v) (ab r) E R))) := fun w => Gt.t29 c v r E R w
  have SP : Hid (∀ w, Calls Try.prog 31 #[.agg #[.float .f64 c, .float .f64 v, .float .f64 r, .int .i64 E, .int .i64 R], .float .f64 bi] w (Gt.PR w (Gt.speedF (ab c) (ab v) (ab r) E R (ab bi)))) := fun w => Gt.t31 c v r E R bi w
  generalize hA0 : oneF c v r E R bi ga po tm = A at *
  have HA : Hid (A = oneF c v r E R bi ga po tm) := hA0.symm
  clear hA0
  unfold oneF at HA
  generalize hC : Gt.checkF (ab c) (ab v) (ab r) E R = C at *
  generalize hS : Gt.speedF (ab c) (ab v) (ab r) E R (ab bi) = S at *
  clear hC hS
  obtain ⟨b0, b1, b2, b3, b4⟩ := HN.out.bt.cells
  by_cases hc : C = 0
  · subst hc
    have HA2 : Hid (A = if (fin (ab bi) && fin (ab ga) && fin (ab po) && fin (ab tm)) = false then (Plt.zero.ab, 6) else if S.2 ≠ 0 then (Plt.zero.ab, S.2) else (⟨bin .mul (bin .add (ab ga) (ab 4602678819172646912)) (ab c), S.1, ab po, ab 0, ab tm⟩, 0)) := by
      have e := HA.out
      rw [if_neg (by simp)] at e
      exact e
    clear HA
    have F1 : Hid (∀ w, Calls Try.prog 30 #[.float .f64 bi] w fun e w' => e = .returned (.bool (fin (ab bi))) ∧ w' = w) := fun w => Gt.t30 bi w
    have F2 : Hid (∀ w, Calls Try.prog 30 #[.float .f64 ga] w fun e w' => e = .returned (.bool (fin (ab ga))) ∧ w' = w) := fun w => Gt.t30 ga w
    have F3 : Hid (∀ w, Calls Try.prog 30 #[.float .f64 po] w fun e w' => e = .returned (.bool (fin (ab po))) ∧ w' = w) := fun w => Gt.t30 po w
    have F4 : Hid (∀ w, Calls Try.prog 30 #[.float .f64 tm] w fun e w' => e = .returned (.bool (fin (ab tm))) ∧ w' = w) := fun w => Gt.t30 tm w
    generalize hq1 : fin (ab bi) = q1 at *
    generalize hq2 : fin (ab ga) = q2 at *
    generalize hq3 : fin (ab po) = q3 at *
    generalize hq4 : fin (ab tm) = q4 at *
    cases q1
    · have HA3 : Hid (A = (Plt.zero.ab, 6)) := by
        have e := HA2.out
        rw [if_pos (four_no (by simp))] at e
        exact e
      clear HA2
      go_enter Try.func10, Try.ntmps10
      go_wp2_with (first
        | (go_at_call 29; (with_reducible refine (CK.out _).mono ?_); rintro e w1 ⟨rfl, HU1⟩; (have HN1 : Hid (On w w.heap.size c v r E R bi ga po sp w1) := HN.out.upon HU1.out); (have g0 := HN1.out.g0); (have g1 := HN1.out.g1); (have g2 := HN1.out.g2))
        | (go_at_call 30; (with_reducible refine (F1.out _).mono ?_); rintro e w' ⟨rfl, hw⟩; subst w')
        | (go_at_call 30; (with_reducible refine (F2.out _).mono ?_); rintro e w' ⟨rfl, hw⟩; subst w')
        | (go_at_call 30; (with_reducible refine (F3.out _).mono ?_); rintro e w' ⟨rfl, hw⟩; subst w')
        | (go_at_call 30; (with_reducible refine (F4.out _).mono ?_); rintro e w' ⟨rfl, hw⟩; subst w')
        | (refine wpList_store_mid rfl 28 _ _ rfl (w.heap.size + 1 + 1) 0 _ rfl rfl (Bk.there HN1.out.ans) size28' (by simp [Value.oneCell']) ?_))
      refine bodyPost_ret (results_plot Try.results10 _ _ (w.heap.size + 1 + 1) (.float .f64 0) (.float .f64 0) (.float .f64 0) (.float .f64 0) (.float .f64 0) rfl (Bk.set HN1.out.ans _ _ _ _ _)) rfl ?_
      rw [HA3.out]
      exact ⟨⟨0, 0, 0, 0, 0⟩, rfl, rfl, up_set HN1.out.up (by omega) _ _⟩
    cases q2
    · have HA3 : Hid (A = (Plt.zero.ab, 6)) := by
        have e := HA2.out
        rw [if_pos (four_no (by simp))] at e
        exact e
      clear HA2
      go_enter Try.func10, Try.ntmps10
      go_wp2_with (first
        | (go_at_call 29; (with_reducible refine (CK.out _).mono ?_); rintro e w1 ⟨rfl, HU1⟩; (have HN1 : Hid (On w w.heap.size c v r E R bi ga po sp w1) := HN.out.upon HU1.out); (have g0 := HN1.out.g0); (have g1 := HN1.out.g1); (have g2 := HN1.out.g2))
        | (go_at_call 30; (with_reducible refine (F1.out _).mono ?_); rintro e w' ⟨rfl, hw⟩; subst w')
        | (go_at_call 30; (with_reducible refine (F2.out _).mono ?_); rintro e w' ⟨rfl, hw⟩; subst w')
        | (go_at_call 30; (with_reducible refine (F3.out _).mono ?_); rintro e w' ⟨rfl, hw⟩; subst w')
        | (go_at_call 30; (with_reducible refine (F4.out _).mono ?_); rintro e w' ⟨rfl, hw⟩; subst w')
        | (refine wpList_store_mid rfl 28 _ _ rfl (w.heap.size + 1 + 1) 0 _ rfl rfl (Bk.there HN1.out.ans) size28' (by simp [Value.oneCell']) ?_))
      refine bodyPost_ret (results_plot Try.results10 _ _ (w.heap.size + 1 + 1) (.float .f64 0) (.float .f64 0) (.float .f64 0) (.float .f64 0) (.float .f64 0) rfl (Bk.set HN1.out.ans _ _ _ _ _)) rfl ?_
      rw [HA3.out]
      exact ⟨⟨0, 0, 0, 0, 0⟩, rfl, rfl, up_set HN1.out.up (by omega) _ _⟩
    cases q3
    · have HA3 : Hid (A = (Plt.zero.ab, 6)) := by
        have e := HA2.out
        rw [if_pos (four_no (by simp))] at e
        exact e
      clear HA2
      go_enter Try.func10, Try.ntmps10
      go_wp2_with (first
        | (go_at_call 29; (with_reducible refine (CK.out _).mono ?_); rintro e w1 ⟨rfl, HU1⟩; (have HN1 : Hid (On w w.heap.size c v r E R bi ga po sp w1) := HN.out.upon HU1.out); (have g0 := HN1.out.g0); (have g1 := HN1.out.g1); (have g2 := HN1.out.g2))
        | (go_at_call 30; (with_reducible refine (F1.out _).mono ?_); rintro e w' ⟨rfl, hw⟩; subst w')
        | (go_at_call 30; (with_reducible refine (F2.out _).mono ?_); rintro e w' ⟨rfl, hw⟩; subst w')
        | (go_at_call 30; (with_reducible refine (F3.out _).mono ?_); rintro e w' ⟨rfl, hw⟩; subst w')
        | (go_at_call 30; (with_reducible refine (F4.out _).mono ?_); rintro e w' ⟨rfl, hw⟩; subst w')
        | (refine wpList_store_mid rfl 28 _ _ rfl (w.heap.size + 1 + 1) 0 _ rfl rfl (Bk.there HN1.out.ans) size28' (by simp [Value.oneCell']) ?_))
      refine bodyPost_ret (results_plot Try.results10 _ _ (w.heap.size + 1 + 1) (.float .f64 0) (.float .f64 0) (.float .f64 0) (.float .f64 0) (.float .f64 0) rfl (Bk.set HN1.out.ans _ _ _ _ _)) rfl ?_
      rw [HA3.out]
      exact ⟨⟨0, 0, 0, 0, 0⟩, rfl, rfl, up_set HN1.out.up (by omega) _ _⟩
    cases q4
    · have HA3 : Hid (A = (Plt.zero.ab, 6)) := by
        have e := HA2.out
        rw [if_pos (four_no (by simp))] at e
        exact e
      clear HA2
      go_enter Try.func10, Try.ntmps10
      go_wp2_with (first
        | (go_at_call 29; (with_reducible refine (CK.out _).mono ?_); rintro e w1 ⟨rfl, HU1⟩; (have HN1 : Hid (On w w.heap.size c v r E R bi ga po sp w1) := HN.out.upon HU1.out); (have g0 := HN1.out.g0); (have g1 := HN1.out.g1); (have g2 := HN1.out.g2))
        | (go_at_call 30; (with_reducible refine (F1.out _).mono ?_); rintro e w' ⟨rfl, hw⟩; subst w')
        | (go_at_call 30; (with_reducible refine (F2.out _).mono ?_); rintro e w' ⟨rfl, hw⟩; subst w')
        | (go_at_call 30; (with_reducible refine (F3.out _).mono ?_); rintro e w' ⟨rfl, hw⟩; subst w')
        | (go_at_call 30; (with_reducible refine (F4.out _).mono ?_); rintro e w' ⟨rfl, hw⟩; subst w')
        | (refine wpList_store_mid rfl 28 _ _ rfl (w.heap.size + 1 + 1) 0 _ rfl rfl (Bk.there HN1.out.ans) size28' (by simp [Value.oneCell']) ?_))
      refine bodyPost_ret (results_plot Try.results10 _ _ (w.heap.size + 1 + 1) (.float .f64 0) (.float .f64 0) (.float .f64 0) (.float .f64 0) (.float .f64 0) rfl (Bk.set HN1.out.ans _ _ _ _ _)) rfl ?_
      rw [HA3.out]
      exact ⟨⟨0, 0, 0, 0, 0⟩, rfl, rfl, up_set HN1.out.up (by omega) _ _⟩
    have HA3 : Hid (A = if S.2 ≠ 0 then (Plt.zero.ab, S.2) else (⟨bin .mul (bin .add (ab ga) (ab 4602678819172646912)) (ab c), S.1, ab po, ab 0, ab tm⟩, 0)) := by
      have e := HA2.out
      rw [if_neg (by simp)] at e
      exact e
    clear HA2
    obtain ⟨S1, S2⟩ := S
    simp only at *
    by_cases hs : S2 = 0
    · subst hs
      have HA4 : Hid (A = (⟨bin .mul (bin .add (ab ga) (ab 4602678819172646912)) (ab c), S1, ab po, ab 0, ab tm⟩, 0)) := by
        have e := HA3.out
        rw [if_neg (by simp)] at e
        exact e
      clear HA3
      go_enter Try.func10, Try.ntmps10
      go_wp2_with (first
        | (go_at_call 29; (with_reducible refine (CK.out _).mono ?_); rintro e w1 ⟨rfl, HU1⟩; (have HN1 : Hid (On w w.heap.size c v r E R bi ga po sp w1) := HN.out.upon HU1.out); (have g0 := HN1.out.g0); (have g1 := HN1.out.g1); (have g2 := HN1.out.g2); (obtain ⟨d0, d1, d2, d3, d4⟩ := HN1.out.bt.cells))
        | (go_at_call 30; (with_reducible refine (F1.out _).mono ?_); rintro e w' ⟨rfl, hw⟩; subst w')
        | (go_at_call 30; (with_reducible refine (F2.out _).mono ?_); rintro e w' ⟨rfl, hw⟩; subst w')
        | (go_at_call 30; (with_reducible refine (F3.out _).mono ?_); rintro e w' ⟨rfl, hw⟩; subst w')
        | (go_at_call 30; (with_reducible refine (F4.out _).mono ?_); rintro e w' ⟨rfl, hw⟩; subst w')
        | (go_at_call 31; (with_reducible refine (SP.out _).mono ?_); rintro e w3 ⟨sv, rfl, HSv, HU3⟩; (have HN3 : Hid (On w w.heap.size c v r E R bi ga po sp w3) := HN1.out.upon HU3.out); (obtain ⟨j0, j1, j2, j3, j4⟩ := HN3.out.bt.cells); (have i1 := HN3.out.g1); (have i2 := HN3.out.g2))
        | ((fail_if_success have := HR5); (with_reducible refine upon_fl (by simp) ?_); intro r5 n5 hr5; (have HR5 : Hid (Go.Fl.ab r5 = bin .add (Go.Fl.ab ga) (Go.Fl.ab 4602678819172646912)) := hr5))
        | ((with_reducible refine upon_fl (by simp) ?_); intro r6 n6 hr6)
        | (refine wpList_store_mid rfl 28 _ _ rfl (w.heap.size + 1 + 1) 0 _ rfl rfl (Bk.there (HN3.out.ans.up (Up.drewN _ _))) size28' (by simp [Value.oneCell']) ?_))
      refine bodyPost_ret (results_plot Try.results10 _ _ (w.heap.size + 1 + 1) (.float .f64 r6) (.float .f64 sv) (.float .f64 po) (.float .f64 0) (.float .f64 tm) rfl (Bk.set (HN3.out.ans.up (Up.drewN _ _)) _ _ _ _ _)) rfl ?_
      rw [HA4.out]
      refine ⟨⟨r6, sv, po, 0, tm⟩, rfl, ?_, up_set (HN3.out.up.trans (Up.drewN _ _)) (by omega) _ _⟩
      show Plt.ab ⟨r6, sv, po, 0, tm⟩ = _
      unfold Plt.ab
      simp only
      rw [hr6.out, HR5.out, HSv.out]
    · have HA4 : Hid (A = (Plt.zero.ab, S2)) := by
        have e := HA3.out
        rw [if_pos hs] at e
        exact e
      have hsb : (S2 != 0) = true := by simp [hs]
      clear HA3 hs
      go_enter Try.func10, Try.ntmps10
      go_wp2_with (first
        | (go_at_call 29; (with_reducible refine (CK.out _).mono ?_); rintro e w1 ⟨rfl, HU1⟩; (have HN1 : Hid (On w w.heap.size c v r E R bi ga po sp w1) := HN.out.upon HU1.out); (have g0 := HN1.out.g0); (have g1 := HN1.out.g1); (have g2 := HN1.out.g2); (obtain ⟨d0, d1, d2, d3, d4⟩ := HN1.out.bt.cells))
        | (go_at_call 30; (with_reducible refine (F1.out _).mono ?_); rintro e w' ⟨rfl, hw⟩; subst w')
        | (go_at_call 30; (with_reducible refine (F2.out _).mono ?_); rintro e w' ⟨rfl, hw⟩; subst w')
        | (go_at_call 30; (with_reducible refine (F3.out _).mono ?_); rintro e w' ⟨rfl, hw⟩; subst w')
        | (go_at_call 30; (with_reducible refine (F4.out _).mono ?_); rintro e w' ⟨rfl, hw⟩; subst w')
        | (go_at_call 31; (with_reducible refine (SP.out _).mono ?_); rintro e w3 ⟨sv, rfl, HSv, HU3⟩; (have HN3 : Hid (On w w.heap.size c v r E R bi ga po sp w3) := HN1.out.upon HU3.out))
        | (refine wpList_store_mid rfl 28 _ _ rfl (w.heap.size + 1 + 1) 0 _ rfl rfl (Bk.there HN3.out.ans) size28' (by simp [Value.oneCell']) ?_))
      refine bodyPost_ret (results_plot Try.results10 _ _ (w.heap.size + 1 + 1) (.float .f64 0) (.float .f64 0) (.float .f64 0) (.float .f64 0) (.float .f64 0) rfl (Bk.set HN3.out.ans _ _ _ _ _)) rfl ?_
      rw [HA4.out]
      exact ⟨⟨0, 0, 0, 0, 0⟩, rfl, rfl, up_set HN3.out.up (by omega) _ _⟩
  · have HA2 : Hid (A = (Plt.zero.ab, C)) := by
      have e := HA.out
      rw [if_pos hc] at e
      exact e
    have hcb : (C != 0) = true := by simp [hc]
    have HC : Hid (C ≠ 0) := hc
    have HA1 := HN.out.ans
    clear HA hc
    go_enter Try.func10, Try.ntmps10
    go_wp2_with (first
      | (go_at_call 29; (with_reducible refine (CK.out _).mono ?_); rintro e w1 ⟨rfl, HU1⟩; (have HN1 : Hid (On w w.heap.size c v r E R bi ga po sp w1) := HN.out.upon HU1.out); (have HB1 : Hid _ := HN1.out.ans))
      | (refine wpList_store_mid rfl 28 _ _ rfl (w.heap.size + 1 + 1) 0 _ rfl rfl (Bk.there HN1.out.ans) size28' (by simp [Value.oneCell']) ?_))
    refine bodyPost_ret (results_plot Try.results10 _ _ (w.heap.size + 1 + 1) (.float .f64 0) (.float .f64 0) (.float .f64 0) (.float .f64 0) (.float .f64 0) rfl (Bk.set HN1.out.ans _ _ _ _ _)) rfl ?_
    rw [HA2.out]
    exact ⟨⟨0, 0, 0, 0, 0⟩, rfl, rfl, up_set HN1.out.up (by omega) _ _⟩
end Go.Proofs.Ytijfmaepoamkgaa
