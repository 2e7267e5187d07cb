/- PeaksTops: the walk. -/
import Derived.Test.YtephkmahnbhmbaaVj
import Derived.Test.YtephkmahnbhmbaaRh
import Derived.Test.YtephkmahnbhmbaaWa
namespace Go.Proofs.Ytephkmahnbhmbaa
open Go.ChangeShapes Go.WideShapes Go.ChangeAt Go.RowKit Go.Fl Go.Sort
attribute [local go_sem] run_store_float call52 run_neg fold_eq fold_ne fold_lt fold_gt abs_eq
set_option maxRecDepth 20000
theorem eg26 (args : Array Value) (w : World) : (callFunc 26 args).run Try.prog w = .ok (.enter 26 args) w := enters Try.func26 (by kernel_rfl) (by kernel_rfl) _ _
theorem eg27 (args : Array Value) (w : World) : (callFunc 27 args).run Try.prog w = .ok (.enter 27 args) w := enters Try.func27 (by kernel_rfl) (by kernel_rfl) _ _
set_option maxHeartbeats 4000000 in
theorem t7k {w : World} {p : Option Addr} {n cap : Nat} {D : Nat → Array Nat} (h : MV w p n cap D) (hsz : n ≤ 40 → n * shortF D n ≤ 1000000000000) : Calls Try.prog 7 #[.slice p n cap] w fun e w' => e = .returned (.bool true) ∧ Hid (Up w w') := by
  have C13 : Hid (∀ w, Calls Try.prog 13 #[] w fun e w' => e = .returned (.bool true) ∧ Hid (Up w w')) := t13
  have hfew := h.few
  by_cases h40 : n ≤ 40
  · have C9 : Hid (Calls Try.prog 9 #[.slice p n cap] w (SR w (highF D n))) := t9 h (hsz h40)
    have HM : Hid (MV w p n cap D) := h
    have hcap := h.cap
    have z0 : (n : Int) ≤ 40 := by omega
    obtain ⟨M, hM⟩ : ∃ M, (highF D n).length = M := ⟨_, rfl⟩
    have HML : Hid ((highF D n).length = M) := hM
    have hMb : M ≤ 1000000000000 := by rw [← hM]; exact Nat.le_trans (topAll_len _ _ _ _) (hsz h40)
    have C9 : Hid (Calls Try.prog 9 #[.slice p n cap] w fun e w' => ∃ q c, e = .returned (.slice q M c) ∧ Hid (SO w.heap.size w' (.slice q M c) (highF D n)) ∧ Hid (Up w w')) := hM ▸ C9.out
    clear h hsz hM
    go_enter Try.func7, Try.ntmps7
    go_wp2_with (first
      | (go_at_call 9; (with_reducible refine C9.out.mono ?_); rintro e w1 ⟨q, c, rfl, HSO, HU1⟩))
    have HM1 : Hid (MV w1 p n cap D) := HM.out.up HU1.out
    clear C9 HM
    go_loopw [4, 5] (fun v4 vi wr => ∃ i : Nat, i ≤ n ∧ vi = .int .i64 i ∧ v4 = .int .i64 (gtN D i) ∧ wr = w1) (fun _ vi _ => n - (intOf vi).toNat)
    case atStart => exact ⟨0, by omega, rfl, rfl, rfl⟩
    case round =>
      obtain ⟨i, hi, rfl, rfl, hw⟩ := hrel
      replace hw := hw.symm
      subst hw
      by_cases hlt : i < n
      · obtain ⟨b, o, hp, hr⟩ := HM1.out.rd (by omega)
        subst hp
        obtain ⟨qi, ci, ki, -⟩ := hr i hlt
        obtain ⟨z, hz⟩ : ∃ z, (D i).size = z := ⟨_, rfl⟩
        have hs := HM1.out.small i hlt
        rw [hz] at ki hs
        have HZ : Hid ((D i).size = z) := hz
        have z1 : (i : Int) < (n : Int) := by omega
        have z2 : (0 : Int) ≤ (i : Int) := by omega
        clear hr hz
        by_cases hi0 : i = 0
        · subst hi0
          rw [Nat.add_zero] at ki
          go_wp2
          go_roundw
          case rel => exact ⟨1, by omega, by go_num, by rw [gtN_first, HZ.out], by first | trivial | rfl⟩
          case measure => simp [intOf]; omega
        · have e0 : ((i : Int) == 0) = false := by rw [beq_eq_false_iff_ne]; omega
          obtain ⟨g, hg⟩ : ∃ g, gtN D i = g := ⟨_, rfl⟩
          have HG : Hid (gtN D i = g) := hg
          rw [hg]
          clear hg
          by_cases hc : z < g
          · have hc1 : (z : Int) < (g : Int) := by omega
            go_wp2
            go_roundw
            case rel => exact ⟨i + 1, by omega, by go_num, by rw [gtN_next D (by omega), HG.out, HZ.out, Nat.min_eq_right (by omega)], by first | trivial | rfl⟩
            case measure => simp [intOf]; omega
          · have hc1 : (g : Int) ≤ (z : Int) := by omega
            go_wp2
            go_roundw
            case rel => exact ⟨i + 1, by omega, by go_num, by rw [gtN_next D (by omega), HG.out, HZ.out, Nat.min_eq_left (by omega)], by first | trivial | rfl⟩
            case measure => simp [intOf]; omega
      · obtain rfl : i = n := by omega
        rw [gtN_all]
        obtain ⟨G, hG⟩ : ∃ G, shortF D i = G := ⟨_, rfl⟩
        have HGG : Hid (shortF D i = G) := hG
        rw [hG]
        by_cases h200 : G ≤ 200
        · have z3 : (G : Int) ≤ 200 := by omega
          go_wp2
          have HS200 : Hid (G ≤ 200) := h200
          have HSM : Hid (∀ b, b < i → G ≤ (D b).size) := fun b hb => by
            have := HGG.out
            unfold shortF at this
            rw [if_neg (by omega)] at this
            have h2 := shN_le D (i := b) (k := i - 1) (by omega)
            omega
          go_loopw [6, 7, 8] (fun v6 vi _ wr => ∃ j : Nat, j ≤ i ∧ vi = .int .i64 j ∧ v6 = .float .f64 (mostAll D G j) ∧ wr = w1) (fun _ vi _ _ => i - (intOf vi).toNat)
          case atStart => exact ⟨0, by omega, rfl, rfl, rfl⟩
          case round =>
            obtain ⟨j, hj, rfl, rfl, hw⟩ := hrel
            replace hw := hw.symm
            subst hw
            by_cases hlj : j < i
            · obtain ⟨b, o, hp, hr⟩ := HM1.out.rd (by omega)
              subst hp
              obtain ⟨qi, ci, ki, HV⟩ := hr j hlj
              have HSV : Hid _ := HV
              obtain ⟨z, hz⟩ : ∃ z, (D j).size = z := ⟨_, rfl⟩
              have hs := HM1.out.small j hlj
              have hGz := HSM.out j hlj
              have HZ : Hid ((D j).size = z) := hz
              rw [hz] at ki hs hGz
              have y1 : (j : Int) < (i : Int) := by omega
              have y2 : (0 : Int) ≤ (j : Int) := by omega
              clear hr hz HV
              obtain ⟨m0, hm0⟩ : ∃ m, mostAll D G j = m := ⟨_, rfl⟩
              have HM0 : Hid (mostAll D G j = m0) := hm0
              rw [hm0]
              clear hm0
              go_wp2
              go_loopw [6, 8] (fun v6 vk wr => ∃ k : Nat, k ≤ G ∧ vk = .int .i64 k ∧ v6 = .float .f64 (mostRow D j m0 k) ∧ wr = w1) (fun _ vk _ => G - (intOf vk).toNat)
              case atStart => exact ⟨0, by omega, rfl, rfl, rfl⟩
              case round =>
                obtain ⟨k, hk, rfl, rfl, hw⟩ := hrel
                replace hw := hw.symm
                subst hw
                by_cases hlk : k < G
                · obtain ⟨b2, o2, hq2, hrd⟩ := HSV.out.rd (by have := HZ.out; omega)
                  subst hq2
                  have hx := hrd k (by have := HZ.out; omega)
                  obtain ⟨v, hv⟩ : ∃ v, (D j)[k]! = v := ⟨_, rfl⟩
                  rw [hv] at hx
                  have HVV : Hid ((D j)[k]! = v) := hv
                  clear hv hrd
                  have x1 : (k : Int) < (G : Int) := by omega
                  have x2 : (0 : Int) ≤ (k : Int) := by omega
                  have x3 : (k : Int) < (z : Int) := by omega
                  obtain ⟨mm, hmm⟩ : ∃ mm, mostRow D j m0 k = mm := ⟨_, rfl⟩
                  have HMM : Hid (mostRow D j m0 k = mm) := hmm
                  rw [hmm]
                  clear hmm
                  cases hgt : gtF (ab v) (ab mm)
                  · have HGT : Hid (gtF (ab v) (ab mm) = false) := hgt
                    go_wp2
                    go_roundw
                    case rel => exact ⟨k + 1, by omega, by go_num, by rw [mostRow, HMM.out, HVV.out, HGT.out, if_neg (by simp)], by first | trivial | rfl⟩
                    case measure => simp [intOf]; omega
                  · have HGT : Hid (gtF (ab v) (ab mm) = true) := hgt
                    go_wp2
                    go_roundw
                    case rel => exact ⟨k + 1, by omega, by go_num, by rw [mostRow, HMM.out, HVV.out, HGT.out, if_pos rfl], by first | trivial | rfl⟩
                    case measure => simp [intOf]; omega
                · obtain rfl : k = G := by omega
                  go_wp2
                  go_roundw
                  case rel => exact ⟨j + 1, by omega, by go_num, by rw [mostAll, HM0.out], by first | trivial | rfl⟩
                  case measure => simp [intOf]; omega
            · obtain rfl : j = i := by omega
              obtain ⟨mo, hmo⟩ : ∃ mo, mostAll D G j = mo := ⟨_, rfl⟩
              have HMO : Hid (mostAll D G j = mo) := hmo
              rw [hmo]
              clear hmo
              go_wp2
              go_loopw [9, 10, 11] (fun v9 va _ wr => ∃ a : Nat, a ≤ M ∧ va = .int .i64 a ∧ v9 = .bool (fdN (highF D j) mo a) ∧ Hid (Up w1 wr)) (fun _ va _ _ => M - (intOf va).toNat)
              case atStart => exact ⟨0, by omega, rfl, by unfold fdN; simp, Up.refl _⟩
              case round =>
                obtain ⟨a, ha, rfl, rfl, HUA⟩ := hrel
                rename World => wr
                by_cases hla : a < M
                · obtain ⟨b, g, hb, hg, ht, hs⟩ := high_at (D := D) (n := j) (a := a) (by rw [HML.out]; exact hla)
                  rw [HGG.out] at hg ht
                  have hpos := ((topB_iff hb hg).1 ht).1
                  have HTP : Hid (topB D j G b g = true) := ht
                  have hnum := pos_num hpos
                  obtain ⟨r, hq, hor, hrb, -⟩ := so_row HSO.out (by rw [HML.out]; omega)
                  subst hq
                  have HOR : Hid (OwnR w1 r c (highF D j).toArray) := hor
                  obtain ⟨⟨l0, l1, l2⟩, -⟩ := (hor.up HUA.out).cell (i := a) (by have := HML.out; simp; omega)
                  have es : (highF D j).toArray[a]! = (highF D j)[a]! := by simp
                  rw [es, hs] at l0 l1 l2
                  simp only at l0 l1 l2
                  obtain ⟨bb, oo, hp, hr⟩ := HM1.out.rd (by omega)
                  subst hp
                  obtain ⟨qi, ci, ki, HV⟩ := hr b hb
                  obtain ⟨z, hz⟩ : ∃ z, (D b).size = z := ⟨_, rfl⟩
                  have hsm := HM1.out.small b hb
                  have hGz := HSM.out b hb
                  obtain ⟨b2, o2, hq2, hrd⟩ := HV.rd (by omega)
                  subst hq2
                  have hx := cell_up (hrd g (by omega)) HUA.out
                  have ki := cell_up ki HUA.out
                  rw [hz] at ki hsm hGz
                  have HSS : Hid ((highF D j)[a]! = ((b : Int), (g : Int), (D b)[g]!)) := hs
                  clear hr HV hrd hs es hor ht
                  obtain ⟨v, hv⟩ : ∃ v, (D b)[g]! = v := ⟨_, rfl⟩
                  rw [hv] at hx l2 hpos hnum HSS
                  have hself : eqF (ab v) (ab v) = true := by rw [eqF_self, hnum]; rfl
                  have n1 : (b : Int) < (j : Int) := by omega
                  have n2 : (0 : Int) ≤ (b : Int) := by omega
                  have n3 : (g : Int) < (G : Int) := by omega
                  have n4 : (0 : Int) ≤ (g : Int) := by omega
                  have n5 : (g : Int) < (z : Int) := by omega
                  have n6 : (a : Int) < (M : Int) := by omega
                  have n7 : (0 : Int) ≤ (a : Int) := by omega
                  obtain ⟨f, hf⟩ : ∃ f, fdN (highF D j) mo a = f := ⟨_, rfl⟩
                  have HF : Hid (fdN (highF D j) mo a = f) := hf
                  rw [hf]
                  clear hf
                  obtain ⟨ev, hev⟩ : ∃ ev, eqF (ab v) (ab mo) = ev := ⟨_, rfl⟩
                  have HEV : Hid (eqF (ab v) (ab mo) = ev) := hev
                  have HVV : Hid ((D b)[g]! = v) := hv
                  clear hv
                  have HNX : Hid (fdN (highF D j) mo (a + 1) = (f || ev)) := by
                    show _ = _
                    rw [fdN_next (by rw [HML.out]; exact hla), HF.out, HSS.out]
                    exact congrArg (f || ·) HEV.out
                  have HPAIR : Hid (∀ k, k < a → ∃ (b' g' v' : Nat), (b' < j ∧ g' < G) ∧ (highF D j)[k]! = ((b' : Int), (g' : Int), v') ∧ (∀ c c' w, Calls Try.prog 26 #[.agg #[.int .i64 b, .int .i64 g, .float .f64 c], .agg #[.int .i64 b', .int .i64 g', .float .f64 c'], .int .i64 j] w (VU w (.bool false))) ∧ (∀ c c' w, Calls Try.prog 27 #[.agg #[.int .i64 b', .int .i64 g', .float .f64 c'], .agg #[.int .i64 b, .int .i64 g, .float .f64 c]] w (VU w (.bool true)))) := by
                    intro k hk
                    have hlen := HML.out
                    obtain ⟨b', g', hb', hg', ht', hs'⟩ := high_at (D := D) (n := j) (a := k) (by omega)
                    rw [HGG.out] at hg' ht'
                    refine ⟨b', g', _, ⟨hb', hg'⟩, hs', fun c c' w => ?_, fun c c' w => ?_⟩
                    · have hne : roundB j b g b' g' = false := by
                        rw [← Bool.not_eq_true, roundB_iff (by omega) (by omega) (by omega) (by omega)]
                        exact top_apart hb' hg' hb hg ht' HTP.out
                      rw [← hne]
                      exact t26 c c' w (by omega) (by omega) (by omega) (by omega) (by omega) (by omega) (by omega) (by omega) (by omega) (by omega)
                    · have hp := List.pairwise_iff_getElem.1 (high_sorted D j) k a (by omega) (by omega) hk
                      rw [← getElem!_pos _ k (by omega), ← getElem!_pos _ a (by omega), hs', HSS.out] at hp
                      have ha : ahB b' g' b g = true := ahB_iff.2 hp
                      rw [← ha]
                      exact t27 _ _ _ _ _ _ w
                  have d1 : decide ((b : Int) < 0) = false := decide_eq_false (by omega)
                  have d2 : decide (j ≤ b) = false := decide_eq_false (by omega)
                  have d3 : decide ((g : Int) < 0) = false := decide_eq_false (by omega)
                  have d4 : decide (G ≤ g) = false := decide_eq_false (by omega)
                  go_upto_region 25 with fail
                  dsimp only [List.append]
                  go_quiet (fail)
                  have hx3 := cell_up l2 (Up.drewN wr nq)
                  have HUQ : Hid (Up w1 (wr.drewN nq)) := HUA.out.trans (Up.drewN _ _)
                  generalize wr.drewN nq = Wq at *
                  clear l0 l1 l2 hx ki
                  go_upto_region 27 with fail
                  go_cut [9] from 143 to 152 (fun s9 wx => s9 = .bool (f || ev) ∧ wx = Wq)
                  case first =>
                    cases f <;> cases ev
                    all_goals
                      go_wp2
                      go_meet
                      case rel => exact ⟨rfl, rfl⟩
                  case rest =>
                    obtain ⟨rfl, hwc⟩ := hcut
                    subst hwc
                    clear hx3 HEV HF hself hpos hnum
                    have HNX2 : Hid (.bool (f || ev) = Value.bool (fdN (highF D j) mo (a + 1))) := by show _ = _; rw [HNX.out]
                    generalize (f || ev) = fe at *
                    go_wp2
                    go_loopw [11] (fun vk wr2 => ∃ k : Nat, k ≤ a ∧ vk = .int .i64 k ∧ Hid (Up w1 wr2)) (fun vk _ => a - (intOf vk).toNat)
                    case atStart => exact ⟨0, by omega, rfl, HUQ⟩
                    case round =>
                      obtain ⟨k, hk, rfl, HUK⟩ := hrel
                      rename World => wr2
                      by_cases hlk : k < a
                      · obtain ⟨b', g', v', ⟨hb', hg'⟩, hs', C26, C27⟩ := HPAIR.out k hlk
                        have H26 : Hid (∀ c c' w, Calls Try.prog 26 #[.agg #[.int .i64 b, .int .i64 g, .float .f64 c], .agg #[.int .i64 b', .int .i64 g', .float .f64 c'], .int .i64 j] w (VU w (.bool false))) := C26
                        have H27 : Hid (∀ c c' w, Calls Try.prog 27 #[.agg #[.int .i64 b', .int .i64 g', .float .f64 c'], .agg #[.int .i64 b, .int .i64 g, .float .f64 c]] w (VU w (.bool true))) := C27
                        obtain ⟨⟨l0, l1, l2⟩, -⟩ := (HOR.out.up HUK.out).cell (i := a) (by have := HML.out; simp; omega)
                        obtain ⟨⟨m0, m1, m2⟩, -⟩ := (HOR.out.up HUK.out).cell (i := k) (by have := HML.out; simp; omega)
                        have es : (highF D j).toArray[a]! = (highF D j)[a]! := by simp
                        have es' : (highF D j).toArray[k]! = (highF D j)[k]! := by simp
                        rw [es, HSS.out] at l0 l1 l2
                        rw [es', hs'] at m0 m1 m2
                        simp only at l0 l1 l2 m0 m1 m2
                        clear es es' hs' C26 C27
                        have x1 : (k : Int) < (a : Int) := by omega
                        have x2 : (0 : Int) ≤ (k : Int) := by omega
                        have x3 : (k : Int) < (M : Int) := by omega
                        go_wp2_with fail
                        refine wp_region_shut 28 [(0, none), (1, none), (2, none), (3, some false), (4, none), (5, none), (6, none), (7, some false), (8, none), (9, none), (10, some true), (11, none), (12, none), (13, none), (14, none), (15, some false), (16, none), (17, none), (18, none), (19, some false), (20, some true), (21, none), (22, none), (23, none), (24, none), (25, none), (26, none), (27, none)] (fun w' => Up wr2 w') (by kernel_rfl) (by decide) rfl (by kernel_rfl) (fun _ _ d _ _ h => by cases d <;> exact h) (Up.drewN wr2 1) ?_
                        refine OrdS.looks (.slice (some ⟨r, 0, none⟩) M c) (some 158) _ rfl rfl (Or.inl ⟨by kernel_rfl, fun w' hS => ?_⟩) ?_
                        · go_simp
                        refine OrdS.looks (.int .i64 a) (some 159) _ rfl rfl (Or.inl ⟨by kernel_rfl, fun w' hS => ?_⟩) ?_
                        · go_simp
                        refine OrdS.looks (.pointer (some ⟨r, a * 3, none⟩)) (some 160) _ rfl rfl (Or.inl ⟨by kernel_rfl, fun w' hS => ?_⟩) ?_
                        · go_simp
                        refine OrdS.reads (.agg #[.int .i64 b, .int .i64 g, .float .f64 v]) (some 161) _ rfl rfl (Or.inl ⟨by kernel_rfl, fun w' hS => ?_⟩) ?_
                        · have q0 := cell_up l0 hS
                          have q1 := cell_up l1 hS
                          have q2 := cell_up l2 hS
                          go_simp
                        refine OrdS.looks (.slice (some ⟨r, 0, none⟩) M c) (some 162) _ rfl rfl (Or.inl ⟨by kernel_rfl, fun w' hS => ?_⟩) ?_
                        · go_simp
                        refine OrdS.looks (.int .i64 k) (some 163) _ rfl rfl (Or.inl ⟨by kernel_rfl, fun w' hS => ?_⟩) ?_
                        · go_simp
                        refine OrdS.looks (.pointer (some ⟨r, k * 3, none⟩)) (some 164) _ rfl rfl (Or.inl ⟨by kernel_rfl, fun w' hS => ?_⟩) ?_
                        · go_simp
                        refine OrdS.reads (.agg #[.int .i64 b', .int .i64 g', .float .f64 v']) (some 165) _ rfl rfl (Or.inl ⟨by kernel_rfl, fun w' hS => ?_⟩) ?_
                        · have q0 := cell_up m0 hS
                          have q1 := cell_up m1 hS
                          have q2 := cell_up m2 hS
                          go_simp
                        refine OrdS.looks (.slice (some ⟨bb, oo, none⟩) j cap) (some 166) _ rfl rfl (Or.inl ⟨by kernel_rfl, fun w' hS => ?_⟩) ?_
                        · go_simp
                        refine OrdS.looks (.int .i64 j) (some 167) _ rfl rfl (Or.inl ⟨by kernel_rfl, fun w' hS => ?_⟩) ?_
                        · go_simp
                        refine OrdS.does ?_
                        refine wpOp_callG (f := 26) (some 168) rfl rfl (by kernel_rfl) rfl #[.agg #[.int .i64 b, .int .i64 g, .float .f64 v], .agg #[.int .i64 b', .int .i64 g', .float .f64 v'], .int .i64 j] (by kernel_rfl) (eg26 _ _) ?_
                        refine (H26.out _ _ _).mono ?_
                        rintro e wx ⟨rfl, HUwx⟩
                        have HXwx : Hid (Up wr2 wx) := (show Up wr2 wr2.drew from Up.drewN wr2 1).trans HUwx.out.up
                        refine ⟨_, rfl, HXwx.out, ?_⟩
                        simp only [Act.put, List.setIfInBounds_toArray, List.set_cons_succ, List.set_cons_zero]
                        refine OrdS.looks (.bool false) (some 169) _ rfl rfl (Or.inl ⟨by kernel_rfl, fun w' hS => ?_⟩) ?_
                        · go_simp
                        refine OrdS.looks (.slice (some ⟨r, 0, none⟩) M c) (some 170) _ rfl rfl (Or.inl ⟨by kernel_rfl, fun w' hS => ?_⟩) ?_
                        · go_simp
                        refine OrdS.looks (.int .i64 k) (some 171) _ rfl rfl (Or.inl ⟨by kernel_rfl, fun w' hS => ?_⟩) ?_
                        · go_simp
                        refine OrdS.looks (.pointer (some ⟨r, k * 3, none⟩)) (some 172) _ rfl rfl (Or.inl ⟨by kernel_rfl, fun w' hS => ?_⟩) ?_
                        · go_simp
                        refine OrdS.reads (.agg #[.int .i64 b', .int .i64 g', .float .f64 v']) (some 173) _ rfl rfl (Or.inl ⟨by kernel_rfl, fun w' hS => ?_⟩) ?_
                        · have q0 := cell_up m0 hS
                          have q1 := cell_up m1 hS
                          have q2 := cell_up m2 hS
                          go_simp
                        refine OrdS.looks (.slice (some ⟨r, 0, none⟩) M c) (some 174) _ rfl rfl (Or.inl ⟨by kernel_rfl, fun w' hS => ?_⟩) ?_
                        · go_simp
                        refine OrdS.looks (.int .i64 a) (some 175) _ rfl rfl (Or.inl ⟨by kernel_rfl, fun w' hS => ?_⟩) ?_
                        · go_simp
                        refine OrdS.looks (.pointer (some ⟨r, a * 3, none⟩)) (some 176) _ rfl rfl (Or.inl ⟨by kernel_rfl, fun w' hS => ?_⟩) ?_
                        · go_simp
                        refine OrdS.reads (.agg #[.int .i64 b, .int .i64 g, .float .f64 v]) (some 177) _ rfl rfl (Or.inl ⟨by kernel_rfl, fun w' hS => ?_⟩) ?_
                        · have q0 := cell_up l0 hS
                          have q1 := cell_up l1 hS
                          have q2 := cell_up l2 hS
                          go_simp
                        simp only [Act.put, List.setIfInBounds_toArray, List.set_cons_succ, List.set_cons_zero]
                        refine OrdS.does ?_
                        refine wpOp_callG (f := 27) (some 178) rfl rfl (by kernel_rfl) rfl #[.agg #[.int .i64 b', .int .i64 g', .float .f64 v'], .agg #[.int .i64 b, .int .i64 g, .float .f64 v]] (by kernel_rfl) (eg27 _ _) ?_
                        refine (H27.out _ _ _).mono ?_
                        rintro e wy ⟨rfl, HUwy⟩
                        have HXwy : Hid (Up wr2 wy) := HXwx.out.trans HUwy.out.up
                        refine ⟨_, rfl, HXwy.out, ?_⟩
                        simp only [Act.put, List.setIfInBounds_toArray, List.set_cons_succ, List.set_cons_zero]
                        refine OrdS.looks (.bool false) (some 179) _ rfl rfl (Or.inl ⟨by kernel_rfl, fun w' hS => ?_⟩) ?_
                        · go_simp
                        refine OrdS.looks (.bool false) (some 180) _ rfl rfl (Or.inl ⟨by kernel_rfl, fun w' hS => ?_⟩) ?_
                        · go_simp
                        refine OrdS.looks undef (some 181) _ rfl rfl (Or.inr ⟨by kernel_rfl, rfl⟩) ?_
                        refine OrdS.looks undef (some 182) _ rfl rfl (Or.inr ⟨by kernel_rfl, rfl⟩) ?_
                        refine OrdS.looks undef (some 183) _ rfl rfl (Or.inr ⟨by kernel_rfl, rfl⟩) ?_
                        refine OrdS.looks undef (some 184) _ rfl rfl (Or.inr ⟨by kernel_rfl, rfl⟩) ?_
                        refine OrdS.looks (.bool false) (some 185) _ rfl rfl (Or.inl ⟨by kernel_rfl, fun w' hS => ?_⟩) ?_
                        · go_simp
                        refine OrdS.ends ?_
                        simp only [List.drop_succ_cons, List.drop_zero, Act.put, List.setIfInBounds_toArray, List.set_cons_succ, List.set_cons_zero]
                        go_wp2
                        go_roundw
                        case rel => exact ⟨k + 1, by omega, by go_num, HUK.out.trans HXwy.out⟩
                        case measure => simp [intOf]; omega
                      · obtain rfl : k = a := by omega
                        go_wp2
                        go_roundw
                        case rel => exact ⟨k + 1, by omega, by go_num, HNX2.out, HUK⟩
                        case measure => simp [intOf]; omega
                · obtain rfl : a = M := by omega
                  have hF := fdN_all (D := D) (n := j)
                  rw [HGG.out, HMO.out, HML.out] at hF
                  obtain ⟨f1, f2⟩ := hF
                  rw [f1]
                  rcases f2 with f2 | f2
                  · go_wp2_with (go_at_call 13; (with_reducible refine (C13.out _).mono ?_); rintro e w2 ⟨rfl, HU2⟩)
                    go_ret
                    exact ⟨rfl, HU1.out.trans (HUA.out.trans HU2.out)⟩
                  · subst f2
                    go_wp2_with (go_at_call 13; (with_reducible refine (C13.out _).mono ?_); rintro e w2 ⟨rfl, HU2⟩)
                    all_goals
                      go_ret
                      exact ⟨rfl, HU1.out.trans (HUA.out.trans HU2.out)⟩
        · have z3 : (200 : Int) < (G : Int) := by omega
          go_wp2_with (go_at_call 13; (with_reducible refine (C13.out _).mono ?_); rintro e w2 ⟨rfl, HU2⟩)
          go_ret
          exact ⟨rfl, HU1.out.trans HU2.out⟩
  · have z0 : (40 : Int) < (n : Int) := by omega
    clear h hsz
    go_enter Try.func7, Try.ntmps7
    go_wp2_with (go_at_call 13; (with_reducible refine (C13.out _).mono ?_); rintro e w2 ⟨rfl, HU2⟩)
    go_ret
    exact ⟨rfl, HU2⟩
end Go.Proofs.Ytephkmahnbhmbaa
