/- CfarMore: the walk. -/
import Derived.Test.YtfggdaebahdnfaaPb
namespace Go.Proofs.Ytfggdaebahdnfaa
open Go.ChangeShapes Go.WideShapes Go.ChangeAt Go.RowKit Go.Fl Go.Sort Ieee
attribute [local go_sem] run_store_float run_store_func call35 call46 run_neg fold_eq fold_ne fold_lt fold_gt abs_eq

theorem fit_set {d : Array Nat} (h : Fit d) {k v : Nat} (hv : v < 2 ^ 64) : Fit (d.set! k v) := by
  intro i hi
  have hi' : i < d.size := by simpa using hi
  have := h i hi'
  rw [getElem!_pos d i hi'] at this
  rw [getElem!_pos _ i hi]
  by_cases e : k = i
  · subst e; simpa using hv
  · simp only [Array.set!_eq_setIfInBounds]
    rw [Array.getElem_setIfInBounds_ne _ e]; exact this
theorem eg25 (args : Array Value) (w : World) : (callFunc 25 args).run Try.prog w = .ok (.enter 25 args) w := enters Try.func25 (by kernel_rfl) (by kernel_rfl) _ _
theorem t19k {w : World} {p : Option Addr} {n cap x : Nat} {a g t m : Int} {b : Bool} (hn : n < 9223372036854775808) (hb : fitsB n g t m x = b) :
    Calls Try.prog 19 #[.slice p n cap, .agg #[.int .i8 a, .int .i64 g, .int .i64 t, .int .i64 m, .float .f64 x]] w fun e w' => e = .returned (.bool b) ∧ Hid (Up w w') := hb ▸ t19 hn
set_option maxRecDepth 20000 in
set_option maxHeartbeats 8000000 in
theorem t6 {w : World} {p : Option Addr} {n cap x v : Nat} {d : Array Nat} {way : Int} (g t m k : Int) (h1 : -128 ≤ way) (h2 : way ≤ 127) (h : SV w p n cap d) (hn : n < 9223372036854775807) (hv : v < 2 ^ 64) :
    Calls Try.prog 6 #[.slice p n cap, .agg #[.int .i8 way, .int .i64 g, .int .i64 t, .int .i64 m, .float .f64 x], .int .i64 k, .float .f64 v] w (TU w) := by
  have H : Hid (SV w p n cap d) := h
  have HV : Hid (v < 2 ^ 64) := hv
  clear h hv
  obtain ⟨b, hb⟩ : ∃ b, fitsB n g t m x = b := ⟨_, rfl⟩
  have HB : Hid _ := hb
  clear hb
  cases b
  · go_enter Try.func6, Try.ntmps6
    go_wp2_with (first
      | (go_at_call 9; (with_reducible refine (t9 (w.alloc _)).mono ?_); rintro e w1 ⟨rfl, HU1⟩; (obtain ⟨l0, l1, l2, l3, l4⟩ := (LK.new w way g t m x).up HU1.out))
      | (go_at_call 19; (with_reducible refine (t19k (by omega) HB.out).mono ?_); rintro e w2 ⟨rfl, HU2⟩)
      | (go_at_call 9; (with_reducible refine (t9 w2).mono ?_); rintro e w3 ⟨rfl, HU3⟩))
    go_ret
    exact ⟨rfl, (((Up.alloc _ _).trans HU1.out).trans HU2.out).trans HU3.out⟩
  obtain ⟨hz, hm, fx⟩ := fits_of HB.out
  have FX : Hid (Fnt x) := fx
  have C15 : Hid (∀ W q c d' y, SV W q n c d' → -128 ≤ y → y ≤ 127 → Calls Try.prog 15 #[.slice q n c, .int .i8 y, .int .i64 g, .int .i64 t, .int .i64 m, .float .f64 x] W (LF W n (linL y g.toNat t.toNat m.toNat (ab x) d'))) := fun W q c d' y hv y1 y2 => lin_fit hv y1 y2 (fits_lin HB.out)
  obtain ⟨G, hG⟩ : ∃ G, g.toNat = G := ⟨_, rfl⟩
  obtain ⟨T, hT⟩ : ∃ G, t.toNat = G := ⟨_, rfl⟩
  obtain ⟨M, hM⟩ : ∃ G, m.toNat = G := ⟨_, rfl⟩
  rw [hG, hT, hM] at C15
  clear hG hT hM hm fx
  go_enter Try.func6, Try.ntmps6
  go_upto_region 6 with (first
    | (go_at_call 9; (with_reducible refine (t9 (w.alloc _)).mono ?_); rintro e w1 ⟨rfl, HU1⟩; (have K1 : Hid (LK w.heap.size way g t m x w1) := (LK.new w way g t m x).up HU1.out); (obtain ⟨l0, l1, l2, l3, l4⟩ := K1.out); (have U1 : Hid (Up w w1) := (Up.alloc _ _).trans HU1.out); clear HU1)
    | (go_at_call 19; (with_reducible refine (t19k (by omega) HB.out).mono ?_); rintro e w2 ⟨rfl, HU2⟩; clear l0 l1 l2 l3 l4; (have K2 : Hid (LK w.heap.size way g t m x w2) := K1.out.up HU2.out); (obtain ⟨l0, l1, l2, l3, l4⟩ := K2.out); (have U2 : Hid (Up w w2) := U1.out.trans HU2.out); clear HU2 K1 U1)
    | (go_at_call 15; (with_reducible refine (C15.out _ _ _ d _ (H.out.up U2.out) h1 h2).mono ?_); rintro e w3 ⟨pa, ca, rfl, BA, HU3⟩; clear l0 l1 l2 l3 l4; (have K3 : Hid (LK w.heap.size way g t m x w3) := K2.out.up HU3.out); (have U3 : Hid (Up w w3) := U2.out.trans HU3.out); clear HU3 K2 U2))
  go_cut [78] from 57 (fun s78 wx => ∃ b : Bool, s78 = .bool b ∧ wx = w3 ∧ Hid (b = true → ∃ K : Nat, k = (K : Int) ∧ K < n ∧ echoD way G T M (ab x) d K = true ∧ (gtF (ab v) (ab d[K]!) || eqF (ab v) (ab d[K]!)) = true))
  case first =>
    by_cases hk : 0 ≤ k ∧ k < (n : Int)
    · obtain ⟨k0, k1⟩ := hk
      obtain ⟨K, rfl⟩ := Int.eq_ofNat_of_zero_le k0
      have hK : K < n := by omega
      obtain ⟨ga, hpa, ca0⟩ := br_at BA.out hK
      subst hpa
      rw [linL_at (by rw [H.out.len]; exact hK)] at ca0
      obtain ⟨b1, o1, e1, r1⟩ := H.out.rd (by omega)
      subst e1
      have cl := cell_up (r1 K (by rw [H.out.len]; exact hK)) U3.out
      clear r1
      cases he : echoD way G T M (ab x) d K
      · rw [he] at ca0
        go_wp2_with fail
        go_meet
        case rel => exact ⟨false, rfl, rfl, fun h => by cases h⟩
      · rw [he] at ca0
        cases hm : (gtF (ab v) (ab d[K]!) || eqF (ab v) (ab d[K]!))
        · have HM : Hid _ := hm
          obtain ⟨y, hy⟩ : ∃ y, d[K]! = y := ⟨_, rfl⟩
          rw [hy] at cl hm
          go_wp2_with fail
          go_meet
          case rel => exact ⟨false, rfl, rfl, fun h => by cases h⟩
        · have HM : Hid _ := hm
          have HEK : Hid _ := he
          obtain ⟨y, hy⟩ : ∃ y, d[K]! = y := ⟨_, rfl⟩
          rw [hy] at cl hm
          clear hy he
          go_wp2_with fail
          go_meet
          case rel => exact ⟨true, rfl, rfl, fun _ => ⟨K, rfl, hK, HEK.out, HM.out⟩⟩
    · by_cases k0 : 0 ≤ k
      · have k1 : ¬ k < (n : Int) := by omega
        go_wp2_with fail
        go_meet
        case rel => exact ⟨false, rfl, rfl, fun h => by cases h⟩
      · go_wp2_with fail
        go_meet
        case rel => exact ⟨false, rfl, rfl, fun h => by cases h⟩
  case rest =>
    obtain ⟨b, rfl, hwc, HC⟩ := hcut
    subst wc
    cases b
    · go_upto_region 13 with fail
      have U4 : Hid (Up w w3) := U3.out
      have K4 : Hid (LK w.heap.size way g t m x w3) := K3.out
      have BA4 : Hid (BR w2.heap.size w3 (.slice pa n ca) (linL way G T M (ab x) d)) := BA.out
      clear HC BA K3 U3
      obtain ⟨bw, hbw⟩ : ∃ bw, allB wholeB d n = bw := ⟨_, rfl⟩
      have CA : Hid (∀ W, SV W p n cap d → Calls Try.prog 22 #[.slice p n cap, .func (.func 25) #[] #[]] W (BD W bw)) := fun W hv => hbw ▸ t22 hv hn eg25 t25w
      have HBW : Hid _ := hbw
      clear hbw
      cases bw
      · go_wp2_with (go_at_call 22; (with_reducible refine (CA.out _ (H.out.up U4.out)).mono ?_); rintro e w7 ⟨rfl, m7, hw7⟩; (have U7 : Hid (Up w w7) := hw7 ▸ U4.out.trans (Up.drewN _ _)); clear hw7)
        go_ret
        exact ⟨rfl, U7.out⟩
      cases ht : ltF (ab x) (ab 0)
      rotate_left
      · go_wp2_with (go_at_call 22; (with_reducible refine (CA.out _ (H.out.up U4.out)).mono ?_); rintro e w7 ⟨rfl, m7, hw7⟩; (have U7 : Hid (Up w w7) := hw7 ▸ U4.out.trans (Up.drewN _ _)); (obtain ⟨l0, l1, l2, l3, l4⟩ := hw7 ▸ K4.out.up (Up.drewN _ m7)); clear hw7)
        go_ret
        exact ⟨rfl, U7.out⟩
      have HWN : Hid (∀ i, i < d.size → Wn d[i]!) := fun i hi => wholeB_wn (allB_true HBW.out (by rw [H.out.len] at hi; exact hi))
      have T0 : Hid (0 ≤ val x) := by
        have f0 : Fnt 0 := by unfold Fnt; decide
        have := ht
        rw [ltF_val FX.out f0, val0] at this
        simp only [decide_eq_false_iff_not] at this
        show (0 : Rat) ≤ val x
        grind
      have HCH : Hid (∀ i, i < n → (echoD 1 G T M (ab x) d i = true → echoD 0 G T M (ab x) d i = true) ∧ (echoD 0 G T M (ab x) d i = true → echoD 2 G T M (ab x) d i = true)) := fun i hi => echo_chain HWN.out (by rw [H.out.len]; exact hz) (by rw [H.out.len]; exact hi) FX.out T0.out
      go_wp2_with (first
        | (go_at_call 22; (with_reducible refine (CA.out _ (H.out.up U4.out)).mono ?_); rintro e w7 ⟨rfl, m7, hw7⟩; (have U7 : Hid (Up w w7) := hw7 ▸ U4.out.trans (Up.drewN _ _)); (have K7 : Hid (LK w.heap.size way g t m x w7) := hw7 ▸ K4.out.up (Up.drewN _ m7)); (have BA7 : Hid (BR w2.heap.size w7 (.slice pa n ca) (linL way G T M (ab x) d)) := hw7 ▸ OR.up BA4.out (Up.drewN _ m7)); (obtain ⟨l0, l1, l2, l3, l4⟩ := K7.out); clear hw7 U4 K4 BA4)
        | (go_at_call 15; (with_reducible refine (C15.out w7 _ _ d 1 (H.out.up U7.out) (by decide) (by decide)).mono ?_); rintro e w8 ⟨pg, cg, rfl, BG, HU8⟩; clear l0 l1 l2 l3 l4; (have U8 : Hid (Up w w8) := U7.out.trans HU8.out); (have K8 : Hid (LK w.heap.size way g t m x w8) := K7.out.up HU8.out); (have BA8 : Hid (BR w2.heap.size w8 (.slice pa n ca) (linL way G T M (ab x) d)) := OR.up BA7.out HU8.out); (obtain ⟨l0, l1, l2, l3, l4⟩ := K8.out); clear HU8 U7 K7 BA7)
        | (go_at_call 15; (with_reducible refine (C15.out w8 _ _ d 0 (H.out.up U8.out) (by decide) (by decide)).mono ?_); rintro e w9 ⟨pm, cm, rfl, BM, HU9⟩; clear l0 l1 l2 l3 l4; (have U9 : Hid (Up w w9) := U8.out.trans HU9.out); (have K9 : Hid (LK w.heap.size way g t m x w9) := K8.out.up HU9.out); (have BA9 : Hid (BR w2.heap.size w9 (.slice pa n ca) (linL way G T M (ab x) d)) := OR.up BA8.out HU9.out); (have BG9 : Hid (BR w7.heap.size w9 (.slice pg n cg) (linL 1 G T M (ab x) d)) := OR.up BG.out HU9.out); (obtain ⟨l0, l1, l2, l3, l4⟩ := K9.out); clear HU9 U8 K8 BA8 BG)
        | (go_at_call 15; (with_reducible refine (C15.out w9 _ _ d 2 (H.out.up U9.out) (by decide) (by decide)).mono ?_); rintro e w10 ⟨ps, cs, rfl, BS, HU10⟩; clear l0 l1 l2 l3 l4; (have U10 : Hid (Up w w10) := U9.out.trans HU10.out); (have K10 : Hid (LK w.heap.size way g t m x w10) := K9.out.up HU10.out); (have BA10 : Hid (BR w2.heap.size w10 (.slice pa n ca) (linL way G T M (ab x) d)) := OR.up BA9.out HU10.out); (have BG10 : Hid (BR w7.heap.size w10 (.slice pg n cg) (linL 1 G T M (ab x) d)) := OR.up BG9.out HU10.out); (have BM10 : Hid (BR w8.heap.size w10 (.slice pm n cm) (linL 0 G T M (ab x) d)) := OR.up BM.out HU10.out); clear HU10 U9 K9 BA9 BG9 BM))
      clear CA C15 HBW
      go_loopw [21, 197] (fun _ vi wr => ∃ i : Nat, i ≤ n ∧ vi = .int .i64 i ∧ wr = w10) (fun _ vi _ => n - (intOf vi).toNat)
      case atStart => exact ⟨0, by omega, rfl, by trivial⟩
      case round =>
        obtain ⟨i, hin, rfl, hw⟩ := hrel
        subst hw
        rename World => w10
        by_cases hlt : i < n
        · obtain ⟨gg, hpg, c1⟩ := br_at BG10.out hlt
          obtain ⟨gm, hpm, c0⟩ := br_at BM10.out hlt
          obtain ⟨gs, hps, c2⟩ := br_at BS.out hlt
          subst hpg hpm hps
          have hld : i < d.size := by rw [H.out.len]; exact hlt
          rw [linL_at hld] at c1 c0 c2
          have hch := HCH.out i hlt
          generalize echoD 1 G T M (ab x) d i = b1 at c1 hch
          generalize echoD 0 G T M (ab x) d i = b0 at c0 hch
          generalize echoD 2 G T M (ab x) d i = b2 at c2 hch
          have hz3 : (i : Int) < (n : Int) := by omega
          have hcs : (b1 = true ∧ b0 = true ∧ b2 = true) ∨ (b1 = false ∧ b0 = true ∧ b2 = true) ∨ (b1 = false ∧ b0 = false) := by
            obtain ⟨q1, q2⟩ := hch
            cases b1 <;> cases b0 <;> cases b2 <;> simp_all
          clear hch hld
          rcases hcs with ⟨rfl, rfl, rfl⟩ | ⟨rfl, rfl, rfl⟩ | ⟨rfl, rfl⟩
          · go_wp2
            go_roundw
            case rel => exact ⟨i + 1, by omega, by go_num, by trivial⟩
            case measure => simp [intOf]; omega
          · go_wp2
            go_roundw
            case rel => exact ⟨i + 1, by omega, by go_num, by trivial⟩
            case measure => simp [intOf]; omega
          · go_wp2
            go_roundw
            case rel => exact ⟨i + 1, by omega, by go_num, by trivial⟩
            case measure => simp [intOf]; omega
        · have hie : n = i := by omega
          subst hie
          clear HCH
          go_wp2
          go_loopw [22, 227] (fun _ vi wr => ∃ i m : Nat, i ≤ n ∧ vi = .int .i64 i ∧ Hid (∀ j, j < i → val d[j]! = val d[0]!) ∧ wr = w10.drewN m) (fun _ vi _ => n - (intOf vi).toNat)
          case atStart => exact ⟨0, 0, by omega, rfl, fun j hj => by omega, rfl⟩
          case round =>
            obtain ⟨i, md, hin2, rfl, HA, hw⟩ := hrel
            rename World => W11
            have HU11 : Hid (Up w10 W11) := by rw [hw]; exact Up.drewN _ _
            have HW : Hid (W11 = w10.drewN md) := hw
            clear hw
            by_cases hlt2 : i < n
            · obtain ⟨b1, o1, e1, r1⟩ := H.out.rd (by omega)
              subst e1
              have cy := cell_up (r1 i (by rw [H.out.len]; exact hlt2)) (U10.out.trans HU11.out)
              have cz := cell_up (r1 0 (by rw [H.out.len]; omega)) (U10.out.trans HU11.out)
              rw [Nat.add_zero] at cz
              have wy := HWN.out i (by rw [H.out.len]; exact hlt2)
              have wz := HWN.out 0 (by rw [H.out.len]; omega)
              have HE : Hid (eqF (ab d[i]!) (ab d[0]!) = true → val d[i]! = val d[0]!) := fun h => by
                rw [eqF_val wy.1 wz.1] at h
                exact of_decide_eq_true h
              cases hq : eqF (ab d[i]!) (ab d[0]!)
              · clear wy wz HE r1
                generalize d[i]! = y at cy hq
                generalize d[0]! = z at cz hq
                have hz3 : (i : Int) < (n : Int) := by omega
                have hz4 : (0 : Int) < (n : Int) := by omega
                have hz5 : (0 : Int) ≤ (i : Int) := by omega
                go_wp2_with fail
                go_quiet (fail)
                go_wp2
                go_ret
                exact ⟨rfl, (U10.out.trans HU11.out).trans (Up.drewN _ _)⟩
              · have HEQ : Hid (val d[i]! = val d[0]!) := HE.out hq
                obtain ⟨y, hy⟩ : ∃ y, d[i]! = y := ⟨_, rfl⟩
                obtain ⟨z, hz0⟩ : ∃ z, d[0]! = z := ⟨_, rfl⟩
                rw [hy] at cy hq
                rw [hz0] at cz hq
                clear wy wz HE r1 hy hz0
                have hz3 : (i : Int) < (n : Int) := by omega
                have hz4 : (0 : Int) < (n : Int) := by omega
                have hz5 : (0 : Int) ≤ (i : Int) := by omega
                go_wp2_with fail
                go_quiet (fail)
                go_wp2
                go_roundw
                case rel =>
                  refine ⟨i + 1, _, by omega, by go_num, fun j hj => ?_, by rw [HW.out, World.drewN_drewN]⟩
                  rcases Nat.lt_succ_iff_lt_or_eq.1 hj with q | rfl
                  · exact HA.out j q
                  · exact HEQ.out
                case measure => simp [intOf]; omega
            · have hie2 : n = i := by omega
              subst hie2
              have U11 : Hid (Up w W11) := U10.out.trans HU11.out
              have K11 : Hid (LK w.heap.size way g t m x W11) := K10.out.up HU11.out
              have BA11 : Hid (BR w2.heap.size W11 (.slice pa n ca) (linL way G T M (ab x) d)) := OR.up BA10.out HU11.out
              have BG11 : Hid (BR w7.heap.size W11 (.slice pg n cg) (linL 1 G T M (ab x) d)) := OR.up BG10.out HU11.out
              have BM11 : Hid (BR w8.heap.size W11 (.slice pm n cm) (linL 0 G T M (ab x) d)) := OR.up BM10.out HU11.out
              have BS11 : Hid (BR w9.heap.size W11 (.slice ps n cs) (linL 2 G T M (ab x) d)) := OR.up BS.out HU11.out
              have HNO : Hid ((gtF (ab x) (ab 4607182418800017408) || eqF (ab x) (ab 4607182418800017408)) = true → ∀ y i, i < n → echoD y G T M (ab x) d i = false) := fun h y i hi => by
                have f1 : Fnt 4607182418800017408 := by unfold Fnt; decide
                have v1 : val 4607182418800017408 = 1 := by decide +kernel
                rw [gtF_val FX.out f1, eqF_val FX.out f1, v1] at h
                simp only [Bool.or_eq_true, decide_eq_true_eq] at h
                exact same_none HWN.out H.out.fit (by rw [H.out.len]; exact hz) (by rw [H.out.len]; exact hi) (fun j hj => HA.out j (by rw [H.out.len] at hj; exact hj)) FX.out (by grind)
              clear HW HU11 HA BA10 BG10 BM10 BS K10 U10
              go_wp2
              go_loopw [23, 241] (fun _ vi wr => ∃ i : Nat, i ≤ n ∧ vi = .int .i64 i ∧ wr = W11) (fun _ vi _ => n - (intOf vi).toNat)
              case atStart => exact ⟨0, by omega, rfl, by trivial⟩
              case round =>
                obtain ⟨i, hin3, rfl, hw⟩ := hrel
                subst hw
                rename World => W11
                by_cases hlt3 : i < n
                · obtain ⟨l0, l1, l2, l3, l4⟩ := K11.out
                  have hz3 : (i : Int) < (n : Int) := by omega
                  cases hb : (gtF (ab x) (ab 4607182418800017408) || eqF (ab x) (ab 4607182418800017408))
                  · go_wp2
                    go_roundw
                    case rel => exact ⟨i + 1, by omega, by go_num, by trivial⟩
                    case measure => simp [intOf]; omega
                  · obtain ⟨ga, hpa, ca0⟩ := br_at BA11.out hlt3
                    obtain ⟨gg, hpg, c1⟩ := br_at BG11.out hlt3
                    obtain ⟨gm, hpm, c0⟩ := br_at BM11.out hlt3
                    obtain ⟨gs, hps, c2⟩ := br_at BS11.out hlt3
                    subst hpa hpg hpm hps
                    have hld : i < d.size := by rw [H.out.len]; exact hlt3
                    rw [linL_at hld, HNO.out hb _ i hlt3] at ca0 c1 c0 c2
                    clear hld
                    go_wp2
                    go_roundw
                    case rel => exact ⟨i + 1, by omega, by go_num, by trivial⟩
                    case measure => simp [intOf]; omega
                · have hie3 : n = i := by omega
                  subst hie3
                  go_wp2
                  go_ret
                  exact ⟨rfl, U11.out⟩
    · obtain ⟨K, hKk, hK, hE, hM⟩ := HC.out rfl
      subst hKk
      have HE : Hid _ := hE
      have HM : Hid _ := hM
      clear hE hM HC
      have k0 : (K : Int) < (n : Int) := by omega
      go_upto_region 8 with (at_builtin; refine wpList_app_sv rfl _ _ rfl w3.heap.size 0 0 none p n cap [] d rfl rfl (World.ownsRow_nil _ _ _ _) (H.out.up U3.out) (by omega) (Nat.le_refl _) ?_; intro p1 c1 w4 hown hgr)
      have HO : Hid (w4.ownsRow w3.heap.size 24 1 (.slice p1 n c1) n (d.toList.map fe)) := by rw [Nat.zero_add] at hown; exact hown
      have HU : Hid (Up w3 w4) := grown_up (Up.refl _) hgr (fun j hj => by cases hj)
      clear hown hgr
      obtain ⟨p', c', e1, hp1⟩ := own_form HO.out
      obtain ⟨g1, hg1⟩ := hp1 (by omega)
      simp only [Value.slice.injEq] at e1
      have hp2 := e1.1.trans hg1
      subst hp2
      have cK : w4.cell? ⟨g1, K, none⟩ = some (.float .f64 d[K]!) := by
        rw [World.ownsRow.cellAt HO.out K (by omega)]
        have hs : K < d.size := by rw [H.out.len]; exact hK
        simp [getElem!_pos d K hs, Array.getElem?_eq_getElem hs]
      have fK := World.ownsRow.frozenAt HO.out K
      generalize d[K]! = yK at cK
      clear e1 hg1 hp1
      have HS : Hid (SV (w4.setCell ⟨g1, K, none⟩ (.float .f64 v)) (some ⟨g1, 0, none⟩) n c1 (d.set! K v) ∧ Up w3 (w4.setCell ⟨g1, K, none⟩ (.float .f64 v))) := by
        obtain ⟨s1, s2⟩ := World.ownsRow.stored HO.out K (.float .f64 v)
        refine ⟨sv_own (b := w3.heap.size) ?_ (by simp [H.out.len]) (fit_set H.out.fit HV.out), But.up s2 HU.out (World.ownsRow.lt HO.out g1 rfl).1⟩
        rw [Array.set!_eq_setIfInBounds, Array.toList_setIfInBounds, List.map_set]
        exact s1
      go_upto_region 9 with fail
      have U3b : Hid (Up w (w4.setCell ⟨g1, K, none⟩ (.float .f64 v))) := U3.out.trans HS.out.2
      have K3b : Hid (LK w.heap.size way g t m x (w4.setCell ⟨g1, K, none⟩ (.float .f64 v))) := K3.out.up HS.out.2
      have BA3 : Hid (BR w2.heap.size (w4.setCell ⟨g1, K, none⟩ (.float .f64 v)) (.slice pa n ca) (linL way G T M (ab x) d)) := OR.up BA.out HS.out.2
      have HS1 : Hid (SV (w4.setCell ⟨g1, K, none⟩ (.float .f64 v)) (some ⟨g1, 0, none⟩) n c1 (d.set! K v)) := HS.out.1
      generalize w4.setCell ⟨g1, K, none⟩ (.float .f64 v) = w5 at *
      obtain ⟨l0, l1, l2, l3, l4⟩ := K3b.out
      clear HS HO HU cK fK BA K3 U3
      go_upto_region 13 with (go_at_call 15; (with_reducible refine (C15.out _ _ _ (d.set! K v) _ HS1.out h1 h2).mono ?_); rintro e w6 ⟨pb, cb, rfl, BB, HU6⟩; (obtain ⟨gb, hpb, cb0⟩ := br_at BB.out hK); subst hpb; (rw [linL_at (by simp [H.out.len]; exact hK), echo_more (by rw [H.out.len]; exact hK) HE.out HM.out] at cb0); clear l0 l1 l2 l3 l4)
      have U4 : Hid (Up w w6) := U3b.out.trans HU6.out
      have K4 : Hid (LK w.heap.size way g t m x w6) := K3b.out.up HU6.out
      have BA4 : Hid (BR w2.heap.size w6 (.slice pa n ca) (linL way G T M (ab x) d)) := OR.up BA3.out HU6.out
      clear BA3 K3b U3b HU6 cb0 BB HS1 HE HM
      obtain ⟨bw, hbw⟩ : ∃ bw, allB wholeB d n = bw := ⟨_, rfl⟩
      have CA : Hid (∀ W, SV W p n cap d → Calls Try.prog 22 #[.slice p n cap, .func (.func 25) #[] #[]] W (BD W bw)) := fun W hv => hbw ▸ t22 hv hn eg25 t25w
      have HBW : Hid _ := hbw
      clear hbw
      cases bw
      · go_wp2_with (go_at_call 22; (with_reducible refine (CA.out _ (H.out.up U4.out)).mono ?_); rintro e w7 ⟨rfl, m7, hw7⟩; (have U7 : Hid (Up w w7) := hw7 ▸ U4.out.trans (Up.drewN _ _)); clear hw7)
        go_ret
        exact ⟨rfl, U7.out⟩
      cases ht : ltF (ab x) (ab 0)
      rotate_left
      · go_wp2_with (go_at_call 22; (with_reducible refine (CA.out _ (H.out.up U4.out)).mono ?_); rintro e w7 ⟨rfl, m7, hw7⟩; (have U7 : Hid (Up w w7) := hw7 ▸ U4.out.trans (Up.drewN _ _)); (obtain ⟨l0, l1, l2, l3, l4⟩ := hw7 ▸ K4.out.up (Up.drewN _ m7)); clear hw7)
        go_ret
        exact ⟨rfl, U7.out⟩
      have HWN : Hid (∀ i, i < d.size → Wn d[i]!) := fun i hi => wholeB_wn (allB_true HBW.out (by rw [H.out.len] at hi; exact hi))
      have T0 : Hid (0 ≤ val x) := by
        have f0 : Fnt 0 := by unfold Fnt; decide
        have := ht
        rw [ltF_val FX.out f0, val0] at this
        simp only [decide_eq_false_iff_not] at this
        show (0 : Rat) ≤ val x
        grind
      have HCH : Hid (∀ i, i < n → (echoD 1 G T M (ab x) d i = true → echoD 0 G T M (ab x) d i = true) ∧ (echoD 0 G T M (ab x) d i = true → echoD 2 G T M (ab x) d i = true)) := fun i hi => echo_chain HWN.out (by rw [H.out.len]; exact hz) (by rw [H.out.len]; exact hi) FX.out T0.out
      go_wp2_with (first
        | (go_at_call 22; (with_reducible refine (CA.out _ (H.out.up U4.out)).mono ?_); rintro e w7 ⟨rfl, m7, hw7⟩; (have U7 : Hid (Up w w7) := hw7 ▸ U4.out.trans (Up.drewN _ _)); (have K7 : Hid (LK w.heap.size way g t m x w7) := hw7 ▸ K4.out.up (Up.drewN _ m7)); (have BA7 : Hid (BR w2.heap.size w7 (.slice pa n ca) (linL way G T M (ab x) d)) := hw7 ▸ OR.up BA4.out (Up.drewN _ m7)); (obtain ⟨l0, l1, l2, l3, l4⟩ := K7.out); clear hw7 U4 K4 BA4)
        | (go_at_call 15; (with_reducible refine (C15.out w7 _ _ d 1 (H.out.up U7.out) (by decide) (by decide)).mono ?_); rintro e w8 ⟨pg, cg, rfl, BG, HU8⟩; clear l0 l1 l2 l3 l4; (have U8 : Hid (Up w w8) := U7.out.trans HU8.out); (have K8 : Hid (LK w.heap.size way g t m x w8) := K7.out.up HU8.out); (have BA8 : Hid (BR w2.heap.size w8 (.slice pa n ca) (linL way G T M (ab x) d)) := OR.up BA7.out HU8.out); (obtain ⟨l0, l1, l2, l3, l4⟩ := K8.out); clear HU8 U7 K7 BA7)
        | (go_at_call 15; (with_reducible refine (C15.out w8 _ _ d 0 (H.out.up U8.out) (by decide) (by decide)).mono ?_); rintro e w9 ⟨pm, cm, rfl, BM, HU9⟩; clear l0 l1 l2 l3 l4; (have U9 : Hid (Up w w9) := U8.out.trans HU9.out); (have K9 : Hid (LK w.heap.size way g t m x w9) := K8.out.up HU9.out); (have BA9 : Hid (BR w2.heap.size w9 (.slice pa n ca) (linL way G T M (ab x) d)) := OR.up BA8.out HU9.out); (have BG9 : Hid (BR w7.heap.size w9 (.slice pg n cg) (linL 1 G T M (ab x) d)) := OR.up BG.out HU9.out); (obtain ⟨l0, l1, l2, l3, l4⟩ := K9.out); clear HU9 U8 K8 BA8 BG)
        | (go_at_call 15; (with_reducible refine (C15.out w9 _ _ d 2 (H.out.up U9.out) (by decide) (by decide)).mono ?_); rintro e w10 ⟨ps, cs, rfl, BS, HU10⟩; clear l0 l1 l2 l3 l4; (have U10 : Hid (Up w w10) := U9.out.trans HU10.out); (have K10 : Hid (LK w.heap.size way g t m x w10) := K9.out.up HU10.out); (have BA10 : Hid (BR w2.heap.size w10 (.slice pa n ca) (linL way G T M (ab x) d)) := OR.up BA9.out HU10.out); (have BG10 : Hid (BR w7.heap.size w10 (.slice pg n cg) (linL 1 G T M (ab x) d)) := OR.up BG9.out HU10.out); (have BM10 : Hid (BR w8.heap.size w10 (.slice pm n cm) (linL 0 G T M (ab x) d)) := OR.up BM.out HU10.out); clear HU10 U9 K9 BA9 BG9 BM))
      clear CA C15 HBW
      go_loopw [21, 197] (fun _ vi wr => ∃ i : Nat, i ≤ n ∧ vi = .int .i64 i ∧ wr = w10) (fun _ vi _ => n - (intOf vi).toNat)
      case atStart => exact ⟨0, by omega, rfl, by trivial⟩
      case round =>
        obtain ⟨i, hin, rfl, hw⟩ := hrel
        subst hw
        rename World => w10
        by_cases hlt : i < n
        · obtain ⟨gg, hpg, c1⟩ := br_at BG10.out hlt
          obtain ⟨gm, hpm, c0⟩ := br_at BM10.out hlt
          obtain ⟨gs, hps, c2⟩ := br_at BS.out hlt
          subst hpg hpm hps
          have hld : i < d.size := by rw [H.out.len]; exact hlt
          rw [linL_at hld] at c1 c0 c2
          have hch := HCH.out i hlt
          generalize echoD 1 G T M (ab x) d i = b1 at c1 hch
          generalize echoD 0 G T M (ab x) d i = b0 at c0 hch
          generalize echoD 2 G T M (ab x) d i = b2 at c2 hch
          have hz3 : (i : Int) < (n : Int) := by omega
          have hcs : (b1 = true ∧ b0 = true ∧ b2 = true) ∨ (b1 = false ∧ b0 = true ∧ b2 = true) ∨ (b1 = false ∧ b0 = false) := by
            obtain ⟨q1, q2⟩ := hch
            cases b1 <;> cases b0 <;> cases b2 <;> simp_all
          clear hch hld
          rcases hcs with ⟨rfl, rfl, rfl⟩ | ⟨rfl, rfl, rfl⟩ | ⟨rfl, rfl⟩
          · go_wp2
            go_roundw
            case rel => exact ⟨i + 1, by omega, by go_num, by trivial⟩
            case measure => simp [intOf]; omega
          · go_wp2
            go_roundw
            case rel => exact ⟨i + 1, by omega, by go_num, by trivial⟩
            case measure => simp [intOf]; omega
          · go_wp2
            go_roundw
            case rel => exact ⟨i + 1, by omega, by go_num, by trivial⟩
            case measure => simp [intOf]; omega
        · have hie : n = i := by omega
          subst hie
          clear HCH
          go_wp2
          go_loopw [22, 227] (fun _ vi wr => ∃ i m : Nat, i ≤ n ∧ vi = .int .i64 i ∧ Hid (∀ j, j < i → val d[j]! = val d[0]!) ∧ wr = w10.drewN m) (fun _ vi _ => n - (intOf vi).toNat)
          case atStart => exact ⟨0, 0, by omega, rfl, fun j hj => by omega, rfl⟩
          case round =>
            obtain ⟨i, md, hin2, rfl, HA, hw⟩ := hrel
            rename World => W11
            have HU11 : Hid (Up w10 W11) := by rw [hw]; exact Up.drewN _ _
            have HW : Hid (W11 = w10.drewN md) := hw
            clear hw
            by_cases hlt2 : i < n
            · obtain ⟨b1, o1, e1, r1⟩ := H.out.rd (by omega)
              subst e1
              have cy := cell_up (r1 i (by rw [H.out.len]; exact hlt2)) (U10.out.trans HU11.out)
              have cz := cell_up (r1 0 (by rw [H.out.len]; omega)) (U10.out.trans HU11.out)
              rw [Nat.add_zero] at cz
              have wy := HWN.out i (by rw [H.out.len]; exact hlt2)
              have wz := HWN.out 0 (by rw [H.out.len]; omega)
              have HE : Hid (eqF (ab d[i]!) (ab d[0]!) = true → val d[i]! = val d[0]!) := fun h => by
                rw [eqF_val wy.1 wz.1] at h
                exact of_decide_eq_true h
              cases hq : eqF (ab d[i]!) (ab d[0]!)
              · clear wy wz HE r1
                generalize d[i]! = y at cy hq
                generalize d[0]! = z at cz hq
                have hz3 : (i : Int) < (n : Int) := by omega
                have hz4 : (0 : Int) < (n : Int) := by omega
                have hz5 : (0 : Int) ≤ (i : Int) := by omega
                go_wp2_with fail
                go_quiet (fail)
                go_wp2
                go_ret
                exact ⟨rfl, (U10.out.trans HU11.out).trans (Up.drewN _ _)⟩
              · have HEQ : Hid (val d[i]! = val d[0]!) := HE.out hq
                obtain ⟨y, hy⟩ : ∃ y, d[i]! = y := ⟨_, rfl⟩
                obtain ⟨z, hz0⟩ : ∃ z, d[0]! = z := ⟨_, rfl⟩
                rw [hy] at cy hq
                rw [hz0] at cz hq
                clear wy wz HE r1 hy hz0
                have hz3 : (i : Int) < (n : Int) := by omega
                have hz4 : (0 : Int) < (n : Int) := by omega
                have hz5 : (0 : Int) ≤ (i : Int) := by omega
                go_wp2_with fail
                go_quiet (fail)
                go_wp2
                go_roundw
                case rel =>
                  refine ⟨i + 1, _, by omega, by go_num, fun j hj => ?_, by rw [HW.out, World.drewN_drewN]⟩
                  rcases Nat.lt_succ_iff_lt_or_eq.1 hj with q | rfl
                  · exact HA.out j q
                  · exact HEQ.out
                case measure => simp [intOf]; omega
            · have hie2 : n = i := by omega
              subst hie2
              have U11 : Hid (Up w W11) := U10.out.trans HU11.out
              have K11 : Hid (LK w.heap.size way g t m x W11) := K10.out.up HU11.out
              have BA11 : Hid (BR w2.heap.size W11 (.slice pa n ca) (linL way G T M (ab x) d)) := OR.up BA10.out HU11.out
              have BG11 : Hid (BR w7.heap.size W11 (.slice pg n cg) (linL 1 G T M (ab x) d)) := OR.up BG10.out HU11.out
              have BM11 : Hid (BR w8.heap.size W11 (.slice pm n cm) (linL 0 G T M (ab x) d)) := OR.up BM10.out HU11.out
              have BS11 : Hid (BR w9.heap.size W11 (.slice ps n cs) (linL 2 G T M (ab x) d)) := OR.up BS.out HU11.out
              have HNO : Hid ((gtF (ab x) (ab 4607182418800017408) || eqF (ab x) (ab 4607182418800017408)) = true → ∀ y i, i < n → echoD y G T M (ab x) d i = false) := fun h y i hi => by
                have f1 : Fnt 4607182418800017408 := by unfold Fnt; decide
                have v1 : val 4607182418800017408 = 1 := by decide +kernel
                rw [gtF_val FX.out f1, eqF_val FX.out f1, v1] at h
                simp only [Bool.or_eq_true, decide_eq_true_eq] at h
                exact same_none HWN.out H.out.fit (by rw [H.out.len]; exact hz) (by rw [H.out.len]; exact hi) (fun j hj => HA.out j (by rw [H.out.len] at hj; exact hj)) FX.out (by grind)
              clear HW HU11 HA BA10 BG10 BM10 BS K10 U10
              go_wp2
              go_loopw [23, 241] (fun _ vi wr => ∃ i : Nat, i ≤ n ∧ vi = .int .i64 i ∧ wr = W11) (fun _ vi _ => n - (intOf vi).toNat)
              case atStart => exact ⟨0, by omega, rfl, by trivial⟩
              case round =>
                obtain ⟨i, hin3, rfl, hw⟩ := hrel
                subst hw
                rename World => W11
                by_cases hlt3 : i < n
                · obtain ⟨l0, l1, l2, l3, l4⟩ := K11.out
                  have hz3 : (i : Int) < (n : Int) := by omega
                  cases hb : (gtF (ab x) (ab 4607182418800017408) || eqF (ab x) (ab 4607182418800017408))
                  · go_wp2
                    go_roundw
                    case rel => exact ⟨i + 1, by omega, by go_num, by trivial⟩
                    case measure => simp [intOf]; omega
                  · obtain ⟨ga, hpa, ca0⟩ := br_at BA11.out hlt3
                    obtain ⟨gg, hpg, c1⟩ := br_at BG11.out hlt3
                    obtain ⟨gm, hpm, c0⟩ := br_at BM11.out hlt3
                    obtain ⟨gs, hps, c2⟩ := br_at BS11.out hlt3
                    subst hpa hpg hpm hps
                    have hld : i < d.size := by rw [H.out.len]; exact hlt3
                    rw [linL_at hld, HNO.out hb _ i hlt3] at ca0 c1 c0 c2
                    clear hld
                    go_wp2
                    go_roundw
                    case rel => exact ⟨i + 1, by omega, by go_num, by trivial⟩
                    case measure => simp [intOf]; omega
                · have hie3 : n = i := by omega
                  subst hie3
                  go_wp2
                  go_ret
                  exact ⟨rfl, U11.out⟩
end Go.Proofs.Ytfggdaebahdnfaa
