/- The walk of ScenePeak. -/
import Derived.Test.YthifemkbemhmnaaJd
import Derived.Deep.QuietTactic
import Derived.BigQuiet
namespace Go.Proofs.Ythifemkbemhmnaa
open Go.ChangeShapes Go.WideShapes Go.ChangeAt Go.RowKit Go.Fl Ieee
attribute [local go_sem] run_store_float run_store_c isSome_set call69 call32 run_neg fold_eq fold_ne fold_lt fold_gt abs_eq

theorem YR.mid {W : World} {S E d n : Nat} {z : Int} {w8 : Nat → Int} {ds : List (Nat × Nat)} (h : YR W S E d n z w8 ds) (hE : d + n ≤ E) (hn : 1 ≤ n) : ∃ x y, W.cell? ⟨S, d, none⟩ = some (.complex .f64 x y) ∧ WC (ab x, ab y) (unA (z - d) * ownZ w8 n 0) (unB (z - d) * ownZ w8 n 0) := by
  have h1 := h.rd d (by omega)
  rw [Nat.zero_add] at h1
  have h2 := h.is d (by omega)
  rw [corr_at] at h2
  exact ⟨_, _, h1, h2⟩
theorem ge_of {x y : Nat} {a b : Int} (hx : WH (ab x) a) (hy : WH (ab y) b) (h : b ≤ a) : gtF (ab x) (ab y) = true ∨ eqF (ab x) (ab y) = true := by
  rw [hx.gt hy, hx.eq hy]
  simp only [decide_eq_true_eq]
  omega
theorem lt_of {x y : Nat} {a b : Int} (hx : WH (ab x) a) (hy : WH (ab y) b) (h : a < b) : gtF (ab x) (ab y) = false ∧ eqF (ab x) (ab y) = false := by
  rw [hx.gt hy, hx.eq hy]
  simp only [decide_eq_false_iff_not]
  omega
/-- Echo, with the range as a letter; what it leaves. -/
theorem echo_q {w w1 : World} {d n E R T gl cap fd gb : Nat} {z : Int} {w8 : Nat → Int} (hf : floatOfInt .f64 (d : Int) = fd) (hd : d < 300) (h1 : -128 ≤ z ∧ z ≤ 127) (hT : quF z = some T) (hn1 : 1 ≤ n) (hn : n ≤ 60) (hE : d + n ≤ E) (hE2 : E ≤ 300) (hR1 : 1 ≤ R) (hR : R ≤ 6) (hp : RD w1 gl 0 n (fpW w8)) (hs : Sm w8 n) (hu : Up w w1) (hb : BC w1 gb 4607182418800017408 4620693217682128896 4652007308841189376 (E : Int) (R : Int)) :
    Calls Try.prog 7 #[.agg #[.float .f64 4607182418800017408, .float .f64 4620693217682128896, .float .f64 4652007308841189376, .int .i64 (E : Int), .int .i64 (R : Int)], .slice (some ⟨gl, 0, none⟩) n cap, .agg #[.float .f64 fd, .float .f64 0, .float .f64 4607182418800017408, .float .f64 T, .float .f64 0], .float .f64 4613937818241073152] w1 fun e w' => ∃ A B dd, e = .returned (.tuple #[.slice (some ⟨A, 0, none⟩) R R, .int .i64 0]) ∧ Hid (QW w w' gb gl n E R A B d z w8 dd) := by
  subst hf
  refine (echo_peak (n := n) hd h1.1 h1.2 hT hn1 hn hE hE2 hR1 hR hp).mono fun e w' h => ?_
  obtain ⟨A, B, dd, he, k1, k2⟩ := h.mt
  exact ⟨A, B, dd, he, ⟨hb.up k2.out, hp.up k2.out, k1.out, hu.trans k2.out, hs, ⟨hn1, hn, hE, hE2, hR1, hR, hd⟩⟩⟩
set_option maxRecDepth 100000 in
set_option maxHeartbeats 8000000 in
theorem t3 {w : World} {e16 r8 c16 len cap bb bo : Nat} {q : Int} {p : Option Addr} {W : Nat → Int} (he : e16 ≤ 65535) (hr : r8 ≤ 255) (hc : c16 ≤ 65535) (hq1 : -128 ≤ q) (hq2 : q ≤ 127) (hp : 0 < len → p = some ⟨bb, bo, none⟩) (hw : ∀ i, i < len → w.cell? ⟨bb, bo + i, none⟩ = some (.int .i8 (W i)) ∧ -128 ≤ W i ∧ W i ≤ 127) :
    Calls Try.prog 3 #[.agg #[.int .u16 (e16 : Int), .int .u8 (r8 : Int), .slice p len cap, .int .u16 (c16 : Int), .int .i8 q]] w (TU w) := by
  obtain ⟨b0, b1, b2, b3, b4⟩ := boxedP_cell w (e16 : Int) (r8 : Int) (.slice p len cap) (c16 : Int) q
  obtain ⟨n, hn⟩ : ∃ n, min len 60 = n := ⟨_, rfl⟩
  have HR : Hid (∀ i, i < n → ∀ k, ((boxedP w (e16 : Int) (r8 : Int) (.slice p len cap) (c16 : Int) q).drewN k).cell? ⟨bb, bo + i, none⟩ = some (.int .i8 (W i))) := fun i hi k => cell_up (hw i (by omega)).1 ((Up.alloc _ _).trans (Up.drewN _ _))
  have HSM : Hid (Sm W n) := fun i hi => by have := (hw i (by omega)).2; omega
  have HPP : Hid (0 < n → p = some ⟨bb, bo, none⟩) := fun h => hp (by omega)
  have hmin : (if (60 : Int) < (len : Int) then (60 : Int) else (len : Int)) = (n : Int) := by split <;> omega
  have n2 : n ≤ 60 := by omega
  have hnl : n ≤ len := by omega
  obtain ⟨i0, hi, hz0, hz1, hz2⟩ := info_parts info41
  obtain ⟨e0, he0⟩ : ∃ e0 : Nat, e16 % 300 = e0 := ⟨_, rfl⟩
  obtain ⟨r0, hr0⟩ : ∃ r0 : Nat, r8 % 6 = r0 := ⟨_, rfl⟩
  obtain ⟨d, hd⟩ : ∃ d : Nat, c16 % 300 = d := ⟨_, rfl⟩
  have m1 : (e16 : Int).tmod 300 = (e0 : Int) := by rw [Int.tmod_eq_emod_of_nonneg (by omega)]; omega
  have m2 : (r8 : Int).tmod 6 = (r0 : Int) := by rw [Int.tmod_eq_emod_of_nonneg (by omega)]; omega
  have m3 : (c16 : Int).tmod 300 = (d : Int) := by rw [Int.tmod_eq_emod_of_nonneg (by omega)]; omega
  have m4 : (e16 : Int) % 300 = (e0 : Int) := by omega
  have m5 : (r8 : Int) % 6 = (r0 : Int) := by omega
  have m6 : (c16 : Int) % 300 = (d : Int) := by omega
  obtain ⟨E, hE⟩ : ∃ E : Nat, (e0 : Int) + 1 = (E : Int) := ⟨e0 + 1, by omega⟩
  obtain ⟨R, hR⟩ : ∃ R : Nat, (r0 : Int) + 1 = (R : Int) := ⟨r0 + 1, by omega⟩
  obtain ⟨dn, hdn⟩ : ∃ dn : Nat, (d : Int) + (n : Int) = (dn : Int) := ⟨d + n, by omega⟩
  have HN : Hid (1 ≤ E ∧ E ≤ 300 ∧ 1 ≤ R ∧ R ≤ 6 ∧ d < 300 ∧ dn = d + n) := ⟨by omega, by omega, by omega, by omega, by omega, by omega⟩
  have z1 : (e0 : Int) < 300 := by omega
  have z2 : (r0 : Int) < 6 := by omega
  have z3 : (d : Int) < 300 := by omega
  have z4 : (dn : Int) < 1000 := by omega
  obtain ⟨T, hT, fT, _, _⟩ := qu_val (z := q) (by omega) (by omega)
  have HT : Hid (quF q = some T) := hT
  have HQ : Hid (-128 ≤ q ∧ q ≤ 127) := ⟨hq1, hq2⟩
  obtain ⟨fd, hfd⟩ : ∃ x, floatOfInt .f64 (d : Int) = x := ⟨_, rfl⟩
  obtain ⟨fq, hfq⟩ : ∃ x, floatOfInt .f64 q = x := ⟨_, rfl⟩
  have HFD : Hid (floatOfInt .f64 (d : Int) = fd) := hfd
  have F1 : ∀ w, (binOp .quo 29 (.float .f64 fq) (.float .f64 4616189618054758400)).run Try.prog w = .ok (.float .f64 T) w := fun w => run_fl_some _ _ w (by rw [← hfq]; exact hT)
  clear hn hw hp he0 hr0 hd hT fT hq1 hq2
  go_enter Try.func3, Try.ntmps3
  go_wp2_with fail
  go_quiet (fail)
  have UB : Hid (Up w ((boxedP w (e16 : Int) (r8 : Int) (.slice p len cap) (c16 : Int) q).drewN nq)) := (Up.alloc _ _).trans (Up.drewN _ _)
  have HB : Hid (∀ i, i < n → ((boxedP w (e16 : Int) (r8 : Int) (.slice p len cap) (c16 : Int) q).drewN nq).cell? ⟨bb, bo + i, none⟩ = some (.int .i8 (W i))) := fun i hi => HR.out i hi nq
  clear HR b0 b1 b2 b3 b4
  generalize (boxedP w (e16 : Int) (r8 : Int) (.slice p len cap) (c16 : Int) q).drewN nq = WB at *
  go_wp2
  go_loopw [9, 10] (fun v vi wr => ∃ k : Nat, k ≤ n ∧ vi = .int .i64 k ∧ Hid (WRow WB wr v W k)) (fun _ vi _ => n - (intOf vi).toNat)
  case atStart => exact ⟨0, by omega, rfl, ⟨World.ownsRow_nil _ _ _ _, Up.refl _⟩⟩
  case round =>
    obtain ⟨k, hk, rfl, HS⟩ := hrel
    by_cases hlt : k < n
    · have hkz : (k : Int) < (n : Int) := by omega
      have hkl : (k : Int) < (len : Int) := by omega
      have hk0 : (0 : Int) ≤ (k : Int) := by omega
      have hc1 := cell_up (HB.out k hlt) HS.out.up
      have hown := HS.out.row
      have sz : WB.heap.size ≤ wr.heap.size := HS.out.up.size
      obtain rfl := HPP.out (by omega)
      obtain ⟨x, hx⟩ : ∃ x, floatOfInt .f64 (W k) = x := ⟨_, rfl⟩
      have HX : Hid (floatOfInt .f64 (W k) = x) := hx
      go_wp2_with (at_builtin; refine wpList_append_own _ rfl _ _ 27 rfl WB.heap.size 28 i0 (.complex .f64 0 0) 1 16 Try.underlying27 hi hz0 hz1 hz2 rfl (by decide) _ _ _ rfl (hown.alloc _) ⟨wr.heap.size, 0, none⟩ 1 1 [.complex .f64 x 0] rfl rfl (cell_newc _ _ _ _) (one_cellc _ _) (by unfold maxLen; omega) (by omega) (by simp; omega) ?_)
      intro v' w3 hown' hgrow _
      have HS3 : Hid (WRow WB w3 v' W (k + 1)) := HS.out.push (Up.alloc _ _) HX.out hown' hgrow
      clear hown' hgrow hown HS
      go_wp2
      go_roundw
      case rel => exact ⟨k + 1, by omega, by go_num, HS3⟩
      case measure => simp [intOf]; omega
    · obtain rfl : k = n := by omega
      by_cases hn0 : k = 0
      · subst hn0
        go_wp2_with (go_at_call 6; (with_reducible refine (t6 _).mono ?_); rintro e w9 ⟨rfl, HU⟩)
        go_ret
        exact ⟨rfl, (UB.out.trans HS.out.up).trans ((Up.alloc _ _).trans HU.out)⟩
      · have n0 : ((k : Int) == 0) = false := by rw [beq_eq_false_iff_ne]; omega
        obtain ⟨gl, cl, hv, hcl, hrd⟩ := HS.out.rd (by omega)
        subst hv
        have HP : Hid (RD wr gl 0 k (fpW W)) := hrd
        have UW : Hid (Up w wr) := UB.out.trans HS.out.up
        clear hrd HS HB UB hmin hnl hlt HPP hk hi hz0 hz1 hz2
        by_cases hgt : E < dn
        · have g1 : (E : Int) < (dn : Int) := by omega
          go_wp2_with (go_at_call 6; (with_reducible refine (t6 _).mono ?_); rintro e w9 ⟨rfl, HU⟩)
          go_ret
          exact ⟨rfl, UW.out.trans ((Up.alloc _ _).trans HU.out)⟩
        · have g1 : ¬ (E : Int) < (dn : Int) := by omega
          have HG : Hid (¬ E < dn) := hgt
          go_wp2_with fail
          have HN1 := HN.out
          have k60 := HSM
          have UA : Hid (Up wr ((wr.alloc (.cells #[.float .f64 4607182418800017408, .float .f64 4620693217682128896, .float .f64 4652007308841189376, .int .i64 (E : Int), .int .i64 (R : Int)] 31)).alloc (.cells #[.float .f64 fd, .float .f64 0, .float .f64 4607182418800017408, .float .f64 T, .float .f64 0] 34))) := (Up.alloc _ _).trans (Up.alloc _ _)
          (with_reducible refine (echo_q (w := w) (d := d) (n := k) (E := E) (R := R) (z := q) (w8 := W) (gb := wr.heap.size) HFD.out (by omega) HQ.out HT.out (by omega) n2 (by omega) (by omega) (by omega) (by omega) (HP.out.up UA.out) HSM.out (UW.out.trans UA.out) ((BC.new wr _ _ _ _ _).up (Up.alloc _ _))).mono ?_)
          rintro e W1 ⟨A, B, dd, rfl, HS⟩
          clear HN1 k60 UA HP UW
          generalize wr.heap.size = gb at *
          obtain ⟨b0, b1, b2, b3, b4⟩ := HS.out.bc
          go_wp2_with (go_at_call 8; (with_reducible refine (t8w HS.out.rd HSM.out n2).mono ?_); rintro e W2 ⟨pr, rfl, HPW, U2⟩)
          have HS2 : Hid (QW w W2 gb gl k E R A B d q W dd) := HS.out.grow U2.out
          clear HS U2 b0 b1 b2 b3 b4
          have HPB : Hid (-983040 ≤ ownZ W k 0 ∧ ownZ W k 0 ≤ 983040 ∧ 0 ≤ ownZ W k 0) := ⟨(own_bd HSM.out n2).1, (own_bd HSM.out n2).2, own_nn⟩
          go_wp2_with fail
          go_loopw [17] (fun vi wr => ∃ j : Nat, 1 ≤ j ∧ j ≤ k ∧ vi = .int .i64 j ∧ Hid (QW w wr gb gl k E R A B d q W dd) ∧ Hid (∀ i, 1 ≤ i → i < j → ownZ W k i * ownZ W k i < ownZ W k 0 * ownZ W k 0)) (fun vi _ => k - (intOf vi).toNat)
          case atStart => exact ⟨1, by omega, by omega, rfl, HS2, fun i h1 h2 => by omega⟩
          case round =>
            clear HS2
            obtain ⟨j, hj1, hj, rfl, HS, HL⟩ := hrel
            by_cases hlt : j < k
            · have j1 : (j : Int) < (k : Int) := by omega
              have j2 : (0 : Int) ≤ (j : Int) := by omega
              have j3 : ¬ cl = j := by omega
              have j4 : ¬ cl - j = 0 := by omega
              have j5 : (j : Int) ≤ (k : Int) := by omega
              have HJ : Hid (-983040 ≤ ownZ W k j ∧ ownZ W k j ≤ 983040) := own_bd HSM.out n2
              go_wp2_with (first
                | (go_at_call 9; (with_reducible refine (side_w HS.out.rd HSM.out n2 hlt).mono ?_); rintro e W3 ⟨r3, s3, rfl, HC3, U3⟩)
                | (go_at_call 10; (with_reducible refine (abs_s HC3.out HJ.out).mono ?_); rintro e W4 ⟨x4, k4, rfl, HX4, hw4⟩; subst W4)
                | ((with_reducible refine upon_fl (by simp) ?_); intro r5 k5 hr5
                   have HW5 : Hid (WH (ab r5) (ownZ W k 0 * ownZ W k 0)) := pow_sq HPW.out ⟨HPB.out.1, HPB.out.2.1⟩ hr5.out)
                | (go_at_call 6; (with_reducible refine (t6 _).mono ?_); rintro e w9 ⟨rfl, HU⟩))
              · go_ret
                exact ⟨rfl, (HS.out.up.trans (U3.out.trans (Up.drewN _ _))).trans HU.out⟩
              · have hlt5 : gtF (ab x4) (ab r5) = false ∧ eqF (ab x4) (ab r5) = false := by assumption
                have HL2 : Hid (∀ i, 1 ≤ i → i < j + 1 → ownZ W k i * ownZ W k i < ownZ W k 0 * ownZ W k 0) := by
                  intro i h1 h2
                  rcases Nat.lt_or_ge i j with h3 | h3
                  · exact HL.out i h1 h3
                  · obtain rfl : i = j := by omega
                    have e1 := HX4.out.gt HW5.out
                    have e2 := HX4.out.eq HW5.out
                    rw [hlt5.1] at e1
                    rw [hlt5.2] at e2
                    have e3 := of_decide_eq_false e1.symm
                    have e4 := of_decide_eq_false e2.symm
                    omega
                go_roundw
                case rel => exact ⟨j + 1, by omega, by omega, by go_num, HS.out.grow (U3.out.trans (Up.drewN _ _)), HL2⟩
                case measure => simp [intOf]; omega
            · have j1 : ¬ (j : Int) < (k : Int) := by omega
              have HLA : Hid (∀ i, 1 ≤ i → i < k → ownZ W k i * ownZ W k i < ownZ W k 0 * ownZ W k 0) := fun i h1 h2 => HL.out i h1 (by omega)
              clear HL
              go_wp2_with fail
              go_loopw [19] (fun vi wr => ∃ i : Nat, i ≤ R ∧ vi = .int .i64 i ∧ Hid (QW w wr gb gl k E R A B d q W dd)) (fun vi _ => R - (intOf vi).toNat)
              case atStart => exact ⟨0, by omega, rfl, HS⟩
              case round =>
                clear HS
                obtain ⟨i, hi, rfl, HS⟩ := hrel
                by_cases hlt : i < R
                · have i1 : (i : Int) < (R : Int) := by omega
                  have i2 : (0 : Int) ≤ (i : Int) := by omega
                  have d1 : (d : Int) < (E : Int) := by have := HS.out.num; omega
                  have d2 : (0 : Int) ≤ (d : Int) := by omega
                  obtain ⟨zz, hzz⟩ : ∃ zz, i * E = zz := ⟨_, rfl⟩
                  have HZ : Hid (i * E = zz) := hzz
                  clear hzz
                  have a1 := HS.out.mt.row hlt HZ.out
                  have b3 := HS.out.bc.c3
                  by_cases hP : 0 < ownZ W k 0
                  · have HPP : Hid (0 < ownZ W k 0) := hP
                    have hp0 : gtF (ab pr) (ab 0) = true := by rw [HPW.out.gt WH.zero]; simpa using hP
                    clear hP
                    go_wp2_with (first
                      | (go_at_call 11; (with_reducible refine (match_w HS.out hlt HZ.out).mono ?_); rintro e W5 ⟨S5, c5, ds, rfl, HY, HS5⟩
                         have b3' := HS5.out.bc.c3
                         obtain ⟨y1, y2, cy, hy⟩ := HY.out.mid HS5.out.num.2.2.1 HS5.out.num.1
                         have HYM : Hid (WC (ab y1, ab y2) (unA (q - d) * ownZ W k 0) (unB (q - d) * ownZ W k 0)) := hy
                         clear hy)
                      | (go_at_call 10; (with_reducible refine (abs_w (un_is _) HYM.out ⟨HPB.out.1, HPB.out.2.1⟩).mono ?_); rintro e W6 ⟨x6, k6, rfl, HX6, hw6⟩; subst W6)
                      | ((with_reducible refine upon_fl (by simp) ?_); intro r7 k7 hr7
                         have heq7 : eqF (ab x6) (ab r7) = true := by rw [HX6.out.eq (pow_sq HPW.out ⟨HPB.out.1, HPB.out.2.1⟩ hr7.out)]; simp)
                      | (go_at_call 12; (with_reducible refine (peak_w HY.out HSM.out n2 HS5.out.num.2.2.2.1 (by have := HS5.out.num; omega) HPP.out HLA.out _ (Up.drewN _ _)).mono ?_); rintro e W8 ⟨rfl, k8, hw8⟩; subst W8))
                    go_roundw
                    case rel => exact ⟨i + 1, by omega, by go_num, HS5.out.grow (Up.drewN _ _)⟩
                    case measure => simp [intOf]; omega
                  · have hp0 : gtF (ab pr) (ab 0) = false := by rw [HPW.out.gt WH.zero]; simpa using hP
                    clear hP
                    go_wp2_with (first
                      | (go_at_call 11; (with_reducible refine (match_w HS.out hlt HZ.out).mono ?_); rintro e W5 ⟨S5, c5, ds, rfl, HY, HS5⟩
                         have b3' := HS5.out.bc.c3
                         obtain ⟨y1, y2, cy, hy⟩ := HY.out.mid HS5.out.num.2.2.1 HS5.out.num.1
                         have HYM : Hid (WC (ab y1, ab y2) (unA (q - d) * ownZ W k 0) (unB (q - d) * ownZ W k 0)) := hy
                         clear hy)
                      | (go_at_call 10; (with_reducible refine (abs_w (un_is _) HYM.out ⟨HPB.out.1, HPB.out.2.1⟩).mono ?_); rintro e W6 ⟨x6, k6, rfl, HX6, hw6⟩; subst W6)
                      | ((with_reducible refine upon_fl (by simp) ?_); intro r7 k7 hr7
                         have heq7 : eqF (ab x6) (ab r7) = true := by rw [HX6.out.eq (pow_sq HPW.out ⟨HPB.out.1, HPB.out.2.1⟩ hr7.out)]; simp))
                    go_roundw
                    case rel => exact ⟨i + 1, by omega, by go_num, HS5.out.grow (Up.drewN _ _)⟩
                    case measure => simp [intOf]; omega
                · have i1 : ¬ (i : Int) < (R : Int) := by omega
                  go_wp2_with (go_at_call 6; (with_reducible refine (t6 _).mono ?_); rintro e w9 ⟨rfl, HU⟩)
                  go_ret
                  exact ⟨rfl, HS.out.up.trans HU.out⟩
end Go.Proofs.Ythifemkbemhmnaa
