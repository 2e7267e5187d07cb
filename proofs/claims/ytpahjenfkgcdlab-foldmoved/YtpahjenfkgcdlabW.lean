/- FoldMoved. -/
import Derived.Test.YtpahjenfkgcdlabV
namespace Go.Proofs.Ytpahjenfkgcdlab
open Go.ChangeShapes Go.WideShapes Go.ChangeAt Go.RowKit

/-- The row of remainders as far as it is made. -/
def RM (w1 : World) (X o : Int) (i : Nat) (v : Value) (wr : World) : Prop := ∃ R : List Int, R.length = i ∧ OI w1.heap.size wr v R ∧ Up w1 wr ∧ ∀ j, j < i → ∃ t, R[j]! = X + t ∧ -o ≤ t ∧ t ≤ o
theorem RM.next {w1 wr w3 : World} {X o t : Int} {i : Nat} {v v2 : Value} {R : List Int} {obj : Obj} (hl : R.length = i) (ho : OI w1.heap.size wr v R) (hu : Up w1 wr) (hr : ∀ j, j < i → ∃ t, R[j]! = X + t ∧ -o ≤ t ∧ t ≤ o) {z : Int} (hz : z = X + t) (ht : -o ≤ t ∧ t ≤ o) (h2 : w3.ownsRow w1.heap.size 2 1 v2 (R.length + 1) (R.map (Value.int .i64) ++ [.int .i64 z])) (hg : (wr.alloc obj).grownBy w3 v.ownBlock) : RM w1 X o (i + 1) v2 w3 := by
  obtain ⟨h3, h4⟩ := app_own ho hu h2 hg
  refine ⟨R ++ [z], by simp [hl], h3, h4, fun j hj => ?_⟩
  by_cases e : j < i
  · obtain ⟨t', q1, q2⟩ := hr j e
    refine ⟨t', ?_, q2⟩
    rw [← q1, getElem!_pos (R ++ [z]) j (by simp; omega), getElem!_pos R j (by omega), List.getElem_append_left]
  · obtain rfl : j = i := by omega
    refine ⟨t, ?_, ht⟩
    rw [getElem!_pos (R ++ [z]) j (by simp; omega), List.getElem_append_right (by omega)]
    simp [hz]
/-- What the calls read: the remainders and the moduli. -/
def RL (w : World) (pr pl : Option Addr) (k : Nat) (R L : List Int) (wz : World) : Prop := IR wz pr k (fun i => R[i]!) ∧ IR wz pl k (fun i => L[i]!) ∧ Up w wz
theorem RL.up {w : World} {pr pl : Option Addr} {k : Nat} {R L : List Int} {wz wy : World} (h : RL w pr pl k R L wz) (hu : Up wz wy) : RL w pr pl k R L wy := ⟨h.1.up hu, h.2.1.up hu, h.2.2.trans hu⟩
theorem RL.mk' {w w1 wz : World} {pr pl : Option Addr} {k cr cl : Nat} {R L : List Int} (h1 : OI w1.heap.size wz (.slice pr k cr) R) (hu : Up w1 wz) (h2 : OI w.heap.size w1 (.slice pl k cl) L) (hw : Up w w1) : RL w pr pl k R L wz := ⟨h1.ir.2, (h2.up hu).ir.2, hw.trans hu⟩
set_option maxHeartbeats 8000000 in
set_option maxRecDepth 100000 in
theorem t3 (x off : Int) (p q : Option Addr) (n n2 c c2 : Nat) (f f2 : Nat → Int) (w : World) (hm : IR w p n f) (hq : IR w q n2 f2) : Calls Try.prog 3 #[.int .i64 x, .slice p n c, .slice q n2 c2, .int .i64 off] w (TU w) := by
  have H4 : Hid (∀ w, IR w p n f → _) := fun w h => t4 p n c f w h
  have HM : Hid (IR w p n f) := hm
  have HQ : Hid (IR w q n2 f2) := hq
  obtain ⟨k, hk⟩ : ∃ k, min n 5 = k := ⟨_, rfl⟩
  have hk5 : k ≤ 5 := by omega
  rw [hk] at H4
  have HLin : Hid (∀ j, j < k → 1 ≤ (modL f k)[j]! ∧ (modL f k)[j]! ≤ 4096) := fun j hj => modL_in f hj
  generalize modL f k = L at *
  have o0 := Int.emod_nonneg off (show (40 : Int) ≠ 0 by decide)
  have o1 := Int.emod_lt_of_pos off (show (0 : Int) < 40 by decide)
  have x0 := Int.emod_nonneg x (show (8192 : Int) ≠ 0 by decide)
  have x1 := Int.emod_lt_of_pos x (show (0 : Int) < 8192 by decide)
  obtain ⟨o, ho⟩ : ∃ o, off % 40 = o := ⟨_, rfl⟩
  obtain ⟨X, hX⟩ : ∃ X, x % 8192 = X := ⟨_, rfl⟩
  rw [ho] at o0 o1
  rw [hX] at x0 x1
  have hkz : (k : Int) ≤ 5 := by omega
  obtain ⟨i0, hi, hz0, hz1, hz2⟩ := info_parts info2
  clear hm hq hk
  go_enter Try.func3, Try.ntmps3
  go_wp2_with (first
    | (go_at_call 4; (with_reducible refine (H4.out _ HM.out).mono ?_); rintro e w1 ⟨pl, cl, rfl, HL⟩)
    | (go_at_call 5; (with_reducible refine (t5 off 40 (by omega) _).mono ?_); rintro e w1 ⟨rfl, rfl⟩; rw [ho])
    | (go_at_call 5; (with_reducible refine (t5 x 8192 (by omega) _).mono ?_); rintro e w1 ⟨rfl, rfl⟩; rw [hX]))
  clear ho hX
  go_loopw [10, 11] (fun v10 v11 wr => ∃ (i : Nat) (pr : Option Addr) (cr : Nat), i ≤ k ∧ v10 = .slice pr i cr ∧ v11 = .int .i64 i ∧ Hid (RM w1 X o i (.slice pr i cr) wr)) (fun _ v11 _ => k - (intOf v11).toNat)
  case atStart => exact ⟨0, none, 0, by omega, rfl, rfl, [], rfl, OI.nil _ _, Up.refl _, fun j hj => by omega⟩
  case round =>
    obtain ⟨i, pr, cr, hik, rfl, rfl, HR⟩ := hrel
    by_cases hlt : i < k
    · obtain ⟨R, rl, ro, ru, rr⟩ := HR.out
      have HRL : Hid (R.length = i) := rl
      have HRO : Hid (OI w1.heap.size wr (.slice pr i cr) R) := ro
      have HRU : Hid (Up w1 wr) := ru
      have HRR : Hid (∀ j, j < i → ∃ t, R[j]! = X + t ∧ -o ≤ t ∧ t ≤ o) := rr
      have hsz := ru.size
      have hiz : (i : Int) < (k : Int) := by omega
      have hiz0 : (0 : Int) ≤ (i : Int) := by omega
      have HLT : Hid (i < k) := hlt
      clear ro ru rr HR
      by_cases hi2 : i < n2
      · obtain ⟨b1, o1', rfl, d1⟩ := HQ.out i hi2
        have e1 := cell_up d1 (HL.out.2.trans HRU.out)
        obtain ⟨z, hz⟩ : ∃ z, f2 i = z := ⟨_, rfl⟩
        rw [hz] at e1
        have v0 := Int.emod_nonneg z (show 2 * o + 1 ≠ 0 by omega)
        have v1 := Int.emod_lt_of_pos z (show 0 < 2 * o + 1 by omega)
        obtain ⟨v, hv⟩ : ∃ v, z % (2 * o + 1) = v := ⟨_, rfl⟩
        rw [hv] at v0 v1
        have HV : Hid (z % (2 * o + 1) = v) := hv
        have hiz2 : (i : Int) < (n2 : Int) := by omega
        clear d1 hz hv
        go_wp2_with (first
          | (go_at_call 5; (with_reducible refine (t5 z (2 * o + 1) (by omega) _).mono ?_); rintro e wr ⟨rfl, rfl⟩; rw [HV.out])
          | (at_builtin; refine wpList_append_own _ rfl _ _ 22 rfl w1.heap.size 2 i0 (.int .i64 0) 1 8 Try.underlying22 hi hz0 hz1 hz2 rfl (by decide) _ _ _ rfl (HRO.out.alloc _) ⟨wr.heap.size, 0, none⟩ 1 1 [.int .i64 (X + (v - o))] rfl rfl (one_new _ _ _) (one_one _) (by unfold maxLen; omega) (by omega) (by simp; omega) ?_; intro v2 w3 h2 hg2 _; have HO3 : Hid (RM w1 X o (i + 1) v2 w3) := RM.next HRL.out HRO.out HRU.out HRR.out rfl (by omega) h2 hg2; clear h2 hg2))
        obtain ⟨R2, l2, ho2, _⟩ := HO3.out
        obtain ⟨p2, cap2, hv2, _⟩ := own_form ho2
        rw [l2] at hv2
        subst hv2
        go_roundw
        case rel => exact ⟨i + 1, p2, cap2, HLT.out, rfl, by go_num, HO3⟩
        case measure => have := HLT.out; simp [intOf]; omega
      · have hiz2 : (n2 : Int) ≤ (i : Int) := by omega
        go_wp2_with (at_builtin; refine wpList_append_own _ rfl _ _ 22 rfl w1.heap.size 2 i0 (.int .i64 0) 1 8 Try.underlying22 hi hz0 hz1 hz2 rfl (by decide) _ _ _ rfl (HRO.out.alloc _) ⟨wr.heap.size, 0, none⟩ 1 1 [.int .i64 _] rfl rfl (one_new _ _ _) (one_one _) (by unfold maxLen; omega) (by omega) (by simp; omega) ?_; intro v2 w3 h2 hg2 _; have HO3 : Hid (RM w1 X o (i + 1) v2 w3) := RM.next (t := 0) HRL.out HRO.out HRU.out HRR.out (by omega) (by omega) h2 hg2; clear h2 hg2)
        obtain ⟨R2, l2, ho2, _⟩ := HO3.out
        obtain ⟨p2, cap2, hv2, _⟩ := own_form ho2
        rw [l2] at hv2
        subst hv2
        go_roundw
        case rel => exact ⟨i + 1, p2, cap2, HLT.out, rfl, by go_num, HO3⟩
        case measure => have := HLT.out; simp [intOf]; omega
    · obtain rfl : i = k := by omega
      obtain ⟨R, rl, ro, ru, rr⟩ := HR.out
      have HS : Hid (RL w pr pl i R L wr) := RL.mk' ro ru HL.out.1 HL.out.2
      have HSa : Hid (IR wr pr i (fun j => R[j]!)) := HS.out.1
      have HSb : Hid (IR wr pl i (fun j => L[j]!)) := HS.out.2.1
      have HV : Hid (MV (fun j => R[j]!) (fun j => L[j]!) i X o (nears (fun j => R[j]!) (fun j => L[j]!) i o 8192) (nears (fun j => R[j]!) (fun j => L[j]!) i (o + 1) 8192)) := MV.mk' HLin.out x0 x1 o0 rr
      obtain ⟨A, hA⟩ : ∃ A, nears (fun j => R[j]!) (fun j => L[j]!) i o 8192 = A := ⟨_, rfl⟩
      obtain ⟨B, hB⟩ : ∃ B, nears (fun j => R[j]!) (fun j => L[j]!) i (o + 1) 8192 = B := ⟨_, rfl⟩
      rw [hA, hB] at HV
      have lA := HV.out.la
      have HVh : Hid (∃ j, j < A.length ∧ (fun j => A[j]!) j = X) := HV.out.has
      have lB := HV.out.lb
      have lAz : (A.length : Int) ≤ 8192 := by omega
      have lBz : (B.length : Int) ≤ 8192 := by omega
      have HA : Hid (nears (fun j => R[j]!) (fun j => L[j]!) i o 8192 = A) := hA
      have HB : Hid (nears (fun j => R[j]!) (fun j => L[j]!) i (o + 1) 8192 = B) := hB
      clear rl ro ru rr HR hA hB HL H4 HM HQ hik hlt
      go_wp2_with (first
        | (go_at_call 6; (with_reducible refine (near_ok (p := pr) (q := pl) (k := i) (c1 := cr) (c2 := cl) (off := o) (w := wr) hk5 HLin.out HSa.out HSb.out o0 (by omega) HA.out).mono ?_); rintro e w2 ⟨pa, ca, rfl, Q2⟩; have HS2 : Hid (RL w pr pl i R L w2) := HS.out.up Q2.out.2; have HSc : Hid (IR w2 pr i (fun j => R[j]!)) := HS2.out.1; have HSd : Hid (IR w2 pl i (fun j => L[j]!)) := HS2.out.2.1)
        | (go_at_call 6; (with_reducible refine (near_ok (p := pr) (q := pl) (k := i) (c1 := cr) (c2 := cl) (off := o + 1) (w := w2) hk5 HLin.out HSc.out HSd.out (by omega) (by omega) HB.out).mono ?_); rintro e w3 ⟨pb, cb, rfl, Q3⟩; have HA3 : Hid (IR w3 pa A.length (fun j => A[j]!)) := (Q2.out.1.up Q3.out.2).ir.2; have HB3 : Hid (IR w3 pb B.length (fun j => B[j]!)) := Q3.out.1.ir.2)
        | (go_at_call 7; (with_reducible refine (t7 pa A.length ca (fun j => A[j]!) X w3 lA HA3.out HVh.out).mono ?_); rintro e w4 ⟨rfl, HU4⟩))
      have HA4 : Hid (IR w4 pa A.length (fun j => A[j]!)) := HA3.out.up HU4.out
      have HB4 : Hid (IR w4 pb B.length (fun j => B[j]!)) := HB3.out.up HU4.out
      have HS4 : Hid (RL w pr pl i R L w4) := (HS2.out.up Q3.out.2).up HU4.out
      clear HS HS2 HSa HSb HSc HSd HVh Q2 Q3 HA3 HB3 HU4
      go_loopw [17, 18] (fun v17 v18 wz => ∃ kk ii : Nat, ii ≤ A.length ∧ v17 = .int .i64 kk ∧ v18 = .int .i64 ii ∧ Hid (MG A B ii kk ∧ Up w4 wz)) (fun _ v18 _ => A.length - (intOf v18).toNat)
      case atStart => exact ⟨0, 0, by omega, rfl, rfl, MG.start _ _, Up.refl _⟩
      case round =>
        obtain ⟨kk, ii, hii, rfl, rfl, HG⟩ := hrel
        by_cases hil : ii < A.length
        · have hiz : (ii : Int) < (A.length : Int) := by omega
          have hiz0 : (0 : Int) ≤ (ii : Int) := by omega
          have HIL : Hid (ii < A.length) := hil
          go_wp2
          go_loopw [17] (fun v17 wz => ∃ k2 : Nat, v17 = .int .i64 k2 ∧ Hid (MG A B ii k2 ∧ Up w4 wz)) (fun v17 _ => B.length - (intOf v17).toNat)
          case atStart => exact ⟨kk, rfl, HG⟩
          case round =>
            clear HG
            obtain ⟨k2, rfl, HK⟩ := hrel
            obtain ⟨hk2, _, hfe⟩ := HK.out.1.found HV.out.sb HV.out.sub HIL.out
            obtain ⟨b1, q1, rfl, d1⟩ := HA4.out ii HIL.out
            obtain ⟨b2, q2, rfl, d2⟩ := HB4.out k2 hk2
            have e1 := cell_up d1 HK.out.2
            have e2 := cell_up d2 HK.out.2
            have hkz2 : (k2 : Int) < (B.length : Int) := by omega
            have hkz0 : (0 : Int) ≤ (k2 : Int) := by omega
            have hkne : ¬ (k2 : Int) = (B.length : Int) := by omega
            have HK2 : Hid (k2 < B.length) := hk2
            have hkb : ((k2 : Int) == (B.length : Int)) = false := beq_eq_false_iff_ne.mpr (by omega)
            by_cases hst : B[k2]! < A[ii]!
            · have HN : Hid (MG A B ii (k2 + 1)) := HK.out.1.step HV.out.sa hk2 hst
              clear d1 d2 hfe
              simp only at e1 e2
              generalize A[ii]! = za at *
              generalize B[k2]! = zb at *
              go_wp2_with fail
              go_quiet (fail)
              all_goals (try go_wp2)
              go_roundw
              case rel => exact ⟨k2 + 1, by go_num, HN.out, HK.out.2.trans (Up.drewN _ _)⟩
              case measure => have := HK2.out; simp [intOf]; omega
            · have hze := hfe hst
              have HN : Hid (MG A B (ii + 1) k2) := HK.out.1.next
              clear hfe hst
              simp only at e1 e2
              by_cases hi0 : ii = 0
              · have hind : decide ((0 : Int) < (ii : Int)) = false := decide_eq_false (by omega)
                have hinp : decide (0 < ii) = false := decide_eq_false (by omega)
                rw [hze] at e2
                clear d1 d2 hze hi0
                generalize A[ii]! = za at *
                go_wp2_with fail
                go_quiet (fail)
                all_goals (try go_wp2_with fail)
                go_quiet (fail)
                all_goals (try go_wp2)
                go_roundw
                case rel => exact ⟨k2, ii + 1, HIL.out, rfl, by go_num, HN.out, by first | exact HK.out.2.trans (Up.drewN _ _) | exact HK.out.2 | exact HK.out.2.trans (Up.drew _) | exact (HK.out.2.trans (Up.drewN _ _)).trans (Up.drew _)⟩
                case measure => have := HIL.out; simp [intOf]; omega
              · obtain ⟨u, hu⟩ : ∃ u : Nat, (ii : Int) - 1 = u := ⟨ii - 1, by omega⟩
                have hul : u < A.length := by omega
                have hlt3 := sorted_lt HV.out.sa (show u < ii by omega) HIL.out
                obtain ⟨b3, q3, he3, d3⟩ := HA4.out u hul
                simp only [Option.some.injEq, Addr.mk.injEq] at he3
                obtain ⟨rfl, rfl, _⟩ := he3
                have e3 := cell_up d3 HK.out.2
                have huz : (u : Int) < (A.length : Int) := by omega
                have huz0 : (0 : Int) ≤ (u : Int) := by omega
                have hwu : IntKind.i64.wrap (u : Int) = (u : Int) := IntWalk.i64_in _ (by omega)
                clear hi0
                have hipn : 0 < ii := by omega
                simp only at e3
                rw [hze] at e2
                clear d1 d2 d3 hze
                generalize A[ii]! = za at *
                generalize A[u]! = zu at *
                go_wp2_with fail
                go_quiet (fail)
                all_goals (try go_wp2_with fail)
                go_quiet (fail)
                all_goals (try go_wp2)
                go_roundw
                case rel => exact ⟨k2, ii + 1, HIL.out, rfl, by go_num, HN.out, by first | exact HK.out.2.trans (Up.drewN _ _) | exact HK.out.2 | exact HK.out.2.trans (Up.drew _) | exact (HK.out.2.trans (Up.drewN _ _)).trans (Up.drew _)⟩
                case measure => have := HIL.out; simp [intOf]; omega
        · obtain rfl : ii = A.length := by omega
          have HS5 : Hid (RL w pr pl i R L wr) := HS4.out.up HG.out.2
          have HSa : Hid (IR wr pr i (fun j => R[j]!)) := HS5.out.1
          have HSb : Hid (IR wr pl i (fun j => L[j]!)) := HS5.out.2.1
          clear HS4 HG HA4 HB4
          go_wp2_with (go_at_call 8; (with_reducible refine (best_ok (p := pr) (q := pl) (k := i) (c1 := cr) (c2 := cl) (w := wr) hk5 HLin.out HSa.out HSb.out HV.out).mono ?_); rintro e w5 ⟨y, le, rfl, hl0, hl1, HU5, HF⟩; have HS6 : Hid (RL w pr pl i R L w5) := HS5.out.up HU5.out; have HSc : Hid (IR w5 pr i (fun j => R[j]!)) := HS6.out.1; have HSd : Hid (IR w5 pl i (fun j => L[j]!)) := HS6.out.2.1; have HF1 : Hid (∃ t, nears (fun j => R[j]!) (fun j => L[j]!) i le 8192 = y :: t) := HF.out.1; have HF2 : Hid (nears (fun j => R[j]!) (fun j => L[j]!) i (le - 1) 8192 = []) := HF.out.2)
          have hlz : le ≤ 39 := by omega
          by_cases hle : 0 < le
          · go_wp2_with (first
              | (go_at_call 6; (with_reducible refine (near_first_ok (p := pr) (q := pl) (k := i) (c1 := cr) (c2 := cl) (off := le) (w := w5) hk5 HLin.out HSc.out HSd.out hl0 (by omega) HF1.out).mono ?_); rintro e w6 ⟨g6, c6, n6, rfl, hn0, hn1, ce6, HU6⟩; have HS7 : Hid (RL w pr pl i R L w6) := HS6.out.up HU6.out; have HSe : Hid (IR w6 pr i (fun j => R[j]!)) := HS7.out.1; have HSf : Hid (IR w6 pl i (fun j => L[j]!)) := HS7.out.2.1)
              | (go_at_call 6; (with_reducible refine (near_none_ok (p := pr) (q := pl) (k := i) (c1 := cr) (c2 := cl) (off := le - 1) (w := w6) hk5 HLin.out HSe.out HSf.out (by omega) (by omega) HF2.out).mono ?_); rintro e w7 ⟨p7, c7, rfl, HU7⟩)
              | (go_at_call 9; (with_reducible refine (t9 w7).mono ?_); rintro e w8 ⟨rfl, HU8⟩))
            go_ret
            exact ⟨rfl, (HS7.out.2.2.trans HU7.out).trans HU8.out⟩
          · have hle0 : le ≤ 0 := by omega
            go_wp2_with (first
              | (go_at_call 6; (with_reducible refine (near_first_ok (p := pr) (q := pl) (k := i) (c1 := cr) (c2 := cl) (off := le) (w := w5) hk5 HLin.out HSc.out HSd.out hl0 (by omega) HF1.out).mono ?_); rintro e w6 ⟨g6, c6, n6, rfl, hn0, hn1, ce6, HU6⟩; have HS7 : Hid (RL w pr pl i R L w6) := HS6.out.up HU6.out)
              | (go_at_call 9; (with_reducible refine (t9 w6).mono ?_); rintro e w8 ⟨rfl, HU8⟩))
            go_ret
            exact ⟨rfl, HS7.out.2.2.trans HU8.out⟩
end Go.Proofs.Ytpahjenfkgcdlab
