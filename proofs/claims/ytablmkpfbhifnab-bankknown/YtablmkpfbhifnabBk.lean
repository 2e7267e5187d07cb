/- The walk of BankKnown. -/
import Derived.Test.YtablmkpfbhifnabBj
namespace Go.Proofs.Ytablmkpfbhifnab
open Go.ChangeShapes Go.WideShapes Go.ChangeAt Go.RowKit Go.Fl Ieee
attribute [local go_sem] run_store_float run_store_complex call49 call47 run_neg fold_eq fold_ne fold_lt fold_gt abs_eq

set_option maxRecDepth 100000 in
set_option maxHeartbeats 8000000 in
theorem t3 (w : World) : Calls Try.prog 3 #[] w (TU w) := by
  have q1 : eqF (ab 4617315517961601024) (ab 4617315517961601024) = true := by decide +kernel
  have q2 : eqF (ab 0) (ab 0) = true := by decide +kernel
  have q3 : eqF (ab 13830554455654793216) (ab 13830554455654793216) = true := by decide +kernel
  go_enter Try.func3, Try.ntmps3
  go_wp2_with (first
    | (go_at_call 4; (with_reducible refine (c1 _).mono ?_); rintro e w1 ⟨rfl, u1⟩)
    | (go_at_call 5; (with_reducible refine (c2 _).mono ?_); rintro e w2 ⟨rfl, u2⟩)
    | (go_at_call 5; (with_reducible refine (c3 _).mono ?_); rintro e w3 ⟨A3, B3, d3, rfl, t3, r3⟩)
    | (go_at_call 6; (with_reducible refine (c4 _).mono ?_); rintro e w4 ⟨rfl, u4⟩)
    | (go_at_call 6; (with_reducible refine (c5 _).mono ?_); rintro e w5 ⟨A5, rfl, u5⟩)
    | (go_at_call 4; (with_reducible refine (c6 _).mono ?_); rintro e w6 ⟨A6, B6, rfl, t6, r6, u6⟩
       have a0 : w6.cell? ⟨A6, 0, none⟩ = some (.slice (some ⟨B6, 0, none⟩) 1 1) := t6.out 0 (by omega)
       have a1 : w6.cell? ⟨A6, 1, none⟩ = some (.slice (some ⟨B6, 1, none⟩) 1 1) := t6.out 1 (by omega)
       have b0 : w6.cell? ⟨B6, 0, none⟩ = some (.complex .f64 4617315517961601024 0) := r6.out 0 (by omega)
       have b1 : w6.cell? ⟨B6, 1, none⟩ = some (.complex .f64 13830554455654793216 0) := r6.out 1 (by omega)
       have U6 : Hid (Up w w6) := u1.out.trans (u2.out.trans (t3.out.up.trans (u4.out.trans (u5.out.trans u6.out))))
       clear t6 r6 u1 u2 t3 r3 u4 u5 u6)
    )
  go_wp2_with ((with_reducible refine upon_makeSz 257 rfl (by omega) ?_); intro R w7 HM)
  have HS : Hid (LR w6 w7 R 257 2 0 (List.replicate 257 (.slice none 0 0))) := LR.start HM.out
  clear HM a0 a1 b0 b1
  go_loopw [15] (fun vi wr => ∃ (k : Nat) (l : List Value), k ≤ 257 ∧ vi = .int .i64 k ∧ Hid (LR w6 wr R 257 2 k l)) (fun vi _ => 257 - (intOf vi).toNat)
  case atStart => exact ⟨0, _, by omega, rfl, HS⟩
  case round =>
    clear HS
    obtain ⟨k, l, hk, rfl, HS⟩ := hrel
    by_cases hlt : k < 257
    · have y1 : (k : Int) < (257 : Int) := by omega
      have y2 : (0 : Int) ≤ (k : Int) := by omega
      go_wp2_with ((with_reducible refine upon_makeCz 2 rfl (by omega) ?_); intro g w8 HN
                   obtain ⟨v, c2, c3⟩ := HS.out.cell HN.out.2.2 hlt
                   have HS8 : Hid (LR w6 (w8.setCell ⟨R, k, none⟩ (.slice (some ⟨g, 0, none⟩) 2 2)) R 257 2 (k + 1) (l.set k (.slice (some ⟨g, 0, none⟩) 2 2))) := HS.out.put hlt HN.out
                   clear HN HS)
      go_roundw
      case rel => exact ⟨k + 1, _, by omega, by go_num, HS8⟩
      case measure => simp [intOf]; omega
    · obtain rfl : k = 257 := by omega
      have HR : Hid (RW wr R 257 2) := HS.out.done'
      have U7 : Hid (Up w wr) := U6.out.trans HS.out.up
      clear HS U6
      go_wp2_with (first
        | (go_at_call 6; (with_reducible refine (c9 HR).mono ?_); rintro e w9 ⟨rfl, u9⟩
           have HR9 : Hid (RW w9 R 257 2) := HR.out.up u9.out)
        | (go_at_call 6; (with_reducible refine (c10 HR9).mono ?_); rintro e w10 ⟨A10, rfl, u10⟩)
        | ((with_reducible refine upon_makeSz 17 rfl (by omega) ?_); intro R2 w11 HM))
      have HR10 : Hid (RW w10 R 257 2) := HR9.out.up u10.out
      have U10 : Hid (Up w w10) := U7.out.trans (u9.out.trans u10.out)
      have HS : Hid (LR w10 w11 R2 17 16384 0 (List.replicate 17 (.slice none 0 0))) := LR.start HM.out
      clear HM HR HR9 U7 u9 u10
      go_loopw [21] (fun vi wr => ∃ (k : Nat) (l : List Value), k ≤ 17 ∧ vi = .int .i64 k ∧ Hid (LR w10 wr R2 17 16384 k l)) (fun vi _ => 17 - (intOf vi).toNat)
      case atStart => exact ⟨0, _, by omega, rfl, HS⟩
      case round =>
        clear HS
        obtain ⟨k, l, hk, rfl, HS⟩ := hrel
        by_cases hlt : k < 17
        · have y1 : (k : Int) < (17 : Int) := by omega
          have y2 : (0 : Int) ≤ (k : Int) := by omega
          go_wp2_with ((with_reducible refine upon_makeCz 16384 rfl (by omega) ?_); intro g w12 HN
                       obtain ⟨v, c2, c3⟩ := HS.out.cell HN.out.2.2 hlt
                       have HS8 : Hid (LR w10 (w12.setCell ⟨R2, k, none⟩ (.slice (some ⟨g, 0, none⟩) 16384 16384)) R2 17 16384 (k + 1) (l.set k (.slice (some ⟨g, 0, none⟩) 16384 16384))) := HS.out.put hlt HN.out
                       clear HN HS)
          go_roundw
          case rel => exact ⟨k + 1, _, by omega, by go_num, HS8⟩
          case measure => simp [intOf]; omega
        · obtain rfl : k = 17 := by omega
          have HW : Hid (RW wr R2 17 16384) := HS.out.done'
          have HR : Hid (RW wr R 257 2) := HR10.out.up HS.out.up
          have U12 : Hid (Up w wr) := U10.out.trans HS.out.up
          clear HS U10 HR10
          go_wp2_with (go_at_call 6; (with_reducible refine (c12 HW).mono ?_); rintro e w13 ⟨rfl, u13⟩)
          have HW13 : Hid (RW w13 R2 17 16384) := HW.out.up u13.out
          have HR13 : Hid (RW w13 R 257 2) := HR.out.up u13.out
          have U13 : Hid (Up w w13) := U12.out.trans u13.out
          clear HW HR U12 u13
          go_region_held3 (fun _ => True) (exact True.intro) (first
            | ((with_reducible refine upon_makeCz 65 rfl (by omega) ?_); intro g14 w14 HN)
            | (go_at_call 5; (with_reducible refine (c13 (HW13.out.up ((up_drew _).trans HN.out.up))).mono ?_); rintro e w15 ⟨rfl, u15⟩))
          have U15 : Hid (Up w13 w15) := ((up_drew _).trans HN.out.up).trans u15.out
          clear HN u15
          go_wp2_with (first
            | ((with_reducible refine upon_makeCz 16385 rfl (by omega) ?_); intro g16 w16 HN)
            | (go_at_call 6; (with_reducible refine c14.mono ?_); rintro e w17 ⟨rfl, u17⟩))
          have U17 : Hid (Up w13 w17) := (U15.out.trans HN.out.up).trans u17.out
          have HR17 : Hid (RW w17 R 257 2) := HR13.out.up U17.out
          have UU : Hid (Up w w17) := U13.out.trans U17.out
          clear HN u17 U15 U17 HR13 U13 HW13
          go_region_held3 (fun _ => True) (exact True.intro) (first
            | ((with_reducible refine upon_makeFz 256 rfl (by omega) ?_); intro g18 w18 HN)
            | (go_at_call 4; (with_reducible refine (c15 (HR17.out.up (up_drew _)) HN.out).mono ?_); rintro e w19 ⟨A19, rfl, u19⟩))
          have U19 : Hid (Up w w19) := ((UU.out.trans (up_drew _)).trans HN.out.up).trans u19.out
          clear HN u19 UU HR17
          go_wp2_with (go_at_call 7; (with_reducible refine (t7 _).mono ?_); rintro e w20 ⟨rfl, u20⟩)
          go_ret
          exact ⟨rfl, U19.out.trans u20.out⟩
end Go.Proofs.Ytablmkpfbhifnab
