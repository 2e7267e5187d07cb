/- SmoothLines. -/
import Derived.Test.YtcgbmcnefolgcaaEc
import Derived.Test.YtcgbmcnefolgcaaEd
namespace Go.Proofs.Ytcgbmcnefolgcaa
open Go.ChangeShapes Go.WideShapes Go.ChangeAt Go.RowKit Go.Fl Go.Sort
attribute [local go_sem] run_store_float call22 call54 run_neg fold_eq fold_ne fold_lt fold_gt abs_eq

set_option maxHeartbeats 4000000 in
set_option maxRecDepth 20000 in
theorem t4 {w : World} {p p2 : Option Addr} {n cap m cap2 : Nat} {d d2 : Array Nat} (z : Nat) (h : SV w p n cap d) (h2 : SV w p2 m cap2 d2) : Calls Try.prog 4 #[.slice p n cap, .slice p2 m cap2, .float .f64 z] w (TU w) := by
  by_cases k1 : 1048576 < n
  · have z1 : (1048576 : Int) < (n : Int) := by omega
    clear h h2
    go_enter Try.func4, Try.ntmps4
    go_wp2_with (go_at_call 9; (with_reducible refine (t9 _).mono ?_); rintro e w1 ⟨rfl, U1⟩)
    go_ret
    exact ⟨rfl, U1⟩
  have z1 : ¬ (1048576 : Int) < (n : Int) := by omega
  by_cases k2 : 1048576 < m
  · have z2 : (1048576 : Int) < (m : Int) := by omega
    clear h h2
    go_enter Try.func4, Try.ntmps4
    go_wp2_with (go_at_call 9; (with_reducible refine (t9 _).mono ?_); rintro e w1 ⟨rfl, U1⟩)
    go_ret
    exact ⟨rfl, U1⟩
  have z2 : ¬ (1048576 : Int) < (m : Int) := by omega
  have HS : Hid (SV w p n cap d ∧ SV w p2 m cap2 d2) := ⟨h, h2⟩
  have HL : Hid (d.size = n ∧ d2.size = m) := ⟨h.len, h2.len⟩
  have HN : Hid (n ≤ 1048576 ∧ m ≤ 1048576) := ⟨by omega, by omega⟩
  have HTL : Hid ((turD d d2 (ab z)).length ≤ 1000000) := by
    show _ ≤ _
    unfold turD
    split
    · have := turnN_len d d2 (ab z) (d.size - 2)
      rename_i hq
      unfold turE at hq
      split at hq
      · rename_i he
        have := lenE0 he
        omega
      · rename_i he
        exact absurd hq he
    · simp
  clear h h2
  go_enter Try.func4, Try.ntmps4
  go_wp2_with (first
    | (go_at_call 10; (with_reducible refine (t10 HS.out.1 HN.out.1).mono ?_); rintro e w1 ⟨gu, cu, rfl, OU, U1⟩)
    | (go_at_call 10; (with_reducible refine (t10 (HS.out.2.up U1.out) HN.out.2).mono ?_); rintro e w2 ⟨gy, cy, rfl, OY, U2⟩; (have OU2 : Hid (OW w.heap.size w2 gu n cu d) := OU.out.up U2.out); (have W2 : Hid (Up w w2) := U1.out.trans U2.out); clear OU U1 U2)
    | (go_at_call 15; (with_reducible refine (t15 (OU2.out.sv HL.out.1 HS.out.1.fit).1 (OY.out.sv HL.out.2 HS.out.2.fit).1).mono ?_); rintro e w3 ⟨a3, s3, rfl, H3, U3⟩; (have W3 : Hid (Up w w3) := W2.out.trans U3.out))
    | (go_at_call 16; (with_reducible refine (t16 (HS.out.1.up W3.out) (HS.out.2.up W3.out)).mono ?_); rintro e w4 ⟨a4, s4, rfl, H4, U4⟩; (have W4 : Hid (Up w2 w4) := U3.out.trans U4.out); (have ea : (ab a3 == ab a4) = true := (by rw [H3.out.1, H4.out.1]; exact beq_self_eq_true _)); (have es : (ab s3 == ab s4) = true := (by rw [H3.out.2, H4.out.2]; exact beq_self_eq_true _)); clear U3 U4 W3 H3 H4)
    | (go_at_call 17; (with_reducible refine (t17 a3 a4 _).mono ?_); rintro e w' ⟨rfl, hw⟩; subst w'; rw [ea])
    | (go_at_call 17; (with_reducible refine (t17 s3 s4 _).mono ?_); rintro e w' ⟨rfl, hw⟩; subst w'; rw [es])
    | (go_at_call 18; (with_reducible refine (t18 z ((OU2.out.up W4.out).sv HL.out.1 HS.out.1.fit).1 ((OY.out.up W4.out).sv HL.out.2 HS.out.2.fit).1).mono ?_); rintro e w5 ⟨p5, c5, rfl, I5, U5⟩; (have W5 : Hid (Up w w5) := W2.out.trans (W4.out.trans U5.out)))
    | (go_at_call 19; (with_reducible refine (t19 z (HS.out.1.up W5.out) (HS.out.2.up W5.out)).mono ?_); rintro e w6 ⟨p6, c6, rfl, I6, U6⟩; (have W6 : Hid (Up w2 w6) := W4.out.trans (U5.out.trans U6.out)); (have I5' : Hid (IV w6 p5 (turD d d2 (ab z)).length (turD d d2 (ab z))) := (OR.iv I5.out).up U6.out))
    | (go_at_call 20; (with_reducible refine (t20 I5'.out (OR.iv I6.out) HTL.out).mono ?_); rintro e w7 ⟨rfl, m7, hw7⟩; (have W7 : Hid (Up w2 w7) := hw7 ▸ W6.out.dr _); clear hw7)
    | (go_at_call 14; (with_reducible refine (t14 (HS.out.1.up (W2.out.trans W7.out)) (OU2.out.up W7.out) HN.out.1).mono ?_); rintro e w8 ⟨rfl, U8⟩; (have W8 : Hid (Up w2 w8) := W7.out.trans U8.out))
    | (go_at_call 14; (with_reducible refine (t14 (HS.out.2.up (W2.out.trans W8.out)) (OY.out.up W8.out) HN.out.2).mono ?_); rintro e w9 ⟨rfl, U9⟩; (have W9 : Hid (Up w2 w9) := W8.out.trans U9.out))
    | (go_at_call 9; (with_reducible refine (t9 _).mono ?_); rintro e w10 ⟨rfl, U10⟩))
  go_ret
  exact ⟨rfl, W2.out.trans (W9.out.trans U10.out)⟩
end Go.Proofs.Ytcgbmcnefolgcaa
