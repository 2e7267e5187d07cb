/- SmoothStraight: the walk where a number is out of its bounds. -/
import Derived.Test.YtcgbmcnefolgcaaJi
import Derived.Test.YtcgbmcnefolgcaaDb
namespace Go.Proofs.Ytcgbmcnefolgcaa
open Go.ChangeShapes Go.WideShapes Go.ChangeAt Go.RowKit Go.Fl Go.Sort
attribute [local go_sem] run_store_float call22 run_neg fold_eq fold_ne fold_lt fold_gt abs_eq

theorem t21t {z : Int} (h : -1024 < z ∧ z < 1024) (w : World) : Calls Try.prog 21 #[.int .i64 z] w fun e w' => e = .returned (.bool true) ∧ w' = w :=
  (t21 z w).mono fun e w' ⟨h3, k⟩ => ⟨by rw [h3, decide_eq_true h.1, decide_eq_true h.2]; rfl, k⟩
theorem t21f {z : Int} (h : ¬ (-1024 < z ∧ z < 1024)) (w : World) : Calls Try.prog 21 #[.int .i64 z] w fun e w' => e = .returned (.bool false) ∧ w' = w :=
  (t21 z w).mono fun e w' ⟨h1, k⟩ => ⟨by
    have : (decide (-1024 < z) && decide (z < 1024)) = false := by
      rw [Bool.and_eq_false_iff, decide_eq_false_iff_not, decide_eq_false_iff_not]; omega
    rw [h1, this], k⟩
set_option maxHeartbeats 2000000 in
set_option maxRecDepth 20000 in
theorem t5a {w : World} {a b c h n : Int} (ha : ¬ (-1024 < a ∧ a < 1024)) : Calls Try.prog 5 #[.int .i64 a, .int .i64 b, .int .i64 c, .int .i64 h, .int .i64 n] w (TU w) := by
  have Ha : Hid (¬ (-1024 < a ∧ a < 1024)) := ha
  clear ha
  go_enter Try.func5, Try.ntmps5
  go_upto_region 2 with (first
    | (go_at_call 9; (with_reducible refine (t9 _).mono ?_); rintro e w1 ⟨rfl, U1⟩)
    | (go_at_call 21; (with_reducible refine (t21f Ha.out _).mono ?_); rintro e w2 ⟨rfl, hw⟩; subst w2))
  go_wp2_with (go_at_call 9; (with_reducible refine (t9 _).mono ?_); rintro e w3 ⟨rfl, U2⟩)
  go_ret
  exact ⟨rfl, U1.out.trans U2.out⟩
set_option maxHeartbeats 2000000 in
set_option maxRecDepth 20000 in
theorem t5b {w : World} {a b c h n : Int} (ha : -1024 < a ∧ a < 1024) (hb : ¬ (-1024 < b ∧ b < 1024)) : Calls Try.prog 5 #[.int .i64 a, .int .i64 b, .int .i64 c, .int .i64 h, .int .i64 n] w (TU w) := by
  have Ha : Hid (-1024 < a ∧ a < 1024) := ha
  clear ha
  have Hb : Hid (¬ (-1024 < b ∧ b < 1024)) := hb
  clear hb
  go_enter Try.func5, Try.ntmps5
  go_upto_region 2 with (first
    | (go_at_call 9; (with_reducible refine (t9 _).mono ?_); rintro e w1 ⟨rfl, U1⟩)
    | (go_at_call 21; (with_reducible refine (t21t Ha.out _).mono ?_); rintro e w2 ⟨rfl, hw⟩; subst w2)
    | (go_at_call 21; (with_reducible refine (t21f Hb.out _).mono ?_); rintro e w2 ⟨rfl, hw⟩; subst w2))
  go_wp2_with (go_at_call 9; (with_reducible refine (t9 _).mono ?_); rintro e w3 ⟨rfl, U2⟩)
  go_ret
  exact ⟨rfl, U1.out.trans U2.out⟩
set_option maxHeartbeats 2000000 in
set_option maxRecDepth 20000 in
theorem t5c {w : World} {a b c h n : Int} (ha : -1024 < a ∧ a < 1024) (hb : -1024 < b ∧ b < 1024) (hc : ¬ (-1024 < c ∧ c < 1024)) : Calls Try.prog 5 #[.int .i64 a, .int .i64 b, .int .i64 c, .int .i64 h, .int .i64 n] w (TU w) := by
  have Ha : Hid (-1024 < a ∧ a < 1024) := ha
  clear ha
  have Hb : Hid (-1024 < b ∧ b < 1024) := hb
  clear hb
  have Hc : Hid (¬ (-1024 < c ∧ c < 1024)) := hc
  clear hc
  go_enter Try.func5, Try.ntmps5
  go_upto_region 2 with (first
    | (go_at_call 9; (with_reducible refine (t9 _).mono ?_); rintro e w1 ⟨rfl, U1⟩)
    | (go_at_call 21; (with_reducible refine (t21t Ha.out _).mono ?_); rintro e w2 ⟨rfl, hw⟩; subst w2)
    | (go_at_call 21; (with_reducible refine (t21t Hb.out _).mono ?_); rintro e w2 ⟨rfl, hw⟩; subst w2)
    | (go_at_call 21; (with_reducible refine (t21f Hc.out _).mono ?_); rintro e w2 ⟨rfl, hw⟩; subst w2))
  go_wp2_with (go_at_call 9; (with_reducible refine (t9 _).mono ?_); rintro e w3 ⟨rfl, U2⟩)
  go_ret
  exact ⟨rfl, U1.out.trans U2.out⟩
set_option maxHeartbeats 2000000 in
set_option maxRecDepth 20000 in
theorem t5d {w : World} {a b c h n : Int} (ha : -1024 < a ∧ a < 1024) (hb : -1024 < b ∧ b < 1024) (hc : -1024 < c ∧ c < 1024) (hh : ¬ (-1024 < h ∧ h < 1024)) : Calls Try.prog 5 #[.int .i64 a, .int .i64 b, .int .i64 c, .int .i64 h, .int .i64 n] w (TU w) := by
  have Ha : Hid (-1024 < a ∧ a < 1024) := ha
  clear ha
  have Hb : Hid (-1024 < b ∧ b < 1024) := hb
  clear hb
  have Hc : Hid (-1024 < c ∧ c < 1024) := hc
  clear hc
  have Hh : Hid (¬ (-1024 < h ∧ h < 1024)) := hh
  clear hh
  go_enter Try.func5, Try.ntmps5
  go_upto_region 2 with (first
    | (go_at_call 9; (with_reducible refine (t9 _).mono ?_); rintro e w1 ⟨rfl, U1⟩)
    | (go_at_call 21; (with_reducible refine (t21t Ha.out _).mono ?_); rintro e w2 ⟨rfl, hw⟩; subst w2)
    | (go_at_call 21; (with_reducible refine (t21t Hb.out _).mono ?_); rintro e w2 ⟨rfl, hw⟩; subst w2)
    | (go_at_call 21; (with_reducible refine (t21t Hc.out _).mono ?_); rintro e w2 ⟨rfl, hw⟩; subst w2)
    | (go_at_call 21; (with_reducible refine (t21f Hh.out _).mono ?_); rintro e w2 ⟨rfl, hw⟩; subst w2))
  go_wp2_with (go_at_call 9; (with_reducible refine (t9 _).mono ?_); rintro e w3 ⟨rfl, U2⟩)
  go_ret
  exact ⟨rfl, U1.out.trans U2.out⟩
set_option maxHeartbeats 2000000 in
set_option maxRecDepth 20000 in
theorem t5e {w : World} {a b c n : Int} (ha : -1024 < a ∧ a < 1024) (hb : -1024 < b ∧ b < 1024) (hc : -1024 < c ∧ c < 1024) : Calls Try.prog 5 #[.int .i64 a, .int .i64 b, .int .i64 c, .int .i64 0, .int .i64 n] w (TU w) := by
  have Ha : Hid (-1024 < a ∧ a < 1024) := ha
  clear ha
  have Hb : Hid (-1024 < b ∧ b < 1024) := hb
  clear hb
  have Hc : Hid (-1024 < c ∧ c < 1024) := hc
  clear hc
  go_enter Try.func5, Try.ntmps5
  go_upto_region 2 with (first
    | (go_at_call 9; (with_reducible refine (t9 _).mono ?_); rintro e w1 ⟨rfl, U1⟩)
    | (go_at_call 21; (with_reducible refine (t21t Ha.out _).mono ?_); rintro e w2 ⟨rfl, hw⟩; subst w2)
    | (go_at_call 21; (with_reducible refine (t21t Hb.out _).mono ?_); rintro e w2 ⟨rfl, hw⟩; subst w2)
    | (go_at_call 21; (with_reducible refine (t21t Hc.out _).mono ?_); rintro e w2 ⟨rfl, hw⟩; subst w2)
    | (go_at_call 21; (with_reducible refine (t21t (z := 0) ⟨by omega, by omega⟩ _).mono ?_); rintro e w2 ⟨rfl, hw⟩; subst w2))
  go_wp2_with (go_at_call 9; (with_reducible refine (t9 _).mono ?_); rintro e w3 ⟨rfl, U2⟩)
  go_ret
  exact ⟨rfl, U1.out.trans U2.out⟩
set_option maxHeartbeats 2000000 in
set_option maxRecDepth 20000 in
theorem t5f {w : World} {a b c h n : Int} (ha : -1024 < a ∧ a < 1024) (hb : -1024 < b ∧ b < 1024) (hc : -1024 < c ∧ c < 1024) (hh : -1024 < h ∧ h < 1024) (z0 : h ≠ 0) (z1 : n < 3) : Calls Try.prog 5 #[.int .i64 a, .int .i64 b, .int .i64 c, .int .i64 h, .int .i64 n] w (TU w) := by
  have Ha : Hid (-1024 < a ∧ a < 1024) := ha
  clear ha
  have Hb : Hid (-1024 < b ∧ b < 1024) := hb
  clear hb
  have Hc : Hid (-1024 < c ∧ c < 1024) := hc
  clear hc
  have Hh : Hid (-1024 < h ∧ h < 1024) := hh
  clear hh
  have z0 : (h == 0) = false := beq_false_of_ne z0
  go_enter Try.func5, Try.ntmps5
  go_upto_region 2 with (first
    | (go_at_call 9; (with_reducible refine (t9 _).mono ?_); rintro e w1 ⟨rfl, U1⟩)
    | (go_at_call 21; (with_reducible refine (t21t Ha.out _).mono ?_); rintro e w2 ⟨rfl, hw⟩; subst w2)
    | (go_at_call 21; (with_reducible refine (t21t Hb.out _).mono ?_); rintro e w2 ⟨rfl, hw⟩; subst w2)
    | (go_at_call 21; (with_reducible refine (t21t Hc.out _).mono ?_); rintro e w2 ⟨rfl, hw⟩; subst w2)
    | (go_at_call 21; (with_reducible refine (t21t Hh.out _).mono ?_); rintro e w2 ⟨rfl, hw⟩; subst w2))
  go_wp2_with (go_at_call 9; (with_reducible refine (t9 _).mono ?_); rintro e w3 ⟨rfl, U2⟩)
  go_ret
  exact ⟨rfl, U1.out.trans U2.out⟩
set_option maxHeartbeats 2000000 in
set_option maxRecDepth 20000 in
theorem t5g {w : World} {a b c h n : Int} (ha : -1024 < a ∧ a < 1024) (hb : -1024 < b ∧ b < 1024) (hc : -1024 < c ∧ c < 1024) (hh : -1024 < h ∧ h < 1024) (z0 : h ≠ 0) (z1 : ¬ n < 3) (z2 : 99 < n) : Calls Try.prog 5 #[.int .i64 a, .int .i64 b, .int .i64 c, .int .i64 h, .int .i64 n] w (TU w) := by
  have Ha : Hid (-1024 < a ∧ a < 1024) := ha
  clear ha
  have Hb : Hid (-1024 < b ∧ b < 1024) := hb
  clear hb
  have Hc : Hid (-1024 < c ∧ c < 1024) := hc
  clear hc
  have Hh : Hid (-1024 < h ∧ h < 1024) := hh
  clear hh
  have z0 : (h == 0) = false := beq_false_of_ne z0
  go_enter Try.func5, Try.ntmps5
  go_upto_region 2 with (first
    | (go_at_call 9; (with_reducible refine (t9 _).mono ?_); rintro e w1 ⟨rfl, U1⟩)
    | (go_at_call 21; (with_reducible refine (t21t Ha.out _).mono ?_); rintro e w2 ⟨rfl, hw⟩; subst w2)
    | (go_at_call 21; (with_reducible refine (t21t Hb.out _).mono ?_); rintro e w2 ⟨rfl, hw⟩; subst w2)
    | (go_at_call 21; (with_reducible refine (t21t Hc.out _).mono ?_); rintro e w2 ⟨rfl, hw⟩; subst w2)
    | (go_at_call 21; (with_reducible refine (t21t Hh.out _).mono ?_); rintro e w2 ⟨rfl, hw⟩; subst w2))
  go_wp2_with (go_at_call 9; (with_reducible refine (t9 _).mono ?_); rintro e w3 ⟨rfl, U2⟩)
  go_ret
  exact ⟨rfl, U1.out.trans U2.out⟩
set_option maxHeartbeats 2000000 in
set_option maxRecDepth 20000 in
theorem t5i {w : World} {a b c h n : Int} (ha : -1024 < a ∧ a < 1024) (hb : -1024 < b ∧ b < 1024) (hc : -1024 < c ∧ c < 1024) (hh : -1024 < h ∧ h < 1024) (z0 : h ≠ 0) (z1 : ¬ n < 3) (z2 : ¬ 99 < n) (z3 : n % 2 = 0) : Calls Try.prog 5 #[.int .i64 a, .int .i64 b, .int .i64 c, .int .i64 h, .int .i64 n] w (TU w) := by
  have Ha : Hid (-1024 < a ∧ a < 1024) := ha
  clear ha
  have Hb : Hid (-1024 < b ∧ b < 1024) := hb
  clear hb
  have Hc : Hid (-1024 < c ∧ c < 1024) := hc
  clear hc
  have Hh : Hid (-1024 < h ∧ h < 1024) := hh
  clear hh
  have z0 : (h == 0) = false := beq_false_of_ne z0
  have z4 : n.tmod 2 = 0 := by rw [Int.tmod_eq_emod_of_nonneg (by omega)]; exact z3
  go_enter Try.func5, Try.ntmps5
  go_upto_region 2 with (first
    | (go_at_call 9; (with_reducible refine (t9 _).mono ?_); rintro e w1 ⟨rfl, U1⟩)
    | (go_at_call 21; (with_reducible refine (t21t Ha.out _).mono ?_); rintro e w2 ⟨rfl, hw⟩; subst w2)
    | (go_at_call 21; (with_reducible refine (t21t Hb.out _).mono ?_); rintro e w2 ⟨rfl, hw⟩; subst w2)
    | (go_at_call 21; (with_reducible refine (t21t Hc.out _).mono ?_); rintro e w2 ⟨rfl, hw⟩; subst w2)
    | (go_at_call 21; (with_reducible refine (t21t Hh.out _).mono ?_); rintro e w2 ⟨rfl, hw⟩; subst w2))
  go_wp2_with (go_at_call 9; (with_reducible refine (t9 _).mono ?_); rintro e w3 ⟨rfl, U2⟩)
  go_ret
  exact ⟨rfl, U1.out.trans U2.out⟩
end Go.Proofs.Ytcgbmcnefolgcaa
