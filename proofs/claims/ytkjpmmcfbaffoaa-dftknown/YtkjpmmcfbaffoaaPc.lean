/- Turned. -/
import Derived.Test.YtkjpmmcfbaffoaaPb
namespace Go.Proofs.Ytkjpmmcfbaffoaa
open Go.ChangeShapes Go.WideShapes Go.ChangeAt Go.RowKit Go.Fl Ieee

set_option maxRecDepth 100000 in
theorem t25 (w : World) : Calls Try.prog 25 #[.int .u64 7] w fun e w' => e = .returned (.int .i64 3) ∧ w' = w := by
  go_enter Try.func25, Try.ntmps25
  go_wp2
  go_ret
  exact ⟨by kernel_rfl, rfl⟩
theorem t16 (w : World) : Calls Try.prog 16 #[.int .u64 7] w fun e w' => e = .returned (.int .i64 3) ∧ w' = w := by
  go_enter Try.func16, Try.ntmps16
  go_wp2_with (go_at_call 25; (with_reducible refine (t25 _).mono ?_); rintro e w' ⟨rfl, rfl⟩)
  go_ret
  exact ⟨rfl, rfl⟩
theorem t26_0 (w : World) : Calls Try.prog 26 #[.int .u64 0] w fun e w' => e = .returned (.int .u64 0) ∧ w' = w := by
  go_enter Try.func26, Try.ntmps26
  go_wp2
  go_ret
  exact ⟨rfl, rfl⟩
theorem t17_0 (w : World) : Calls Try.prog 17 #[.int .u64 0] w fun e w' => e = .returned (.int .u64 0) ∧ w' = w := by
  go_enter Try.func17, Try.ntmps17
  go_wp2_with (go_at_call 26; refine (t26_0 _).mono ?_; rintro e w' ⟨rfl, rfl⟩)
  go_ret
  exact ⟨rfl, rfl⟩
theorem t26_1 (w : World) : Calls Try.prog 26 #[.int .u64 128] w fun e w' => e = .returned (.int .u64 9223372036854775808) ∧ w' = w := by
  go_enter Try.func26, Try.ntmps26
  go_wp2
  go_ret
  exact ⟨rfl, rfl⟩
theorem t17_1 (w : World) : Calls Try.prog 17 #[.int .u64 1] w fun e w' => e = .returned (.int .u64 9223372036854775808) ∧ w' = w := by
  go_enter Try.func17, Try.ntmps17
  go_wp2_with (go_at_call 26; refine (t26_1 _).mono ?_; rintro e w' ⟨rfl, rfl⟩)
  go_ret
  exact ⟨rfl, rfl⟩
theorem t26_2 (w : World) : Calls Try.prog 26 #[.int .u64 64] w fun e w' => e = .returned (.int .u64 4611686018427387904) ∧ w' = w := by
  go_enter Try.func26, Try.ntmps26
  go_wp2
  go_ret
  exact ⟨rfl, rfl⟩
theorem t17_2 (w : World) : Calls Try.prog 17 #[.int .u64 2] w fun e w' => e = .returned (.int .u64 4611686018427387904) ∧ w' = w := by
  go_enter Try.func17, Try.ntmps17
  go_wp2_with (go_at_call 26; refine (t26_2 _).mono ?_; rintro e w' ⟨rfl, rfl⟩)
  go_ret
  exact ⟨rfl, rfl⟩
theorem t26_3 (w : World) : Calls Try.prog 26 #[.int .u64 192] w fun e w' => e = .returned (.int .u64 13835058055282163712) ∧ w' = w := by
  go_enter Try.func26, Try.ntmps26
  go_wp2
  go_ret
  exact ⟨rfl, rfl⟩
theorem t17_3 (w : World) : Calls Try.prog 17 #[.int .u64 3] w fun e w' => e = .returned (.int .u64 13835058055282163712) ∧ w' = w := by
  go_enter Try.func17, Try.ntmps17
  go_wp2_with (go_at_call 26; refine (t26_3 _).mono ?_; rintro e w' ⟨rfl, rfl⟩)
  go_ret
  exact ⟨rfl, rfl⟩
theorem t26_4 (w : World) : Calls Try.prog 26 #[.int .u64 32] w fun e w' => e = .returned (.int .u64 2305843009213693952) ∧ w' = w := by
  go_enter Try.func26, Try.ntmps26
  go_wp2
  go_ret
  exact ⟨rfl, rfl⟩
theorem t17_4 (w : World) : Calls Try.prog 17 #[.int .u64 4] w fun e w' => e = .returned (.int .u64 2305843009213693952) ∧ w' = w := by
  go_enter Try.func17, Try.ntmps17
  go_wp2_with (go_at_call 26; refine (t26_4 _).mono ?_; rintro e w' ⟨rfl, rfl⟩)
  go_ret
  exact ⟨rfl, rfl⟩
theorem t26_5 (w : World) : Calls Try.prog 26 #[.int .u64 160] w fun e w' => e = .returned (.int .u64 11529215046068469760) ∧ w' = w := by
  go_enter Try.func26, Try.ntmps26
  go_wp2
  go_ret
  exact ⟨rfl, rfl⟩
theorem t17_5 (w : World) : Calls Try.prog 17 #[.int .u64 5] w fun e w' => e = .returned (.int .u64 11529215046068469760) ∧ w' = w := by
  go_enter Try.func17, Try.ntmps17
  go_wp2_with (go_at_call 26; refine (t26_5 _).mono ?_; rintro e w' ⟨rfl, rfl⟩)
  go_ret
  exact ⟨rfl, rfl⟩
theorem t26_6 (w : World) : Calls Try.prog 26 #[.int .u64 96] w fun e w' => e = .returned (.int .u64 6917529027641081856) ∧ w' = w := by
  go_enter Try.func26, Try.ntmps26
  go_wp2
  go_ret
  exact ⟨rfl, rfl⟩
theorem t17_6 (w : World) : Calls Try.prog 17 #[.int .u64 6] w fun e w' => e = .returned (.int .u64 6917529027641081856) ∧ w' = w := by
  go_enter Try.func17, Try.ntmps17
  go_wp2_with (go_at_call 26; refine (t26_6 _).mono ?_; rintro e w' ⟨rfl, rfl⟩)
  go_ret
  exact ⟨rfl, rfl⟩
theorem t26_7 (w : World) : Calls Try.prog 26 #[.int .u64 224] w fun e w' => e = .returned (.int .u64 16140901064495857664) ∧ w' = w := by
  go_enter Try.func26, Try.ntmps26
  go_wp2
  go_ret
  exact ⟨rfl, rfl⟩
theorem t17_7 (w : World) : Calls Try.prog 17 #[.int .u64 7] w fun e w' => e = .returned (.int .u64 16140901064495857664) ∧ w' = w := by
  go_enter Try.func17, Try.ntmps17
  go_wp2_with (go_at_call 26; refine (t26_7 _).mono ?_; rintro e w' ⟨rfl, rfl⟩)
  go_ret
  exact ⟨rfl, rfl⟩
end Go.Proofs.Ytkjpmmcfbaffoaa
