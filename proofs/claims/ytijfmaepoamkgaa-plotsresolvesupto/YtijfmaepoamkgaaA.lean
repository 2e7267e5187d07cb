/- The leaves: math's small functions, the order's, the reference's. -/
import Derived.Test.YtijfmaepoamkgaaRows
import Derived.Test.YtijfmaepoamkgaaO
import Derived.OpenShut
namespace Go.Proofs.Ytijfmaepoamkgaa
open Go.ChangeShapes Go.WideShapes Go.ChangeAt Go.RowKit Go.Fl

theorem call53 (x : Nat) (w : World) : (callFunc 53 #[.float .f64 x]).run Try.prog w = .ok (.value (.int .u64 x)) w := by
  rw [run_callFunc_extern Try.func53 (by kernel_rfl) (by kernel_rfl) (by kernel_rfl) (e := Extern.MathFloatBits.float64bits) (by kernel_rfl)]; rfl
theorem call63 (x : Int) (w : World) : (callFunc 63 #[.int .u64 x]).run Try.prog w = .ok (.value (.float .f64 x.toNat)) w := by
  rw [run_callFunc_extern Try.func63 (by kernel_rfl) (by kernel_rfl) (by kernel_rfl) (e := Extern.MathFloatBits.float64frombits) (by kernel_rfl)]; rfl
attribute [local go_sem] call53 call63 run_neg fold_eq fold_ne fold_lt fold_gt abs_eq

theorem t40 (x : Nat) (w : World) : Calls Try.prog 40 #[.float .f64 x] w fun e w' => e = .returned (.float .f64 (abs x)) ∧ w' = w := by
  go_enter Try.func40, Try.ntmps40
  go_wp2
  go_ret
  exact ⟨rfl, rfl⟩
theorem t49 (x : Nat) (w : World) : Calls Try.prog 49 #[.float .f64 x] w fun e w' => e = .returned (.bool (isN x)) ∧ w' = w := by
  go_enter Try.func49, Try.ntmps49
  go_wp2
  go_ret
  exact ⟨by rw [eqF_self]; simp, rfl⟩
theorem t50 (x : Nat) (w : World) : Calls Try.prog 50 #[.float .f64 x, .int .i64 0] w fun e w' => e = .returned (.bool (gtF ((ab x).map abs) (ab 9218868437227405311))) ∧ w' = w := by
  go_enter Try.func50, Try.ntmps50
  go_wp2_with (go_at_call 40; refine (t40 _ _).mono ?_; rintro e w' ⟨rfl, rfl⟩)
  go_ret
  exact ⟨by rw [← ab_abs]; rfl, rfl⟩
theorem top_and (x : Nat) : x &&& 2 ^ 63 = if x.testBit 63 then 2 ^ 63 else 0 := by
  apply Nat.eq_of_testBit_eq
  intro i
  rw [Nat.testBit_and, Nat.testBit_two_pow]
  by_cases hi : 63 = i
  · subst hi
    cases hb : x.testBit 63
    · rfl
    · rfl
  · cases hb : x.testBit 63
    · simp [hi]
    · rw [if_pos rfl, Nat.testBit_two_pow]; simp [hi]
theorem top_bit (x : Nat) (h : x < 2 ^ 64) : x.testBit 63 = decide (2 ^ 63 ≤ x) := by
  rw [Nat.testBit_eq_decide_div_mod_eq]
  by_cases hc : 2 ^ 63 ≤ x
  · have e : x / 2 ^ 63 % 2 = 1 := by omega
    rw [e]; exact (decide_eq_true hc).symm
  · have e : x / 2 ^ 63 % 2 = 0 := by omega
    rw [e]; exact (decide_eq_false hc).symm
theorem and_top (x : Nat) (h : x < 2 ^ 64) : bits BinOp.and IntKind.u64 (x : Int) 9223372036854775808 = if x < 2 ^ 63 then 0 else 9223372036854775808 := by
  show IntKind.u64.wrap ((BitVec.ofInt 64 (x : Int) &&& BitVec.ofInt 64 ((9223372036854775808 : Nat) : Int)).toNat : Int) = _
  rw [BitVec.toNat_and, BitVec.ofInt_natCast, BitVec.ofInt_natCast, BitVec.toNat_ofNat, BitVec.toNat_ofNat, IntKind.wrap_u64]
  have e1 : x % 2 ^ 64 = x := by omega
  have e2 : (9223372036854775808 : Nat) % 2 ^ 64 = 2 ^ 63 := by omega
  rw [e1, e2, top_and, top_bit x h]
  by_cases hc : 2 ^ 63 ≤ x
  · rw [if_neg (by omega : ¬ x < 2 ^ 63), if_pos (decide_eq_true hc)]; rfl
  · rw [if_pos (by omega : x < 2 ^ 63), if_neg (by simp; omega)]; rfl
theorem xor_top (x : Nat) (h : x < 2 ^ 64) : bits BinOp.xor IntKind.u64 IntKind.u64.max (x : Int) = ((2 ^ 64 - 1 - x : Nat) : Int) := by
  show IntKind.u64.wrap ((BitVec.ofInt 64 ((18446744073709551615 : Nat) : Int) ^^^ BitVec.ofInt 64 (x : Int)).toNat : Int) = _
  rw [BitVec.ofInt_natCast, BitVec.ofInt_natCast, show BitVec.ofNat 64 18446744073709551615 = BitVec.allOnes 64 from rfl, BitVec.allOnes_xor, BitVec.toNat_not, BitVec.toNat_ofNat, IntKind.wrap_u64]
  omega
theorem or_top (x : Nat) (h : x < 2 ^ 63) : bits BinOp.or IntKind.u64 (x : Int) 9223372036854775808 = ((x + 2 ^ 63 : Nat) : Int) := by
  show IntKind.u64.wrap ((BitVec.ofInt 64 (x : Int) ||| BitVec.ofInt 64 ((9223372036854775808 : Nat) : Int)).toNat : Int) = _
  rw [BitVec.toNat_or, BitVec.ofInt_natCast, BitVec.ofInt_natCast, BitVec.toNat_ofNat, BitVec.toNat_ofNat, IntKind.wrap_u64]
  have e1 : x % 2 ^ 64 = x := by omega
  have e2 : (9223372036854775808 : Nat) % 2 ^ 64 = 2 ^ 63 * 1 := by omega
  rw [e1, e2, Nat.or_comm, ← Nat.two_pow_add_eq_or_of_lt h]
  omega

theorem t76 (x : Nat) (w : World) (hx : x < 2 ^ 64) : Calls Try.prog 76 #[.float .f64 x] w fun e w' => e = .returned (.int .u64 (key x)) ∧ w' = w := by
  cases hN : isN x
  · rcases Nat.lt_or_ge x (2 ^ 63) with hl | hg
    · have h1 := and_top x hx
      rw [if_pos hl] at h1
      have h2 := or_top x hl
      have hk : key x = x + 2 ^ 63 := by unfold key; rw [hN, if_pos hl]; rfl
      rw [hk]
      go_enter Try.func76, Try.ntmps76
      go_wp2_with (go_at_call 49; refine (t49 _ _).mono ?_; rintro e w' ⟨rfl, rfl⟩; rw [hN])
      go_ret
      exact ⟨rfl, rfl⟩
    · have h1 := and_top x hx
      rw [if_neg (by omega)] at h1
      have h2 := xor_top x hx
      have hk : key x = 2 ^ 64 - 1 - x := by unfold key; rw [hN, if_neg (by simp), if_neg (by omega)]
      rw [hk]
      go_enter Try.func76, Try.ntmps76
      go_wp2_with (go_at_call 49; refine (t49 _ _).mono ?_; rintro e w' ⟨rfl, rfl⟩; rw [hN])
      go_ret
      exact ⟨rfl, rfl⟩
  · have hk : key x = 18446744073709551615 := key_nan hN
    rw [hk]
    go_enter Try.func76, Try.ntmps76
    go_wp2_with (go_at_call 49; refine (t49 _ _).mono ?_; rintro e w' ⟨rfl, rfl⟩; rw [hN])
    go_ret
    exact ⟨rfl, rfl⟩
theorem int_beq (x y : Nat) : ((x : Int) == (y : Int)) = decide (x = y) := by
  rw [Bool.eq_iff_iff]; simp; omega
theorem t32 (x y : Nat) (w : World) : Calls Try.prog 32 #[.float .f64 x, .float .f64 y] w fun e w' => e = .returned (.bool (ab x == ab y)) ∧ w' = w := by
  go_enter Try.func32, Try.ntmps32
  go_wp2
  all_goals (go_ret; go_tidy; refine ⟨?_, rfl⟩; rw [same_ab])
  all_goals simp_all [eqF_self]
  exact int_beq x y
theorem t74 (x : Nat) (w : World) (hx : x < 2 ^ 64) : Calls Try.prog 74 #[.float .f64 x] w fun e w' => e = .returned (.bool (decide (2 ^ 63 ≤ x))) ∧ w' = w := by
  have h1 : decide (wrap64 (x : Int) < 0) = decide (2 ^ 63 ≤ x) := by
    rw [decide_eq_decide]; unfold wrap64; omega
  go_enter Try.func74, Try.ntmps74
  go_wp2
  go_ret
  exact ⟨by first | rfl | exact congrArg (fun z => Ending.returned (Value.bool z)) h1, rfl⟩
theorem t62 (x y : Nat) (w : World) (hx : x < 2 ^ 64) (hy : y < 2 ^ 64) : Calls Try.prog 62 #[.float .f64 x, .float .f64 y] w fun e w' => e = .returned (.int .i64 (cmpK x y)) ∧ w' = w := by
  rw [← placeF_eq hx hy]
  go_enter Try.func62, Try.ntmps62
  go_wp2_with (first | (go_at_call 32; refine (t32 _ _ _).mono ?_; rintro e w' ⟨rfl, rfl⟩) | (go_at_call 74; refine (t74 _ _ hx).mono ?_; rintro e w' ⟨rfl, rfl⟩))
  all_goals (go_ret; go_tidy)
  all_goals simp_all [placeF, eqF_self]
end Go.Proofs.Ytijfmaepoamkgaa
