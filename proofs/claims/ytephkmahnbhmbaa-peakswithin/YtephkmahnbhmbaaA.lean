/- The leaves: math's small functions, the order's, the reference's. -/
import Derived.Test.YtephkmahnbhmbaaRows
import Derived.Test.YtephkmahnbhmbaaO
import Derived.OpenShut
namespace Go.Proofs.Ytephkmahnbhmbaa
open Go.ChangeShapes Go.WideShapes Go.ChangeAt Go.RowKit Go.Fl

theorem call52 (x : Nat) (w : World) : (callFunc 52 #[.float .f64 x]).run Try.prog w = .ok (.value (.int .u64 x)) w := by
  rw [run_callFunc_extern Try.func52 (by kernel_rfl) (by kernel_rfl) (by kernel_rfl) (e := Extern.MathFloatBits.float64bits) (by kernel_rfl)]; rfl
attribute [local go_sem] call52 run_neg fold_eq fold_ne fold_lt fold_gt abs_eq

theorem top_and (x : Nat) : x &&& 2 ^ 63 = if x.testBit 63 then 2 ^ 63 else 0 := by
  apply Nat.eq_of_testBit_eq
  intro i
  rw [Nat.testBit_and, Nat.testBit_two_pow]
  by_cases hi : 63 = i
  · subst hi
    cases hb : x.testBit 63
    · rfl
    · rfl
  · cases hb : x.testBit 63
    · simp [hi]
    · rw [if_pos rfl, Nat.testBit_two_pow]; simp [hi]
theorem top_bit (x : Nat) (h : x < 2 ^ 64) : x.testBit 63 = decide (2 ^ 63 ≤ x) := by
  rw [Nat.testBit_eq_decide_div_mod_eq]
  by_cases hc : 2 ^ 63 ≤ x
  · have e : x / 2 ^ 63 % 2 = 1 := by omega
    rw [e]; exact (decide_eq_true hc).symm
  · have e : x / 2 ^ 63 % 2 = 0 := by omega
    rw [e]; exact (decide_eq_false hc).symm
theorem and_top (x : Nat) (h : x < 2 ^ 64) : bits BinOp.and IntKind.u64 (x : Int) 9223372036854775808 = if x < 2 ^ 63 then 0 else 9223372036854775808 := by
  show IntKind.u64.wrap ((BitVec.ofInt 64 (x : Int) &&& BitVec.ofInt 64 ((9223372036854775808 : Nat) : Int)).toNat : Int) = _
  rw [BitVec.toNat_and, BitVec.ofInt_natCast, BitVec.ofInt_natCast, BitVec.toNat_ofNat, BitVec.toNat_ofNat, IntKind.wrap_u64]
  have e1 : x % 2 ^ 64 = x := by omega
  have e2 : (9223372036854775808 : Nat) % 2 ^ 64 = 2 ^ 63 := by omega
  rw [e1, e2, top_and, top_bit x h]
  by_cases hc : 2 ^ 63 ≤ x
  · rw [if_neg (by omega : ¬ x < 2 ^ 63), if_pos (decide_eq_true hc)]; rfl
  · rw [if_pos (by omega : x < 2 ^ 63), if_neg (by simp; omega)]; rfl
theorem xor_top (x : Nat) (h : x < 2 ^ 64) : bits BinOp.xor IntKind.u64 IntKind.u64.max (x : Int) = ((2 ^ 64 - 1 - x : Nat) : Int) := by
  show IntKind.u64.wrap ((BitVec.ofInt 64 ((18446744073709551615 : Nat) : Int) ^^^ BitVec.ofInt 64 (x : Int)).toNat : Int) = _
  rw [BitVec.ofInt_natCast, BitVec.ofInt_natCast, show BitVec.ofNat 64 18446744073709551615 = BitVec.allOnes 64 from rfl, BitVec.allOnes_xor, BitVec.toNat_not, BitVec.toNat_ofNat, IntKind.wrap_u64]
  omega
theorem or_top (x : Nat) (h : x < 2 ^ 63) : bits BinOp.or IntKind.u64 (x : Int) 9223372036854775808 = ((x + 2 ^ 63 : Nat) : Int) := by
  show IntKind.u64.wrap ((BitVec.ofInt 64 (x : Int) ||| BitVec.ofInt 64 ((9223372036854775808 : Nat) : Int)).toNat : Int) = _
  rw [BitVec.toNat_or, BitVec.ofInt_natCast, BitVec.ofInt_natCast, BitVec.toNat_ofNat, BitVec.toNat_ofNat, IntKind.wrap_u64]
  have e1 : x % 2 ^ 64 = x := by omega
  have e2 : (9223372036854775808 : Nat) % 2 ^ 64 = 2 ^ 63 * 1 := by omega
  rw [e1, e2, Nat.or_comm, ← Nat.two_pow_add_eq_or_of_lt h]
  omega

theorem int_beq (x y : Nat) : ((x : Int) == (y : Int)) = decide (x = y) := by
  rw [Bool.eq_iff_iff]; simp; omega
theorem t20 (x y : Nat) (w : World) : Calls Try.prog 20 #[.float .f64 x, .float .f64 y] w fun e w' => e = .returned (.bool (ab x == ab y)) ∧ w' = w := by
  go_enter Try.func20, Try.ntmps20
  go_wp2
  all_goals (go_ret; go_tidy; refine ⟨?_, rfl⟩; rw [same_ab])
  all_goals simp_all [eqF_self]
  exact int_beq x y
end Go.Proofs.Ytephkmahnbhmbaa
