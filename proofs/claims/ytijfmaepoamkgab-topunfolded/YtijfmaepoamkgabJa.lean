/- The leaves: remainders from 0 on; the reference's sums and products modulo; products in two halves. -/
import Derived.Test.YtijfmaepoamkgabRows
import Derived.Test.YtijfmaepoamkgabEa
import Derived.OpenShut
import Derived.WalkKit
import Derived.WalkLawsBesides
import Derived.ProofKit
import Derived.Deep.WholeRow
import Derived.Laws.Bits64
import Derived.Lib.BitFns
namespace Go.Proofs.Ytijfmaepoamkgab.Fo
open Go.ChangeShapes Go.WideShapes Go.ChangeAt Go.RowKit
/-- A number that fits into a word. -/
def I64 (x : Int) : Prop := -9223372036854775808 ≤ x ∧ x ≤ 9223372036854775807
theorem wrap_in {x : Int} (h : I64 x) : wrap64 x = x := by unfold wrap64; unfold I64 at h; omega
theorem tmod_facts (x : Int) {m : Int} (hm : 1 ≤ m) : (0 ≤ x.tmod m → x.tmod m = x % m) ∧ (x.tmod m < 0 → x.tmod m + m = x % m) ∧ x.tmod m < m ∧ -m < x.tmod m := by
  have h1 := Int.tmod_lt_of_pos x (show 0 < m by omega)
  have h2 := Int.lt_tmod_of_pos x (show 0 < m by omega)
  have h3 := @Int.tmod_eq_emod x m
  have h4 := Int.emod_nonneg x (show m ≠ 0 by omega)
  have h5 := Int.emod_lt_of_pos x (show 0 < m by omega)
  generalize x % m = r at *
  generalize x.tmod m = q at *
  split at h3 <;> omega
theorem t43 (x m : Int) (hm : 1 ≤ m ∧ m ≤ 4611686018427387904) (w : World) : Calls Try.prog 43 #[.int .i64 x, .int .i64 m] w fun e w' => e = .returned (.int .i64 (x % m)) ∧ w' = w := by
  obtain ⟨h1, h2, h3, h4⟩ := tmod_facts x hm.1
  go_enter Try.func43, Try.ntmps43
  go_wp2
  all_goals (go_ret; first | exact ⟨rfl, rfl⟩ | (rename_i h; exact ⟨by rw [h1 h]; rfl, rfl⟩))
theorem plus_le {a b m : Int} (ha : 0 ≤ a ∧ a < m) (hb : 0 ≤ b ∧ b < m) : (m - b ≤ a → a - (m - b) = (a + b) % m) ∧ (a < m - b → a + b = (a + b) % m) := by
  constructor
  · intro h
    have : (a + b) % m = (a + b - m) % m := by rw [Int.sub_emod_right]
    rw [this, Int.emod_eq_of_lt (by omega) (by omega)]
    omega
  · intro h
    rw [Int.emod_eq_of_lt (by omega) (by omega)]
theorem t28 (p q : Option Addr) (m n cp cq : Nat) (w : World) (h8 : min m n ≤ 8) : Calls Try.prog 28 #[.slice p m cp, .slice q n cq] w fun e w' => e = .returned (.tuple #[.int .i64 ((min m n : Nat) : Int), .int .i64 0]) ∧ w' = w := by
  go_enter Try.func28, Try.ntmps28
  go_wp2
  · rename_i h
    go_ret2
    exact ⟨by rw [show min m n = n by omega]; rfl, rfl⟩
  · rename_i h
    go_ret2
    exact ⟨by rw [show min m n = m by omega]; rfl, rfl⟩
theorem t28b (p q : Option Addr) (m n cp cq : Nat) (w : World) (h8 : 8 < min m n) : Calls Try.prog 28 #[.slice p m cp, .slice q n cq] w fun e w' => e = .returned (.tuple #[.int .i64 0, .int .i64 3]) ∧ w' = w := by
  have h1 : 8 < (m : Int) := by omega
  have h2 : 8 < (n : Int) := by omega
  go_enter Try.func28, Try.ntmps28
  go_wp2
  all_goals (go_ret2; exact ⟨rfl, rfl⟩)
theorem vec_nat {a : Nat} (ha : a < 18446744073709551616) : (BitVec.ofInt 64 (a : Int)).toNat = a := by
  rw [BitVec.ofInt_natCast, BitVec.toNat_ofNat]; exact Nat.mod_eq_of_lt (by omega)
theorem and_nat (a b : Nat) (ha : a < 18446744073709551616) (hb : b < 18446744073709551616) : bits .and .u64 (a : Int) (b : Int) = ((a &&& b : Nat) : Int) := by
  have hx : a &&& b < 2 ^ 64 := Nat.and_lt_two_pow _ (by omega)
  show IntKind.u64.wrap ((BitVec.ofInt 64 (a : Int) &&& BitVec.ofInt 64 (b : Int)).toNat : Int) = _
  rw [BitVec.toNat_and, vec_nat ha, vec_nat hb, IntKind.wrap_u64]
  omega
theorem or_nat (a b : Nat) (ha : a < 18446744073709551616) (hb : b < 18446744073709551616) : bits .or .u64 (a : Int) (b : Int) = ((a ||| b : Nat) : Int) := by
  have hx : a ||| b < 2 ^ 64 := Nat.or_lt_two_pow (by omega) (by omega)
  show IntKind.u64.wrap ((BitVec.ofInt 64 (a : Int) ||| BitVec.ofInt 64 (b : Int)).toNat : Int) = _
  rw [BitVec.toNat_or, vec_nat ha, vec_nat hb, IntKind.wrap_u64]
  omega
theorem and_low {x : Int} (h : 0 ≤ x) (h1 : x < 18446744073709551616) : bits .and .u64 x 4294967295 = x % 4294967296 := by
  obtain ⟨n, rfl⟩ := Int.eq_ofNat_of_zero_le h
  have e := Nat.and_two_pow_sub_one_eq_mod n 32
  have k := and_nat n 4294967295 (by omega) (by omega)
  rw [show ((4294967295 : Nat) : Int) = 4294967295 from rfl] at k
  rw [k]
  rw [show (2 : Nat) ^ 32 - 1 = 4294967295 from rfl, show (2 : Nat) ^ 32 = 4294967296 from rfl] at e
  rw [e]
  omega
theorem or_apart {a b : Int} {k : Nat} (ha : 0 ≤ a) (hb : 0 ≤ b) (hb2 : b < 2 ^ k) (h : a * 2 ^ k + b < 18446744073709551616) : bits .or .u64 (a * 2 ^ k) b = a * 2 ^ k + b := by
  obtain ⟨m, rfl⟩ := Int.eq_ofNat_of_zero_le ha
  obtain ⟨n, rfl⟩ := Int.eq_ofNat_of_zero_le hb
  have hn : n < 2 ^ k := by exact_mod_cast hb2
  have e := Nat.two_pow_add_eq_or_of_lt hn m
  have c : (((m * 2 ^ k : Nat)) : Int) = (m : Int) * 2 ^ k := by simp
  have h' : m * 2 ^ k + n < 18446744073709551616 := by
    have : ((m * 2 ^ k : Nat) : Int) + n < 18446744073709551616 := by rw [c]; exact h
    omega
  have k1 := or_nat (m * 2 ^ k) n (by omega) (by omega)
  rw [Nat.mul_comm] at e
  rw [← e] at k1
  rw [c] at k1
  rw [k1]
  simp
set_option maxHeartbeats 1000000 in
theorem t45 (x y : Int) (hx : 0 ≤ x ∧ x < 18446744073709551616) (hy : 0 ≤ y ∧ y < 18446744073709551616) (w : World) : Calls Try.prog 45 #[.int .u64 x, .int .u64 y] w fun e w' => e = .returned (.tuple #[.int .u64 (x * y / 18446744073709551616), .int .u64 (x * y % 18446744073709551616)]) ∧ w' = w := by
  obtain ⟨xh, hxh⟩ : ∃ t, x / 4294967296 = t := ⟨_, rfl⟩
  obtain ⟨xl, hxl⟩ : ∃ t, x % 4294967296 = t := ⟨_, rfl⟩
  obtain ⟨yh, hyh⟩ : ∃ t, y / 4294967296 = t := ⟨_, rfl⟩
  obtain ⟨yl, hyl⟩ : ∃ t, y % 4294967296 = t := ⟨_, rfl⟩
  have hbx := and_low hx.1 hx.2
  have hby := and_low hy.1 hy.2
  rw [hxl] at hbx
  rw [hyl] at hby
  have bx : 0 ≤ xh ∧ xh ≤ 4294967295 ∧ 0 ≤ xl ∧ xl ≤ 4294967295 := by omega
  have bY : 0 ≤ yh ∧ yh ≤ 4294967295 ∧ 0 ≤ yl ∧ yl ≤ 4294967295 := by omega
  have prod : ∀ u v : Int, (0 ≤ u ∧ u ≤ 4294967295) → (0 ≤ v ∧ v ≤ 4294967295) → 0 ≤ u * v ∧ u * v ≤ 18446744065119617025 := by
    intro u v hu hv
    refine ⟨Int.mul_nonneg hu.1 hv.1, ?_⟩
    have := Int.mul_le_mul hu.2 hv.2 hv.1 (by omega)
    omega
  have q0 := prod xl yl (by omega) (by omega)
  have q1 := prod xh yl (by omega) (by omega)
  have q2 := prod xl yh (by omega) (by omega)
  have q3 := prod xh yh (by omega) (by omega)
  have exy : x * y = xh * yh * 18446744073709551616 + (xh * yl + xl * yh) * 4294967296 + xl * yl := by
    have ex : x = xh * 4294967296 + xl := by omega
    have ey : y = yh * 4294967296 + yl := by omega
    rw [ex, ey]; grind
  obtain ⟨P, hP⟩ : ∃ t, x * y = t := ⟨_, rfl⟩
  obtain ⟨p0, h0⟩ : ∃ t, xl * yl = t := ⟨_, rfl⟩
  obtain ⟨p1, h1⟩ : ∃ t, xh * yl = t := ⟨_, rfl⟩
  obtain ⟨p2, h2⟩ : ∃ t, xl * yh = t := ⟨_, rfl⟩
  obtain ⟨p3, h3⟩ : ∃ t, xh * yh = t := ⟨_, rfl⟩
  rw [hP, h0, h1, h2, h3] at exy
  rw [h0] at q0; rw [h1] at q1; rw [h2] at q2; rw [h3] at q3
  have hbt := and_low (show 0 ≤ p1 + p0 / 4294967296 by omega) (by omega)
  have hwP := IntKind.wrap_u64 P
  have HE : Hid (P = p3 * 18446744073709551616 + (p1 + p2) * 4294967296 + p0) := exy
  clear prod exy
  rw [hP]
  go_enter Try.func45, Try.ntmps45
  go_wp2
  go_ret2
  have he := HE.out
  have e1 : p3 + (p1 + p0 / 4294967296) / 4294967296 + ((p1 + p0 / 4294967296) % 4294967296 + p2) / 4294967296 = P / 18446744073709551616 := by omega
  refine ⟨?_, rfl⟩
  rw [e1]
  rfl
theorem tab_size : (Lib.len8tab.size : Int) = 256 := by
  have : Lib.len8tab.size = 256 := by decide +kernel
  omega
theorem tab_get (y : Int) (h : y.toNat < Lib.len8tab.size) (h0 : 0 ≤ y) (h1 : y ≤ 255) : ((Lib.len8tab[y.toNat]'h).toNat : Int) = Lib.bitLen y.toNat := by
  rw [← Lib.len8_of y h0 h1]
  unfold Lib.len8
  rw [getElem?_pos Lib.len8tab y.toNat h]
  rfl
theorem len_way {x y K : Int} (h : y.toNat < Lib.len8tab.size) (k : Nat) (hx : 1 ≤ x ∧ x ≤ 18446744073709551615) (hk : k ≤ 56) (hK : K = (k : Int)) (hy : y.toNat = x.toNat / 2 ^ k) (h1 : 1 ≤ y) (h2 : y ≤ 255) : wrap64 (K + wrap64 ((Lib.len8tab[y.toNat]'h).toNat : Int)) = (Lib.bitLen x.toNat : Int) := by
  rw [tab_get y h (by omega) h2]
  have l := Lib.bitLen_le8' y (by omega) h2
  have hp : 2 ^ k ≤ x.toNat := by
    rcases Nat.lt_or_ge x.toNat (2 ^ k) with hl | hl
    · rw [Nat.div_eq_of_lt hl] at hy; omega
    · exact hl
  have s := Lib.bitLen_shift k x.toNat hp (by omega)
  rw [← hy] at s
  unfold wrap64
  omega
set_option maxHeartbeats 4000000 in
set_option maxRecDepth 100000 in
theorem t70 (x : Int) (hx : 1 ≤ x ∧ x ≤ 18446744073709551615) (w : World) : Calls Try.prog 70 #[.int .u64 x] w fun e w' => e = .returned (.int .i64 (Lib.bitLen x.toNat)) ∧ w' = w := by
  have hs := tab_size
  go_enter Try.func70, Try.ntmps70
  go_wp2
  all_goals (go_ret; refine ⟨congrArg Ending.returned (congrArg (Value.int IntKind.i64) ?_), rfl⟩)
  all_goals first
    | exact len_way _ 56 hx (by omega) rfl (by omega) (by omega) (by omega)
    | exact len_way _ 48 hx (by omega) rfl (by omega) (by omega) (by omega)
    | exact len_way _ 40 hx (by omega) rfl (by omega) (by omega) (by omega)
    | exact len_way _ 32 hx (by omega) rfl (by omega) (by omega) (by omega)
    | exact len_way _ 24 hx (by omega) rfl (by omega) (by omega) (by omega)
    | exact len_way _ 16 hx (by omega) rfl (by omega) (by omega) (by omega)
    | exact len_way _ 8 hx (by omega) rfl (by omega) (by omega) (by omega)
    | (have l := Lib.bitLen_le8' x (by omega) (by omega)
       rw [tab_get x _ (by omega) (by omega)]
       unfold wrap64
       omega)
theorem t78 (x : Int) (hx : 1 ≤ x ∧ x ≤ 18446744073709551615) (w : World) : Calls Try.prog 78 #[.int .u64 x] w fun e w' => e = .returned (.int .i64 (64 - Lib.bitLen x.toNat)) ∧ w' = w := by
  have hl := Lib.bitLen_le x.toNat 64 (by omega) (by omega)
  go_enter Try.func78, Try.ntmps78
  go_wp2_with (go_at_call 70; refine (t70 x hx _).mono ?_; rintro e w' ⟨rfl, rfl⟩)
  go_ret
  exact ⟨rfl, rfl⟩
end Go.Proofs.Ytijfmaepoamkgab.Fo
