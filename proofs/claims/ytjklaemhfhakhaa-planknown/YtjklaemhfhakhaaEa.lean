/- Load: the leaves. -/
import Derived.Test.YtjklaemhfhakhaaDd
import Derived.Laws.Bits64
import Derived.Lib.BitFns
namespace Go.Proofs.Ytjklaemhfhakhaa
open Go.ChangeShapes Go.WideShapes Go.ChangeAt Go.RowKit

theorem call46 (x y c : Nat) (hc : c ≤ 1) (w : World) : (callFunc 46 #[.int .u64 (x : Int), .int .u64 (y : Int), .int .u64 (c : Int)]).run Try.prog w = .ok (.value (.tuple #[.int .u64 (((x + y + c) % 18446744073709551616 : Nat) : Int), .int .u64 (((x + y + c) / 18446744073709551616 : Nat) : Int)])) w := by
  rw [run_callFunc_extern Try.func46 (by kernel_rfl) (by kernel_rfl) (by kernel_rfl) (e := fun args => do
    let (x, y, c) ← Extern.MathBitsCarry.three "Add64" args
    pure (Extern.MathBitsCarry.pair ((x + y + c) % Extern.MathBitsCarry.m64) ((x + y + c) / Extern.MathBitsCarry.m64))) (by kernel_rfl)]
  rcases (show c = 0 ∨ c = 1 by omega) with rfl | rfl
  · rfl
  · rfl
theorem vec_nat {a : Nat} (ha : a < 18446744073709551616) : (BitVec.ofInt 64 (a : Int)).toNat = a := by
  rw [BitVec.ofInt_natCast, BitVec.toNat_ofNat]; exact Nat.mod_eq_of_lt (by omega)
theorem and_nat (a b : Nat) (ha : a < 18446744073709551616) (hb : b < 18446744073709551616) : bits .and .u64 (a : Int) (b : Int) = ((a &&& b : Nat) : Int) := by
  have hx : a &&& b < 2 ^ 64 := Nat.and_lt_two_pow _ (by omega)
  show IntKind.u64.wrap ((BitVec.ofInt 64 (a : Int) &&& BitVec.ofInt 64 (b : Int)).toNat : Int) = _
  rw [BitVec.toNat_and, vec_nat ha, vec_nat hb, IntKind.wrap_u64]
  omega
theorem or_nat (a b : Nat) (ha : a < 18446744073709551616) (hb : b < 18446744073709551616) : bits .or .u64 (a : Int) (b : Int) = ((a ||| b : Nat) : Int) := by
  have hx : a ||| b < 2 ^ 64 := Nat.or_lt_two_pow (by omega) (by omega)
  show IntKind.u64.wrap ((BitVec.ofInt 64 (a : Int) ||| BitVec.ofInt 64 (b : Int)).toNat : Int) = _
  rw [BitVec.toNat_or, vec_nat ha, vec_nat hb, IntKind.wrap_u64]
  omega
theorem and_low {x : Int} (h : 0 ≤ x) (h1 : x < 18446744073709551616) : bits .and .u64 x 4294967295 = x % 4294967296 := by
  obtain ⟨n, rfl⟩ := Int.eq_ofNat_of_zero_le h
  have e := Nat.and_two_pow_sub_one_eq_mod n 32
  have k := and_nat n 4294967295 (by omega) (by omega)
  rw [show ((4294967295 : Nat) : Int) = 4294967295 from rfl] at k
  rw [k]
  rw [show (2 : Nat) ^ 32 - 1 = 4294967295 from rfl, show (2 : Nat) ^ 32 = 4294967296 from rfl] at e
  rw [e]
  omega
theorem or_apart {a b : Int} {k : Nat} (ha : 0 ≤ a) (hb : 0 ≤ b) (hb2 : b < 2 ^ k) (h : a * 2 ^ k + b < 18446744073709551616) : bits .or .u64 (a * 2 ^ k) b = a * 2 ^ k + b := by
  obtain ⟨m, rfl⟩ := Int.eq_ofNat_of_zero_le ha
  obtain ⟨n, rfl⟩ := Int.eq_ofNat_of_zero_le hb
  have hn : n < 2 ^ k := by exact_mod_cast hb2
  have e := Nat.two_pow_add_eq_or_of_lt hn m
  have c : (((m * 2 ^ k : Nat)) : Int) = (m : Int) * 2 ^ k := by simp
  have h' : m * 2 ^ k + n < 18446744073709551616 := by
    have : ((m * 2 ^ k : Nat) : Int) + n < 18446744073709551616 := by rw [c]; exact h
    omega
  have k1 := or_nat (m * 2 ^ k) n (by omega) (by omega)
  rw [Nat.mul_comm] at e
  rw [← e] at k1
  rw [c] at k1
  rw [k1]
  simp
set_option maxHeartbeats 1000000 in
theorem t45 (x y : Int) (hx : 0 ≤ x ∧ x < 18446744073709551616) (hy : 0 ≤ y ∧ y < 18446744073709551616) (w : World) : Calls Try.prog 45 #[.int .u64 x, .int .u64 y] w fun e w' => e = .returned (.tuple #[.int .u64 (x * y / 18446744073709551616), .int .u64 (x * y % 18446744073709551616)]) ∧ w' = w := by
  obtain ⟨xh, hxh⟩ : ∃ t, x / 4294967296 = t := ⟨_, rfl⟩
  obtain ⟨xl, hxl⟩ : ∃ t, x % 4294967296 = t := ⟨_, rfl⟩
  obtain ⟨yh, hyh⟩ : ∃ t, y / 4294967296 = t := ⟨_, rfl⟩
  obtain ⟨yl, hyl⟩ : ∃ t, y % 4294967296 = t := ⟨_, rfl⟩
  have hbx := and_low hx.1 hx.2
  have hby := and_low hy.1 hy.2
  rw [hxl] at hbx
  rw [hyl] at hby
  have bx : 0 ≤ xh ∧ xh ≤ 4294967295 ∧ 0 ≤ xl ∧ xl ≤ 4294967295 := by omega
  have bY : 0 ≤ yh ∧ yh ≤ 4294967295 ∧ 0 ≤ yl ∧ yl ≤ 4294967295 := by omega
  have prod : ∀ u v : Int, (0 ≤ u ∧ u ≤ 4294967295) → (0 ≤ v ∧ v ≤ 4294967295) → 0 ≤ u * v ∧ u * v ≤ 18446744065119617025 := by
    intro u v hu hv
    refine ⟨Int.mul_nonneg hu.1 hv.1, ?_⟩
    have := Int.mul_le_mul hu.2 hv.2 hv.1 (by omega)
    omega
  have q0 := prod xl yl (by omega) (by omega)
  have q1 := prod xh yl (by omega) (by omega)
  have q2 := prod xl yh (by omega) (by omega)
  have q3 := prod xh yh (by omega) (by omega)
  have exy : x * y = xh * yh * 18446744073709551616 + (xh * yl + xl * yh) * 4294967296 + xl * yl := by
    have ex : x = xh * 4294967296 + xl := by omega
    have ey : y = yh * 4294967296 + yl := by omega
    rw [ex, ey]; grind
  obtain ⟨P, hP⟩ : ∃ t, x * y = t := ⟨_, rfl⟩
  obtain ⟨p0, h0⟩ : ∃ t, xl * yl = t := ⟨_, rfl⟩
  obtain ⟨p1, h1⟩ : ∃ t, xh * yl = t := ⟨_, rfl⟩
  obtain ⟨p2, h2⟩ : ∃ t, xl * yh = t := ⟨_, rfl⟩
  obtain ⟨p3, h3⟩ : ∃ t, xh * yh = t := ⟨_, rfl⟩
  rw [hP, h0, h1, h2, h3] at exy
  rw [h0] at q0; rw [h1] at q1; rw [h2] at q2; rw [h3] at q3
  have hbt := and_low (show 0 ≤ p1 + p0 / 4294967296 by omega) (by omega)
  have hwP := IntKind.wrap_u64 P
  have HE : Hid (P = p3 * 18446744073709551616 + (p1 + p2) * 4294967296 + p0) := exy
  clear prod exy
  rw [hP]
  go_enter Try.func45, Try.ntmps45
  go_wp2
  go_ret2
  have he := HE.out
  have e1 : p3 + (p1 + p0 / 4294967296) / 4294967296 + ((p1 + p0 / 4294967296) % 4294967296 + p2) / 4294967296 = P / 18446744073709551616 := by omega
  refine ⟨?_, rfl⟩
  rw [e1]
  rfl

/-- A number of 128 bits. -/
def W128 (A : Nat) : Value := .agg #[.int .u64 ((A / 18446744073709551616 : Nat) : Int), .int .u64 ((A % 18446744073709551616 : Nat) : Int)]
theorem load_wide {w : World} {g : Nat} {a b : Int} (h : w.heap[g]? = some (.cells #[.int .u64 a, .int .u64 b] 81 (0, 0))) : (loadVar 81 ⟨g, 0, none⟩).run Try.prog w = .ok (.agg #[.int .u64 a, .int .u64 b]) w :=
  run_loadVar_row w g 81 81 _ (0, 0) _ h Try.underlying81 rfl (by kernel_rfl)
set_option maxHeartbeats 1000000 in
theorem t31 (a b : Nat) (ha : a < 18446744073709551616) (hb : b < 18446744073709551616) (w : World) : Calls Try.prog 31 #[.int .u64 (a : Int), .int .u64 (b : Int)] w (VU w (.int .u64 (Nat.gcd a b : Int))) := by
  have HB : Hid (a < 18446744073709551616 ∧ b < 18446744073709551616) := ⟨ha, hb⟩
  clear ha hb
  go_enter Try.func31, Try.ntmps31
  go_wp2_with fail
  go_loopw [0, 1] (fun v0 v1 wr => ∃ x y : Nat, v0 = .int .u64 (x : Int) ∧ v1 = .int .u64 (y : Int) ∧ Hid (x < 18446744073709551616 ∧ y < 18446744073709551616 ∧ Nat.gcd x y = Nat.gcd a b ∧ Up w wr)) (fun _ v1 _ => (match v1 with | .int _ z => z.toNat | _ => 0))
  case atStart => exact ⟨a, b, rfl, rfl, HB.out.1, HB.out.2, rfl, Up.refl _⟩
  case round =>
    obtain ⟨x, y, rfl, rfl, HX⟩ := hrel
    rename World => wr
    by_cases hy : y = 0
    · subst hy
      go_wp2
      go_ret
      obtain ⟨q1, q2, q3, q4⟩ := HX.out
      refine ⟨?_, q4⟩
      rw [Nat.gcd_zero_right] at q3
      rw [← q3]
      rfl
    · have y0 : (0 : Int) < (y : Int) := by omega
      have y1 : ¬ (y : Int) = 0 := by omega
      have y2 : ((y : Int) == 0) = false := by simp; omega
      have d1 : IntKind.u64.wrap ((x : Int).tmod (y : Int)) = ((x % y : Nat) : Int) := by
        obtain ⟨q1, q2, _, _⟩ := HX.out
        have := Nat.mod_lt x (show 0 < y by omega)
        rw [IntKind.wrap_u64, Int.tmod_eq_emod_of_nonneg (by omega)]
        omega
      go_wp2_with fail
      go_region
      try go_wp2_with fail
      go_roundw
      case rel =>
        obtain ⟨q1, q2, q3, q4⟩ := HX.out
        exact ⟨y, x % y, rfl, by go_num, q2, by have := Nat.mod_lt x (show 0 < y by omega); omega, by rw [← q3, Nat.gcd_comm x y, Nat.gcd_rec y x, Nat.gcd_comm], q4.trans (Up.drew _)⟩
      case measure =>
        have := Nat.mod_lt x (show 0 < y by omega)
        simp
        omega
end Go.Proofs.Ytjklaemhfhakhaa
