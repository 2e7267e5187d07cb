/- Load: the leaves. -/
import Derived.Test.YtjklaemhfhakhaaDc
import Derived.Laws.Bits64
import Derived.Lib.BitFns
namespace Go.Proofs.Ytjklaemhfhakhaa
open Go.ChangeShapes Go.WideShapes Go.ChangeAt Go.RowKit

theorem call46 (x y c : Nat) (hc : c ≤ 1) (w : World) : (callFunc 46 #[.int .u64 (x : Int), .int .u64 (y : Int), .int .u64 (c : Int)]).run Try.prog w = .ok (.value (.tuple #[.int .u64 (((x + y + c) % 18446744073709551616 : Nat) : Int), .int .u64 (((x + y + c) / 18446744073709551616 : Nat) : Int)])) w := by
  rw [run_callFunc_extern Try.func46 (by kernel_rfl) (by kernel_rfl) (by kernel_rfl) (e := fun args => do
    let (x, y, c) ← Extern.MathBitsCarry.three "Add64" args
    pure (Extern.MathBitsCarry.pair ((x + y + c) % Extern.MathBitsCarry.m64) ((x + y + c) / Extern.MathBitsCarry.m64))) (by kernel_rfl)]
  rcases (show c = 0 ∨ c = 1 by omega) with rfl | rfl
  · rfl
  · rfl
theorem vec_nat {a : Nat} (ha : a < 18446744073709551616) : (BitVec.ofInt 64 (a : Int)).toNat = a := by
  rw [BitVec.ofInt_natCast, BitVec.toNat_ofNat]; exact Nat.mod_eq_of_lt (by omega)
theorem and_nat (a b : Nat) (ha : a < 18446744073709551616) (hb : b < 18446744073709551616) : bits .and .u64 (a : Int) (b : Int) = ((a &&& b : Nat) : Int) := by
  have hx : a &&& b < 2 ^ 64 := Nat.and_lt_two_pow _ (by omega)
  show IntKind.u64.wrap ((BitVec.ofInt 64 (a : Int) &&& BitVec.ofInt 64 (b : Int)).toNat : Int) = _
  rw [BitVec.toNat_and, vec_nat ha, vec_nat hb, IntKind.wrap_u64]
  omega
theorem or_nat (a b : Nat) (ha : a < 18446744073709551616) (hb : b < 18446744073709551616) : bits .or .u64 (a : Int) (b : Int) = ((a ||| b : Nat) : Int) := by
  have hx : a ||| b < 2 ^ 64 := Nat.or_lt_two_pow (by omega) (by omega)
  show IntKind.u64.wrap ((BitVec.ofInt 64 (a : Int) ||| BitVec.ofInt 64 (b : Int)).toNat : Int) = _
  rw [BitVec.toNat_or, vec_nat ha, vec_nat hb, IntKind.wrap_u64]
  omega
theorem and_low {x : Int} (h : 0 ≤ x) (h1 : x < 18446744073709551616) : bits .and .u64 x 4294967295 = x % 4294967296 := by
  obtain ⟨n, rfl⟩ := Int.eq_ofNat_of_zero_le h
  have e := Nat.and_two_pow_sub_one_eq_mod n 32
  have k := and_nat n 4294967295 (by omega) (by omega)
  rw [show ((4294967295 : Nat) : Int) = 4294967295 from rfl] at k
  rw [k]
  rw [show (2 : Nat) ^ 32 - 1 = 4294967295 from rfl, show (2 : Nat) ^ 32 = 4294967296 from rfl] at e
  rw [e]
  omega
theorem or_apart {a b : Int} {k : Nat} (ha : 0 ≤ a) (hb : 0 ≤ b) (hb2 : b < 2 ^ k) (h : a * 2 ^ k + b < 18446744073709551616) : bits .or .u64 (a * 2 ^ k) b = a * 2 ^ k + b := by
  obtain ⟨m, rfl⟩ := Int.eq_ofNat_of_zero_le ha
  obtain ⟨n, rfl⟩ := Int.eq_ofNat_of_zero_le hb
  have hn : n < 2 ^ k := by exact_mod_cast hb2
  have e := Nat.two_pow_add_eq_or_of_lt hn m
  have c : (((m * 2 ^ k : Nat)) : Int) = (m : Int) * 2 ^ k := by simp
  have h' : m * 2 ^ k + n < 18446744073709551616 := by
    have : ((m * 2 ^ k : Nat) : Int) + n < 18446744073709551616 := by rw [c]; exact h
    omega
  have k1 := or_nat (m * 2 ^ k) n (by omega) (by omega)
  rw [Nat.mul_comm] at e
  rw [← e] at k1
  rw [c] at k1
  rw [k1]
  simp
set_option maxHeartbeats 1000000 in
theorem t45 (x y : Int) (hx : 0 ≤ x ∧ x < 18446744073709551616) (hy : 0 ≤ y ∧ y < 18446744073709551616) (w : World) : Calls Try.prog 45 #[.int .u64 x, .int .u64 y] w fun e w' => e = .returned (.tuple #[.int .u64 (x * y / 18446744073709551616), .int .u64 (x * y % 18446744073709551616)]) ∧ w' = w := by
  obtain ⟨xh, hxh⟩ : ∃ t, x / 4294967296 = t := ⟨_, rfl⟩
  obtain ⟨xl, hxl⟩ : ∃ t, x % 4294967296 = t := ⟨_, rfl⟩
  obtain ⟨yh, hyh⟩ : ∃ t, y / 4294967296 = t := ⟨_, rfl⟩
  obtain ⟨yl, hyl⟩ : ∃ t, y % 4294967296 = t := ⟨_, rfl⟩
  have hbx := and_low hx.1 hx.2
  have hby := and_low hy.1 hy.2
  rw [hxl] at hbx
  rw [hyl] at hby
  have bx : 0 ≤ xh ∧ xh ≤ 4294967295 ∧ 0 ≤ xl ∧ xl ≤ 4294967295 := by omega
  have bY : 0 ≤ yh ∧ yh ≤ 4294967295 ∧ 0 ≤ yl ∧ yl ≤ 4294967295 := by omega
  have prod : ∀ u v : Int, (0 ≤ u ∧ u ≤ 4294967295) → (0 ≤ v ∧ v ≤ 4294967295) → 0 ≤ u * v ∧ u * v ≤ 18446744065119617025 := by
    intro u v hu hv
    refine ⟨Int.mul_nonneg hu.1 hv.1, ?_⟩
    have := Int.mul_le_mul hu.2 hv.2 hv.1 (by omega)
    omega
  have q0 := prod xl yl (by omega) (by omega)
  have q1 := prod xh yl (by omega) (by omega)
  have q2 := prod xl yh (by omega) (by omega)
  have q3 := prod xh yh (by omega) (by omega)
  have exy : x * y = xh * yh * 18446744073709551616 + (xh * yl + xl * yh) * 4294967296 + xl * yl := by
    have ex : x = xh * 4294967296 + xl := by omega
    have ey : y = yh * 4294967296 + yl := by omega
    rw [ex, ey]; grind
  obtain ⟨P, hP⟩ : ∃ t, x * y = t := ⟨_, rfl⟩
  obtain ⟨p0, h0⟩ : ∃ t, xl * yl = t := ⟨_, rfl⟩
  obtain ⟨p1, h1⟩ : ∃ t, xh * yl = t := ⟨_, rfl⟩
  obtain ⟨p2, h2⟩ : ∃ t, xl * yh = t := ⟨_, rfl⟩
  obtain ⟨p3, h3⟩ : ∃ t, xh * yh = t := ⟨_, rfl⟩
  rw [hP, h0, h1, h2, h3] at exy
  rw [h0] at q0; rw [h1] at q1; rw [h2] at q2; rw [h3] at q3
  have hbt := and_low (show 0 ≤ p1 + p0 / 4294967296 by omega) (by omega)
  have hwP := IntKind.wrap_u64 P
  have HE : Hid (P = p3 * 18446744073709551616 + (p1 + p2) * 4294967296 + p0) := exy
  clear prod exy
  rw [hP]
  go_enter Try.func45, Try.ntmps45
  go_wp2
  go_ret2
  have he := HE.out
  have e1 : p3 + (p1 + p0 / 4294967296) / 4294967296 + ((p1 + p0 / 4294967296) % 4294967296 + p2) / 4294967296 = P / 18446744073709551616 := by omega
  refine ⟨?_, rfl⟩
  rw [e1]
  rfl

/-- A number of 128 bits. -/
def W128 (A : Nat) : Value := .agg #[.int .u64 ((A / 18446744073709551616 : Nat) : Int), .int .u64 ((A % 18446744073709551616 : Nat) : Int)]
theorem load_wide {w : World} {g : Nat} {a b : Int} (h : w.heap[g]? = some (.cells #[.int .u64 a, .int .u64 b] 81 (0, 0))) : (loadVar 81 ⟨g, 0, none⟩).run Try.prog w = .ok (.agg #[.int .u64 a, .int .u64 b]) w :=
  run_loadVar_row w g 81 81 _ (0, 0) _ h Try.underlying81 rfl (by kernel_rfl)
set_option maxHeartbeats 1000000 in
theorem t31 (a b : Nat) (ha : a < 18446744073709551616) (hb : b < 18446744073709551616) (w : World) : Calls Try.prog 31 #[.int .u64 (a : Int), .int .u64 (b : Int)] w (VU w (.int .u64 (Nat.gcd a b : Int))) := by
  have HB : Hid (a < 18446744073709551616 ∧ b < 18446744073709551616) := ⟨ha, hb⟩
  clear ha hb
  go_enter Try.func31, Try.ntmps31
  go_wp2_with fail
  go_loopw [0, 1] (fun v0 v1 wr => ∃ x y : Nat, v0 = .int .u64 (x : Int) ∧ v1 = .int .u64 (y : Int) ∧ Hid (x < 18446744073709551616 ∧ y < 18446744073709551616 ∧ Nat.gcd x y = Nat.gcd a b ∧ Up w wr)) (fun _ v1 _ => (match v1 with | .int _ z => z.toNat | _ => 0))
  case atStart => exact ⟨a, b, rfl, rfl, HB.out.1, HB.out.2, rfl, Up.refl _⟩
  case round =>
    obtain ⟨x, y, rfl, rfl, HX⟩ := hrel
    rename World => wr
    by_cases hy : y = 0
    · subst hy
      go_wp2
      go_ret
      obtain ⟨q1, q2, q3, q4⟩ := HX.out
      refine ⟨?_, q4⟩
      rw [Nat.gcd_zero_right] at q3
      rw [← q3]
      rfl
    · have y0 : (0 : Int) < (y : Int) := by omega
      have y1 : ¬ (y : Int) = 0 := by omega
      have y2 : ((y : Int) == 0) = false := by simp; omega
      have d1 : IntKind.u64.wrap ((x : Int).tmod (y : Int)) = ((x % y : Nat) : Int) := by
        obtain ⟨q1, q2, _, _⟩ := HX.out
        have := Nat.mod_lt x (show 0 < y by omega)
        rw [IntKind.wrap_u64, Int.tmod_eq_emod_of_nonneg (by omega)]
        omega
      go_wp2_with fail
      go_region
      try go_wp2_with fail
      go_roundw
      case rel =>
        obtain ⟨q1, q2, q3, q4⟩ := HX.out
        exact ⟨y, x % y, rfl, by go_num, q2, by have := Nat.mod_lt x (show 0 < y by omega); omega, by rw [← q3, Nat.gcd_comm x y, Nat.gcd_rec y x, Nat.gcd_comm], q4.trans (Up.drew _)⟩
      case measure =>
        have := Nat.mod_lt x (show 0 < y by omega)
        simp
        omega
end Go.Proofs.Ytjklaemhfhakhaa
/- Load: numbers of 128 bits; the last row. -/
namespace Go.Proofs.Ytjklaemhfhakhaa
open Go.ChangeShapes Go.WideShapes Go.ChangeAt Go.RowKit

theorem t45n (a b : Nat) (ha : a < 18446744073709551616) (hb : b < 18446744073709551616) (w : World) : Calls Try.prog 45 #[.int .u64 (a : Int), .int .u64 (b : Int)] w fun e w' => e = .returned (.tuple #[.int .u64 ((a * b / 18446744073709551616 : Nat) : Int), .int .u64 ((a * b % 18446744073709551616 : Nat) : Int)]) ∧ w' = w := by
  have := t45 (a : Int) (b : Int) (by omega) (by omega) w
  rw [show ((a : Int) * (b : Int) / 18446744073709551616) = ((a * b / 18446744073709551616 : Nat) : Int) by rw [Int.natCast_ediv, Int.natCast_mul]; rfl, show ((a : Int) * (b : Int) % 18446744073709551616) = ((a * b % 18446744073709551616 : Nat) : Int) by rw [Int.natCast_emod, Int.natCast_mul]; rfl] at this
  exact this
theorem t32 (a b : Nat) (ha : a < 18446744073709551616) (hb : b < 18446744073709551616) (w : World) : Calls Try.prog 32 #[.int .u64 (a : Int), .int .u64 (b : Int)] w (VU w (W128 (a * b))) := by
  have C : ∀ w, Hid (Calls Try.prog 45 #[.int .u64 (a : Int), .int .u64 (b : Int)] w fun e w' => e = .returned (.tuple #[.int .u64 ((a * b / 18446744073709551616 : Nat) : Int), .int .u64 ((a * b % 18446744073709551616 : Nat) : Int)]) ∧ w' = w) := fun w => t45n a b ha hb w
  show Calls Try.prog 32 _ w (VU w (.agg #[.int .u64 ((a * b / 18446744073709551616 : Nat) : Int), .int .u64 ((a * b % 18446744073709551616 : Nat) : Int)]))
  generalize ((a * b / 18446744073709551616 : Nat) : Int) = h at *
  generalize ((a * b % 18446744073709551616 : Nat) : Int) = l at *
  generalize (a : Int) = A at *
  generalize (b : Int) = B at *
  clear ha hb
  go_enter Try.func32, Try.ntmps32
  go_wp2_with (go_at_call 45; (with_reducible refine ((C _).out).mono ?_); rintro e w1 ⟨rfl, rfl⟩)
  exact bodyPost_ret (results_st Try.results32 _ _ w.heap.size _ rfl (load_wide (heap_alloc_last _ _))) rfl ⟨rfl, Up.alloc _ _⟩
theorem wide_add {A B : Nat} (h : A + B < 18446744073709551616 * 18446744073709551616) :
    (A % 18446744073709551616 + B % 18446744073709551616) % 18446744073709551616 = (A + B) % 18446744073709551616 ∧ (A / 18446744073709551616 + B / 18446744073709551616 + (A % 18446744073709551616 + B % 18446744073709551616) / 18446744073709551616) % 18446744073709551616 = (A + B) / 18446744073709551616 := by
  omega
set_option maxHeartbeats 1000000 in
theorem t33 (A B : Nat) (h : A + B < 18446744073709551616 * 18446744073709551616) (w : World) : Calls Try.prog 33 #[W128 A, W128 B] w (VU w (W128 (A + B))) := by
  obtain ⟨e1, e2⟩ := wide_add h
  have a1 : A / 18446744073709551616 < 18446744073709551616 := by omega
  have b1 : B / 18446744073709551616 < 18446744073709551616 := by omega
  have c1 : (A % 18446744073709551616 + B % 18446744073709551616) / 18446744073709551616 ≤ 1 := by omega
  show Calls Try.prog 33 #[.agg #[.int .u64 ((A / 18446744073709551616 : Nat) : Int), .int .u64 ((A % 18446744073709551616 : Nat) : Int)], .agg #[.int .u64 ((B / 18446744073709551616 : Nat) : Int), .int .u64 ((B % 18446744073709551616 : Nat) : Int)]] w (VU w (.agg #[.int .u64 (((A + B) / 18446744073709551616 : Nat) : Int), .int .u64 (((A + B) % 18446744073709551616 : Nat) : Int)]))
  rw [← e1, ← e2]
  clear e1 e2 h
  generalize A / 18446744073709551616 = ah at *
  generalize A % 18446744073709551616 = al at *
  generalize B / 18446744073709551616 = bh at *
  generalize B % 18446744073709551616 = bl at *
  have f1 : ∀ w, (callFunc 46 #[.int .u64 (al : Int), .int .u64 (bl : Int), .int .u64 0]).run Try.prog w = .ok (.value (.tuple #[.int .u64 (((al + bl) % 18446744073709551616 : Nat) : Int), .int .u64 (((al + bl) / 18446744073709551616 : Nat) : Int)])) w := fun w => call46 al bl 0 (by omega) w
  have f2 : ∀ w, (callFunc 46 #[.int .u64 (ah : Int), .int .u64 (bh : Int), .int .u64 (((al + bl) / 18446744073709551616 : Nat) : Int)]).run Try.prog w = .ok (.value (.tuple #[.int .u64 (((ah + bh + (al + bl) / 18446744073709551616) % 18446744073709551616 : Nat) : Int), .int .u64 (((ah + bh + (al + bl) / 18446744073709551616) / 18446744073709551616 : Nat) : Int)])) w := fun w => call46 ah bh _ c1 w
  generalize (((al + bl) % 18446744073709551616 : Nat) : Int) = r1 at *
  generalize (((ah + bh + (al + bl) / 18446744073709551616) % 18446744073709551616 : Nat) : Int) = r2 at *
  generalize (((ah + bh + (al + bl) / 18446744073709551616) / 18446744073709551616 : Nat) : Int) = r3 at *
  generalize (((al + bl) / 18446744073709551616 : Nat) : Int) = r4 at *
  generalize (ah : Int) = xh at *
  generalize (al : Int) = xl at *
  generalize (bh : Int) = yh at *
  generalize (bl : Int) = yl at *
  clear a1 b1 c1
  go_enter Try.func33, Try.ntmps33
  go_wp2
  refine bodyPost_ret (results_st Try.results33 _ _ (w.heap.size + 1 + 1) _ rfl (load_wide (a := r2) (b := r1) ?_)) rfl ⟨rfl, ?_⟩
  · have e := heap_alloc_last ((w.alloc (.cells #[.int .u64 xh, .int .u64 xl] 81)).alloc (.cells #[.int .u64 yh, .int .u64 yl] 81)) (.cells #[.int .u64 r2, .int .u64 r1] 81)
    simpa using e
  · exact ((Up.alloc _ _).trans (Up.alloc _ _)).trans (Up.alloc _ _)
theorem t34 (A : Nat) (w : World) : Calls Try.prog 34 #[W128 A] w (VU w (.bool (decide (4611686018427387904 < A)))) := by
  have e1 : (4611686018427387904 < A) ↔ (0 < A / 18446744073709551616 ∨ 4611686018427387904 < A % 18446744073709551616) := by omega
  show Calls Try.prog 34 #[.agg #[.int .u64 ((A / 18446744073709551616 : Nat) : Int), .int .u64 ((A % 18446744073709551616 : Nat) : Int)]] w _
  rw [show (decide (4611686018427387904 < A)) = decide (0 < A / 18446744073709551616 ∨ 4611686018427387904 < A % 18446744073709551616) by simp only [e1]]
  clear e1
  generalize A / 18446744073709551616 = h at *
  generalize A % 18446744073709551616 = l at *
  go_enter Try.func34, Try.ntmps34
  go_wp2
  all_goals (go_ret; refine ⟨?_, Up.alloc _ _⟩)
  all_goals (show Ending.returned (Value.bool _) = _; congr 2; simp_all <;> omega)
/-- The row of what is still to come. -/
def Crs.last (c : Crs) : Rw := (c.hd :: c.tl).getLast (by simp)
theorem Crs.last_at (c : Crs) : (c.hd :: c.tl)[c.tl.length]? = some c.last := by
  unfold Crs.last
  rw [List.getLast_eq_getElem]
  simp
set_option maxHeartbeats 1000000 in
theorem t30 {w : World} {L : Ly} {n : Nat} {p : Pl} (h : PW w L n p) {i : Nat} (hi : i < n) (hf : (p.c i).tl.length ≤ 1152921504606846976) : Calls Try.prog 30 #[.pointer (some ⟨L.bt, i * 2, none⟩)] w (VU w (.agg #[.int .i64 (p.c i).last.e, .int .i64 (p.c i).last.l, .int .i64 (p.c i).last.r])) := by
  have c1 := h.cr i hi
  obtain ⟨c3, c4, c5, c6⟩ := h.rw' i hi (p.c i).tl.length (p.c i).last (p.c i).last_at
  have hl := h.cap i hi
  have l1 := h.lt
  have l2 := h.lr hi
  clear h
  generalize (p.c i).last = x at *
  obtain ⟨nx, e, l, r⟩ := x
  generalize (p.c i).tl.length = T at *
  generalize L.rc i = rc at *
  generalize L.br i = g at *
  generalize L.ro i = o at *
  generalize L.bt = bt at *
  simp only at c4 c5 c6
  have d1 : (((T + 1 : Nat) : Int)) - 1 = (T : Int) := by omega
  have d2 : IntKind.i64.wrap (T : Int) = (T : Int) := by rw [IntKind.wrap_i64]; omega
  have d3 : (T : Int) < ((T + 1 : Nat) : Int) := by omega
  have d4 : (0 : Int) ≤ (T : Int) := by omega
  clear c3 hf
  obtain ⟨S, hS⟩ : ∃ S, T + 1 = S := ⟨_, rfl⟩
  rw [hS] at c1 d1 d3 hl
  clear hS
  go_enter Try.func30, Try.ntmps30
  go_wp2_with fail
  go_region
  go_wp2_with fail
  have hu : Up w (w.alloc (.cells #[.int .i64 e, .int .i64 l, .int .i64 r] 26)).drew := (Up.alloc _ _).trans (Up.drew _)
  exact bodyPost_ret (results_st Try.results30 _ _ w.heap.size _ rfl (run_loadVar_row _ w.heap.size 26 26 #[.int .i64 e, .int .i64 l, .int .i64 r] (0, 0) _ (kept2 (heap_alloc_last w _) (Up.drew _)) Try.underlying26 rfl (by kernel_rfl))) rfl ⟨rfl, hu⟩
end Go.Proofs.Ytjklaemhfhakhaa
/- Load: one task more. -/
namespace Go.Proofs.Ytjklaemhfhakhaa
open Go.ChangeShapes Go.WideShapes Go.ChangeAt Go.RowKit

def loadS (n d e l : Nat) : Option (Nat × Nat) :=
  let g := Nat.gcd d e
  let N := n * (e / g) + l * (d / g)
  let D := d / g * e
  if 4611686018427387904 < N ∨ 4611686018427387904 < D then none else some (N / Nat.gcd N D, D / Nat.gcd N D)
/-- The load of k tasks; none: its numbers run too high. -/
def loadN (E L : Nat → Nat) : Nat → Option (Nat × Nat)
  | 0 => some (0, 1)
  | k + 1 => match loadN E L k with
    | none => none
    | some (n, d) => loadS n d (E k) (L k)
/-- What a round of Load does, in letters. -/
structure LF (n d e l : Nat) (g q1 q2 a1 a2 b1 b2 s1 s2 d1 d2 : Int) (up dn : Bool) : Prop where
  cg : ∀ w, Calls Try.prog 31 #[.int .u64 d, .int .u64 e] w (VU w (.int .u64 g))
  g0 : 0 < g
  x1 : IntKind.u64.wrap ((e : Int).tdiv g) = q1
  x2 : IntKind.u64.wrap ((d : Int).tdiv g) = q2
  c1 : ∀ w, Calls Try.prog 32 #[.int .u64 n, .int .u64 q1] w (VU w (.agg #[.int .u64 a1, .int .u64 a2]))
  c2 : ∀ w, Calls Try.prog 32 #[.int .u64 l, .int .u64 q2] w (VU w (.agg #[.int .u64 b1, .int .u64 b2]))
  c3 : ∀ w, Calls Try.prog 33 #[.agg #[.int .u64 a1, .int .u64 a2], .agg #[.int .u64 b1, .int .u64 b2]] w (VU w (.agg #[.int .u64 s1, .int .u64 s2]))
  c4 : ∀ w, Calls Try.prog 32 #[.int .u64 q2, .int .u64 e] w (VU w (.agg #[.int .u64 d1, .int .u64 d2]))
  c5 : ∀ w, Calls Try.prog 34 #[.agg #[.int .u64 s1, .int .u64 s2]] w (VU w (.bool up))
  c6 : ∀ w, Calls Try.prog 34 #[.agg #[.int .u64 d1, .int .u64 d2]] w (VU w (.bool dn))
  bad : up = true ∨ dn = true → loadS n d e l = none
  ok : up = false → dn = false → ∃ n' d' : Nat, ∃ h : Int, loadS n d e l = some (n', d') ∧ n' ≤ 4611686018427387904 ∧ 1 ≤ d' ∧ d' ≤ 4611686018427387904 ∧ 0 < h ∧ (∀ w, Calls Try.prog 31 #[.int .u64 s2, .int .u64 d2] w (VU w (.int .u64 h))) ∧ IntKind.u64.wrap (s2.tdiv h) = (n' : Int) ∧ IntKind.u64.wrap (d2.tdiv h) = (d' : Int)
theorem tdiv_nat {a b : Nat} (ha : a < 18446744073709551616) : IntKind.u64.wrap ((a : Int).tdiv (b : Int)) = ((a / b : Nat) : Int) := by
  have h := Nat.div_le_self a b
  rw [Int.tdiv_eq_ediv_of_nonneg (by omega), ← Int.natCast_ediv, IntKind.wrap_u64]
  generalize a / b = q at *
  omega
theorem load_facts {n d e l : Nat} (hn : n ≤ 4611686018427387904) (hd0 : 1 ≤ d) (hd : d ≤ 4611686018427387904) (he0 : 1 ≤ e) (he : e ≤ 1099511627776) (hl : l ≤ 1099511627776) :
    ∃ g q1 q2 a1 a2 b1 b2 s1 s2 d1 d2 up dn, LF n d e l g q1 q2 a1 a2 b1 b2 s1 s2 d1 d2 up dn := by
  have g0 : 0 < Nat.gcd d e := Nat.gcd_pos_of_pos_left _ hd0
  have p1 := Nat.div_le_self e (Nat.gcd d e)
  have p2 := Nat.div_le_self d (Nat.gcd d e)
  have r1 : 0 < d / Nat.gcd d e := Nat.div_pos (Nat.le_of_dvd hd0 (Nat.gcd_dvd_left _ _)) g0
  generalize hg : Nat.gcd d e = g at *
  generalize hq1 : e / g = q1 at *
  generalize hq2 : d / g = q2 at *
  have m1 : n * q1 ≤ 4611686018427387904 * 1099511627776 := Nat.mul_le_mul hn (by omega)
  have m2 : l * q2 ≤ 1099511627776 * 4611686018427387904 := Nat.mul_le_mul hl (by omega)
  have m3 : q2 * e ≤ 4611686018427387904 * 1099511627776 := Nat.mul_le_mul (by omega) he
  have hS : loadS n d e l = if 4611686018427387904 < n * q1 + l * q2 ∨ 4611686018427387904 < q2 * e then none else some ((n * q1 + l * q2) / Nat.gcd (n * q1 + l * q2) (q2 * e), q2 * e / Nat.gcd (n * q1 + l * q2) (q2 * e)) := by
    unfold loadS
    simp only [hg, hq1, hq2]
  have mD : 0 < q2 * e := Nat.mul_pos r1 he0
  generalize hN : n * q1 + l * q2 = N at *
  generalize hD : q2 * e = D at *
  refine ⟨g, q1, q2, (n * q1 / 18446744073709551616 : Nat), (n * q1 % 18446744073709551616 : Nat), (l * q2 / 18446744073709551616 : Nat), (l * q2 % 18446744073709551616 : Nat), (N / 18446744073709551616 : Nat), (N % 18446744073709551616 : Nat), (D / 18446744073709551616 : Nat), (D % 18446744073709551616 : Nat), decide (4611686018427387904 < N), decide (4611686018427387904 < D), ?_⟩
  refine ⟨fun w => ?_, by omega, ?_, ?_, fun w => t32 n q1 (by omega) (by omega) w, fun w => t32 l q2 (by omega) (by omega) w, fun w => ?_, fun w => ?_, fun w => t34 N w, fun w => t34 D w, fun q => ?_, fun q1' q2' => ?_⟩
  · rw [← hg]; exact t31 d e (by omega) (by omega) w
  · rw [← hq1]; exact tdiv_nat (by omega)
  · rw [← hq2]; exact tdiv_nat (by omega)
  · have := t33 (n * q1) (l * q2) (by omega) w
    rw [hN] at this
    exact this
  · have := t32 q2 e (by omega) (by omega) w
    rw [hD] at this
    exact this
  · rw [hS, if_pos (by simpa using q)]
  · simp only [decide_eq_false_iff_not] at q1' q2'
    have k1 : N % 18446744073709551616 = N := Nat.mod_eq_of_lt (by omega)
    have k2 : D % 18446744073709551616 = D := Nat.mod_eq_of_lt (by omega)
    have h0 : 0 < Nat.gcd N D := Nat.gcd_pos_of_pos_right _ mD
    rw [k1, k2]
    refine ⟨N / Nat.gcd N D, D / Nat.gcd N D, (Nat.gcd N D : Nat), ?_, ?_, ?_, ?_, by omega, fun w => t31 N D (by omega) (by omega) w, tdiv_nat (by omega), tdiv_nat (by omega)⟩
    · rw [hS, if_neg (by omega)]
    · have := Nat.div_le_self N (Nat.gcd N D); omega
    · exact Nat.div_pos (Nat.le_of_dvd mD (Nat.gcd_dvd_right _ _)) h0
    · have := Nat.div_le_self D (Nat.gcd N D); omega
end Go.Proofs.Ytjklaemhfhakhaa
