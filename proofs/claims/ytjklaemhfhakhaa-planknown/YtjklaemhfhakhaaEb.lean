/- Load: numbers of 128 bits; the last row. -/
import Derived.Test.YtjklaemhfhakhaaEa
namespace Go.Proofs.Ytjklaemhfhakhaa
open Go.ChangeShapes Go.WideShapes Go.ChangeAt Go.RowKit

theorem t45n (a b : Nat) (ha : a < 18446744073709551616) (hb : b < 18446744073709551616) (w : World) : Calls Try.prog 45 #[.int .u64 (a : Int), .int .u64 (b : Int)] w fun e w' => e = .returned (.tuple #[.int .u64 ((a * b / 18446744073709551616 : Nat) : Int), .int .u64 ((a * b % 18446744073709551616 : Nat) : Int)]) ∧ w' = w := by
  have := t45 (a : Int) (b : Int) (by omega) (by omega) w
  rw [show ((a : Int) * (b : Int) / 18446744073709551616) = ((a * b / 18446744073709551616 : Nat) : Int) by rw [Int.natCast_ediv, Int.natCast_mul]; rfl, show ((a : Int) * (b : Int) % 18446744073709551616) = ((a * b % 18446744073709551616 : Nat) : Int) by rw [Int.natCast_emod, Int.natCast_mul]; rfl] at this
  exact this
theorem t32 (a b : Nat) (ha : a < 18446744073709551616) (hb : b < 18446744073709551616) (w : World) : Calls Try.prog 32 #[.int .u64 (a : Int), .int .u64 (b : Int)] w (VU w (W128 (a * b))) := by
  have C : ∀ w, Hid (Calls Try.prog 45 #[.int .u64 (a : Int), .int .u64 (b : Int)] w fun e w' => e = .returned (.tuple #[.int .u64 ((a * b / 18446744073709551616 : Nat) : Int), .int .u64 ((a * b % 18446744073709551616 : Nat) : Int)]) ∧ w' = w) := fun w => t45n a b ha hb w
  show Calls Try.prog 32 _ w (VU w (.agg #[.int .u64 ((a * b / 18446744073709551616 : Nat) : Int), .int .u64 ((a * b % 18446744073709551616 : Nat) : Int)]))
  generalize ((a * b / 18446744073709551616 : Nat) : Int) = h at *
  generalize ((a * b % 18446744073709551616 : Nat) : Int) = l at *
  generalize (a : Int) = A at *
  generalize (b : Int) = B at *
  clear ha hb
  go_enter Try.func32, Try.ntmps32
  go_wp2_with (go_at_call 45; (with_reducible refine ((C _).out).mono ?_); rintro e w1 ⟨rfl, rfl⟩)
  exact bodyPost_ret (results_st Try.results32 _ _ w.heap.size _ rfl (load_wide (heap_alloc_last _ _))) rfl ⟨rfl, Up.alloc _ _⟩
theorem wide_add {A B : Nat} (h : A + B < 18446744073709551616 * 18446744073709551616) :
    (A % 18446744073709551616 + B % 18446744073709551616) % 18446744073709551616 = (A + B) % 18446744073709551616 ∧ (A / 18446744073709551616 + B / 18446744073709551616 + (A % 18446744073709551616 + B % 18446744073709551616) / 18446744073709551616) % 18446744073709551616 = (A + B) / 18446744073709551616 := by
  omega
set_option maxHeartbeats 1000000 in
theorem t33 (A B : Nat) (h : A + B < 18446744073709551616 * 18446744073709551616) (w : World) : Calls Try.prog 33 #[W128 A, W128 B] w (VU w (W128 (A + B))) := by
  obtain ⟨e1, e2⟩ := wide_add h
  have a1 : A / 18446744073709551616 < 18446744073709551616 := by omega
  have b1 : B / 18446744073709551616 < 18446744073709551616 := by omega
  have c1 : (A % 18446744073709551616 + B % 18446744073709551616) / 18446744073709551616 ≤ 1 := by omega
  show Calls Try.prog 33 #[.agg #[.int .u64 ((A / 18446744073709551616 : Nat) : Int), .int .u64 ((A % 18446744073709551616 : Nat) : Int)], .agg #[.int .u64 ((B / 18446744073709551616 : Nat) : Int), .int .u64 ((B % 18446744073709551616 : Nat) : Int)]] w (VU w (.agg #[.int .u64 (((A + B) / 18446744073709551616 : Nat) : Int), .int .u64 (((A + B) % 18446744073709551616 : Nat) : Int)]))
  rw [← e1, ← e2]
  clear e1 e2 h
  generalize A / 18446744073709551616 = ah at *
  generalize A % 18446744073709551616 = al at *
  generalize B / 18446744073709551616 = bh at *
  generalize B % 18446744073709551616 = bl at *
  have f1 : ∀ w, (callFunc 46 #[.int .u64 (al : Int), .int .u64 (bl : Int), .int .u64 0]).run Try.prog w = .ok (.value (.tuple #[.int .u64 (((al + bl) % 18446744073709551616 : Nat) : Int), .int .u64 (((al + bl) / 18446744073709551616 : Nat) : Int)])) w := fun w => call46 al bl 0 (by omega) w
  have f2 : ∀ w, (callFunc 46 #[.int .u64 (ah : Int), .int .u64 (bh : Int), .int .u64 (((al + bl) / 18446744073709551616 : Nat) : Int)]).run Try.prog w = .ok (.value (.tuple #[.int .u64 (((ah + bh + (al + bl) / 18446744073709551616) % 18446744073709551616 : Nat) : Int), .int .u64 (((ah + bh + (al + bl) / 18446744073709551616) / 18446744073709551616 : Nat) : Int)])) w := fun w => call46 ah bh _ c1 w
  generalize (((al + bl) % 18446744073709551616 : Nat) : Int) = r1 at *
  generalize (((ah + bh + (al + bl) / 18446744073709551616) % 18446744073709551616 : Nat) : Int) = r2 at *
  generalize (((ah + bh + (al + bl) / 18446744073709551616) / 18446744073709551616 : Nat) : Int) = r3 at *
  generalize (((al + bl) / 18446744073709551616 : Nat) : Int) = r4 at *
  generalize (ah : Int) = xh at *
  generalize (al : Int) = xl at *
  generalize (bh : Int) = yh at *
  generalize (bl : Int) = yl at *
  clear a1 b1 c1
  go_enter Try.func33, Try.ntmps33
  go_wp2
  refine bodyPost_ret (results_st Try.results33 _ _ (w.heap.size + 1 + 1) _ rfl (load_wide (a := r2) (b := r1) ?_)) rfl ⟨rfl, ?_⟩
  · have e := heap_alloc_last ((w.alloc (.cells #[.int .u64 xh, .int .u64 xl] 81)).alloc (.cells #[.int .u64 yh, .int .u64 yl] 81)) (.cells #[.int .u64 r2, .int .u64 r1] 81)
    simpa using e
  · exact ((Up.alloc _ _).trans (Up.alloc _ _)).trans (Up.alloc _ _)
theorem t34 (A : Nat) (w : World) : Calls Try.prog 34 #[W128 A] w (VU w (.bool (decide (4611686018427387904 < A)))) := by
  have e1 : (4611686018427387904 < A) ↔ (0 < A / 18446744073709551616 ∨ 4611686018427387904 < A % 18446744073709551616) := by omega
  show Calls Try.prog 34 #[.agg #[.int .u64 ((A / 18446744073709551616 : Nat) : Int), .int .u64 ((A % 18446744073709551616 : Nat) : Int)]] w _
  rw [show (decide (4611686018427387904 < A)) = decide (0 < A / 18446744073709551616 ∨ 4611686018427387904 < A % 18446744073709551616) by simp only [e1]]
  clear e1
  generalize A / 18446744073709551616 = h at *
  generalize A % 18446744073709551616 = l at *
  go_enter Try.func34, Try.ntmps34
  go_wp2
  all_goals (go_ret; refine ⟨?_, Up.alloc _ _⟩)
  all_goals (show Ending.returned (Value.bool _) = _; congr 2; simp_all <;> omega)
/-- The row of what is still to come. -/
def Crs.last (c : Crs) : Rw := (c.hd :: c.tl).getLast (by simp)
theorem Crs.last_at (c : Crs) : (c.hd :: c.tl)[c.tl.length]? = some c.last := by
  unfold Crs.last
  rw [List.getLast_eq_getElem]
  simp
set_option maxHeartbeats 1000000 in
theorem t30 {w : World} {L : Ly} {n : Nat} {p : Pl} (h : PW w L n p) {i : Nat} (hi : i < n) (hf : (p.c i).tl.length ≤ 1152921504606846976) : Calls Try.prog 30 #[.pointer (some ⟨L.bt, i * 2, none⟩)] w (VU w (.agg #[.int .i64 (p.c i).last.e, .int .i64 (p.c i).last.l, .int .i64 (p.c i).last.r])) := by
  have c1 := h.cr i hi
  obtain ⟨c3, c4, c5, c6⟩ := h.rw' i hi (p.c i).tl.length (p.c i).last (p.c i).last_at
  have hl := h.cap i hi
  have l1 := h.lt
  have l2 := h.lr hi
  clear h
  generalize (p.c i).last = x at *
  obtain ⟨nx, e, l, r⟩ := x
  generalize (p.c i).tl.length = T at *
  generalize L.rc i = rc at *
  generalize L.br i = g at *
  generalize L.ro i = o at *
  generalize L.bt = bt at *
  simp only at c4 c5 c6
  have d1 : (((T + 1 : Nat) : Int)) - 1 = (T : Int) := by omega
  have d2 : IntKind.i64.wrap (T : Int) = (T : Int) := by rw [IntKind.wrap_i64]; omega
  have d3 : (T : Int) < ((T + 1 : Nat) : Int) := by omega
  have d4 : (0 : Int) ≤ (T : Int) := by omega
  clear c3 hf
  obtain ⟨S, hS⟩ : ∃ S, T + 1 = S := ⟨_, rfl⟩
  rw [hS] at c1 d1 d3 hl
  clear hS
  go_enter Try.func30, Try.ntmps30
  go_wp2_with fail
  go_region
  go_wp2_with fail
  have hu : Up w (w.alloc (.cells #[.int .i64 e, .int .i64 l, .int .i64 r] 26)).drew := (Up.alloc _ _).trans (Up.drew _)
  exact bodyPost_ret (results_st Try.results30 _ _ w.heap.size _ rfl (run_loadVar_row _ w.heap.size 26 26 #[.int .i64 e, .int .i64 l, .int .i64 r] (0, 0) _ (kept2 (heap_alloc_last w _) (Up.drew _)) Try.underlying26 rfl (by kernel_rfl))) rfl ⟨rfl, hu⟩
end Go.Proofs.Ytjklaemhfhakhaa
