/- PlanNil: the walk. -/
import Derived.Test.YtjklaemhfhakhaaEg
namespace Go.Proofs.Ytjklaemhfhakhaa
open Go.ChangeShapes Go.WideShapes Go.ChangeAt Go.RowKit

theorem t18n (t0 : Int) (w : World) : Calls Try.prog 18 #[.pointer none, .int .i64 t0] w (VU w (.slice none 0 0)) := by
  go_enter Try.func18, Try.ntmps18
  go_wp2
  go_ret
  exact ⟨rfl, Up.refl _⟩
set_option maxRecDepth 20000 in
set_option maxHeartbeats 4000000 in
theorem t4 (n i e l r : Int) (w : World) : Calls Try.prog 4 #[.int .i64 n, .int .i64 i, .agg #[.int .i64 e, .int .i64 l, .int .i64 r]] w (VU w (.bool true)) := by
  have D17 : ∀ w, Hid (Calls Try.prog 17 #[.pointer none] w (VU w (.tuple #[.agg #[.int .i64 0, .int .i64 0, .int .i64 0, .bool false], .int .i64 1]))) := fun w => t17n w
  have HT : Hid (TkAt (w.alloc (.cells #[.int .i64 e, .int .i64 l, .int .i64 r] 26)) w.heap.size 0 ⟨e, l, r⟩) := by
    have e0 := heap_alloc_last w (.cells #[.int .i64 e, .int .i64 l, .int .i64 r] 26)
    exact ⟨(row_cell e0 0).1, by rw [Nat.zero_add]; exact (row_cell e0 1).1, by rw [Nat.zero_add]; exact (row_cell e0 2).1⟩
  go_enter Try.func4, Try.ntmps4
  go_wp2_with (first
    | (go_at_call 17; (with_reducible refine (D17 _).out.mono ?_); rintro e w1 ⟨rfl, HU1⟩; (have HB : Hid (SlAt (w1.alloc (.cells #[.int .i64 0, .int .i64 0, .int .i64 0, .bool false] 42)) w1.heap.size 0 Sl.zero) := by have e0 := heap_alloc_last w1 (.cells #[.int .i64 0, .int .i64 0, .int .i64 0, .bool false] 42); exact ⟨(row_cell e0 0).1, (row_cell e0 1).1, (row_cell e0 2).1, (row_cell e0 3).1⟩))
    | (go_at_call 13; (with_reducible refine (t13n _).mono ?_); rintro e w2 ⟨rfl, HU2⟩; (have HB2 := HB.out.up HU2.out); (obtain ⟨b0, b1, b2, b3⟩ := HB2); simp only [Nat.zero_add, Sl.zero] at b0 b1 b2 b3)
    | (go_at_call 18; (with_reducible refine (t18n _ _).mono ?_); rintro e w3 ⟨rfl, HU3⟩; (have HT3 := HT.out.up (HU1.out.trans ((Up.alloc _ _).trans (HU2.out.trans HU3.out)))); (obtain ⟨t0, t1, t2⟩ := HT3); simp only [Nat.zero_add] at t0 t1 t2)
    | (go_at_call 19; (with_reducible refine (t19n _ _ _ _ _).mono ?_); rintro e w4 ⟨rfl, HU4⟩)
    | (go_at_call 15; (with_reducible refine (t15n _).mono ?_); rintro e w5 ⟨rfl, hw5⟩; subst w5)
    | (go_at_call 9; (with_reducible refine (t9 _).mono ?_); rintro e w6 ⟨rfl, HU6⟩))
  go_ret
  exact ⟨rfl, (((((Up.alloc _ _).trans HU1.out).trans (Up.alloc _ _)).trans HU2.out).trans HU3.out).trans (HU4.out.trans HU6.out)⟩
end Go.Proofs.Ytjklaemhfhakhaa
