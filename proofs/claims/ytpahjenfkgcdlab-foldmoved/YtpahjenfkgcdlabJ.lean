/- What the document says of a few remainders. -/
import Derived.Test.YtpahjenfkgcdlabI
namespace Go.Proofs.Ytpahjenfkgcdlab
open Go.ChangeShapes Go.WideShapes Go.ChangeAt Go.RowKit

theorem IR.new (w : World) (L : List Int) : IR (w.alloc (.cells (L.map (Value.int .i64)).toArray 2)) (some ⟨w.heap.size, 0, none⟩) L.length (fun i => L[i]!) := by
  intro i hi
  refine ⟨w.heap.size, 0, rfl, ?_⟩
  unfold World.cell?
  rw [heap_alloc_last]
  simp [hi]
def F232 : Nat → Int := fun i => ([2, 3, 2] : List Int)[i]!
def F357 : Nat → Int := fun i => ([3, 5, 7] : List Int)[i]!
def F23 : Nat → Int := fun i => ([2, 3] : List Int)[i]!
def F57 : Nat → Int := fun i => ([5, 7] : List Int)[i]!
theorem join23 : joinT F232 F357 3 3 = (23, 105, 0) := by
  have hF : ∀ j, j < 3 → 1 ≤ F357 j ∧ F357 j ≤ 4096 := fun j hj => by
    rcases (show j = 0 ∨ j = 1 ∨ j = 2 by omega) with rfl | rfl | rfl <;> decide
  obtain ⟨all, h1, h2⟩ := join_of F232 F357 23 3 hF (by omega) (fun j hj => by
    rcases (show j = 0 ∨ j = 1 ∨ j = 2 by omega) with rfl | rfl | rfl <;> decide)
  obtain ⟨hJ, _⟩ := join_inv _ _ _ _ _ h1
  have d0 : (3 : Int) ∣ all := hJ.dv 0 (by omega)
  have d1 : (5 : Int) ∣ all := hJ.dv 1 (by omega)
  have d2 : (7 : Int) ∣ all := hJ.dv 2 (by omega)
  have hl := hJ.least 105 (fun j hj => by
    rcases (show j = 0 ∨ j = 1 ∨ j = 2 by omega) with rfl | rfl | rfl <;> decide)
  have hle := Int.le_of_dvd (by decide) hl
  have h0 := hJ.one
  obtain rfl : all = 105 := by omega
  show (if min 3 3 ≤ 8 then joinF F232 F357 (min 3 3) else _) = _
  rw [if_pos (by decide)]
  rw [show min 3 3 = 3 from rfl, h1]
  decide
theorem gcd12 : eucl 12 1 0 18 0 1 = (6, -1, 1) := by
  rw [eucl_step (by decide), show ((12 : Int) - 12 / 18 * 18) = 12 by decide, show ((1 : Int) - 12 / 18 * 0) = 1 by decide, show ((0 : Int) - 12 / 18 * 1) = 0 by decide]
  rw [eucl_step (by decide), show ((18 : Int) - 18 / 12 * 12) = 6 by decide, show ((0 : Int) - 18 / 12 * 1) = -1 by decide, show ((1 : Int) - 18 / 12 * 0) = 1 by decide]
  rw [eucl_step (by decide), show ((12 : Int) - 12 / 6 * 6) = 0 by decide]
  rw [eucl_zero]
theorem near17 : nears F23 F57 2 0 40 = [17] := by decide +kernel
theorem code40 : ringsC F57 2 2 (decide ((0 : Int) < 0) || decide ((40 : Int) < 0)) 40 = 0 := by decide
theorem code12 : ringsC F57 2 2 (decide ((12 : Int) < 1)) 12 = 0 := by decide
theorem best2 {y : Int} (h : Bst (fun x => worst F23 F57 x 2) 12 y) : y = 2 ∧ worst F23 F57 y 2 = 1 := by
  obtain ⟨h0, h1, h2, h3⟩ := h
  have w2 : worst F23 F57 2 2 = 1 := by decide
  have hy : y = 2 := by
    have k2 := h2 2 (by omega) (by omega)
    simp only [w2] at k2
    rcases (show y = 0 ∨ y = 1 ∨ y = 2 ∨ y = 3 ∨ y = 4 ∨ y = 5 ∨ y = 6 ∨ y = 7 ∨ y = 8 ∨ y = 9 ∨ y = 10 ∨ y = 11 by omega) with rfl | rfl | rfl | rfl | rfl | rfl | rfl | rfl | rfl | rfl | rfl | rfl
    · exact absurd k2 (by decide)
    · exact absurd k2 (by decide)
    · rfl
    all_goals
      have k3 := h3 2 (by omega) (by omega)
      simp only [w2] at k3
      exact absurd k3 (by decide)
  subst hy
  exact ⟨rfl, w2⟩
theorem c13 (w : World) : Calls Try.prog 13 #[.slice (some ⟨w.heap.size, 0, none⟩) 3 3, .slice (some ⟨w.heap.size + 1, 0, none⟩) 3 3] ((w.alloc (.cells #[.int .i64 2, .int .i64 3, .int .i64 2] 2)).alloc (.cells #[.int .i64 3, .int .i64 5, .int .i64 7] 2)) fun e w' => e = .returned (.tuple #[.int .i64 23, .int .i64 105, .int .i64 0]) ∧ Hid (Up w w') := by
  have h1 : IR ((w.alloc (.cells #[.int .i64 2, .int .i64 3, .int .i64 2] 2)).alloc (.cells #[.int .i64 3, .int .i64 5, .int .i64 7] 2)) (some ⟨w.heap.size, 0, none⟩) 3 F232 := (IR.new w [2, 3, 2]).up (Up.alloc _ _)
  have h2 : IR ((w.alloc (.cells #[.int .i64 2, .int .i64 3, .int .i64 2] 2)).alloc (.cells #[.int .i64 3, .int .i64 5, .int .i64 7] 2)) (some ⟨w.heap.size + 1, 0, none⟩) 3 F357 := by
    have := IR.new (w.alloc (.cells #[.int .i64 2, .int .i64 3, .int .i64 2] 2)) [3, 5, 7]
    simp only [World.alloc, Array.size_push] at this
    exact this
  have := t13 (some ⟨w.heap.size, 0, none⟩) (some ⟨w.heap.size + 1, 0, none⟩) 3 3 3 3 F232 F357 _ h1 h2
  rw [join23] at this
  exact this.mono fun e w' h => ⟨h.1, ((Up.alloc _ _).trans (Up.alloc _ _)).trans h.2.out⟩
theorem two_lists (w : World) : IR ((w.alloc (.cells #[.int .i64 2, .int .i64 3] 2)).alloc (.cells #[.int .i64 5, .int .i64 7] 2)) (some ⟨w.heap.size, 0, none⟩) 2 F23 ∧ IR ((w.alloc (.cells #[.int .i64 2, .int .i64 3] 2)).alloc (.cells #[.int .i64 5, .int .i64 7] 2)) (some ⟨w.heap.size + 1, 0, none⟩) 2 F57 := by
  refine ⟨(IR.new w [2, 3]).up (Up.alloc _ _), ?_⟩
  have := IR.new (w.alloc (.cells #[.int .i64 2, .int .i64 3] 2)) [5, 7]
  simp only [World.alloc, Array.size_push] at this
  exact this
theorem c9 (w : World) : Calls Try.prog 14 #[.int .i64 12, .int .i64 18] w fun e w' => e = .returned (.tuple #[.int .i64 6, .int .i64 (-1), .int .i64 1, .int .i64 0]) ∧ Hid (Up w w') := by
  have := t14 12 18 (by omega) (by omega) (by omega) (by omega) w
  rw [gcd12] at this
  exact this
theorem c18 (w : World) : Calls Try.prog 6 #[.slice (some ⟨w.heap.size, 0, none⟩) 2 2, .slice (some ⟨w.heap.size + 1, 0, none⟩) 2 2, .int .i64 0, .int .i64 40] ((w.alloc (.cells #[.int .i64 2, .int .i64 3] 2)).alloc (.cells #[.int .i64 5, .int .i64 7] 2)) fun e w' => ∃ g cap, e = .returned (.tuple #[.slice (some ⟨g, 0, none⟩) 1 cap, .int .i64 0]) ∧ Hid (Up w w') ∧ w'.cell? ⟨g, 0, none⟩ = some (.int .i64 17) := by
  obtain ⟨h1, h2⟩ := two_lists w
  have := t6 (some ⟨w.heap.size, 0, none⟩) (some ⟨w.heap.size + 1, 0, none⟩) 2 2 2 2 F23 F57 0 40 _ h1 h2 (by omega)
  rw [code40] at this
  refine this.mono fun e w' h => ?_
  obtain ⟨hu, h⟩ := h
  have hc : nearC 0 F23 F57 (min 2 2) 0 40 = 0 := by
    unfold nearC
    rw [show min 2 2 = 2 from rfl, near17]; rfl
  rcases h with ⟨h, _⟩ | ⟨_, v, rfl, ho⟩
  · exact absurd hc h
  · rw [show min 2 2 = 2 from rfl, near17] at ho
    obtain ⟨p, cap, rfl, hp⟩ := own_form ho.out
    obtain ⟨g, rfl⟩ := hp (by decide)
    exact ⟨g, cap, rfl, ((Up.alloc _ _).trans (Up.alloc _ _)).trans hu.out, ho.out.cell (i := 0) (by decide)⟩
theorem c20 (w : World) : Calls Try.prog 8 #[.slice (some ⟨w.heap.size, 0, none⟩) 2 2, .slice (some ⟨w.heap.size + 1, 0, none⟩) 2 2, .int .i64 12] ((w.alloc (.cells #[.int .i64 2, .int .i64 3] 2)).alloc (.cells #[.int .i64 5, .int .i64 7] 2)) fun e w' => e = .returned (.tuple #[.int .i64 2, .int .i64 1, .int .i64 0]) ∧ Hid (Up w w') := by
  obtain ⟨h1, h2⟩ := two_lists w
  have := t8 (some ⟨w.heap.size, 0, none⟩) (some ⟨w.heap.size + 1, 0, none⟩) 2 2 2 2 F23 F57 12 _ h1 h2
  rw [code12] at this
  refine this.mono fun e w' h => ?_
  obtain ⟨hu, h⟩ := h
  rcases h with ⟨h, _⟩ | ⟨_, y, rfl, hb⟩
  · exact absurd rfl h
  · obtain ⟨rfl, hw⟩ := best2 hb.out
    exact ⟨by rw [show min 2 2 = 2 from rfl, hw], ((Up.alloc _ _).trans (Up.alloc _ _)).trans hu.out⟩
/-- True, and of what was there nothing has turned. -/
def TU (w : World) (e : Ending) (w' : World) : Prop := e = .returned (.bool true) ∧ Hid (Up w w')
set_option maxHeartbeats 1000000 in
theorem t9 (w : World) : Calls Try.prog 9 #[] w (TU w) := by
  go_enter Try.func9, Try.ntmps9
  go_wp2_with (first
    | (go_at_call 13; (with_reducible refine (c13 _).mono ?_); rintro e w1 ⟨rfl, HU1⟩)
    | (go_at_call 14; (with_reducible refine (c9 _).mono ?_); rintro e w2 ⟨rfl, HU2⟩)
    | (go_at_call 6; (with_reducible refine (c18 _).mono ?_); rintro e w3 ⟨g, cap, rfl, HU3, cl⟩)
    | (go_at_call 8; (with_reducible refine (c20 _).mono ?_); rintro e w4 ⟨rfl, HU4⟩; have cl4 := cell_up cl HU4.out))
  go_ret
  exact ⟨rfl, ((HU1.out.trans HU2.out).trans HU3.out).trans HU4.out⟩
end Go.Proofs.Ytpahjenfkgcdlab
