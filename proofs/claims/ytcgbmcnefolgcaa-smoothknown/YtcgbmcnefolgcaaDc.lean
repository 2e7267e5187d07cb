/- SmoothKnown. -/
import Derived.Test.YtcgbmcnefolgcaaDb
namespace Go.Proofs.Ytcgbmcnefolgcaa
open Go.ChangeShapes Go.WideShapes Go.ChangeAt Go.RowKit Go.Fl Go.Sort
attribute [local go_sem] run_store_float call22 call54 run_neg fold_eq fold_ne fold_lt fold_gt abs_eq

theorem c15a (w : World) : Calls Try.prog 15 #[.slice (some ⟨w.heap.size, 0, none⟩) 2 2, .slice (some ⟨w.heap.size + 1, 0, none⟩) 2 2] ((w.alloc (.cells #[.float .f64 0, .float .f64 4607182418800017408] 24)).alloc (.cells #[.float .f64 4616189618054758400, .float .f64 4616189618054758400] 24)) fun e w' => e = .returned (.tuple #[.float .f64 4616189618054758400, .float .f64 0, .int .i64 0]) ∧ Hid (Up w w') :=
  line_lit w [0, 4607182418800017408] [4616189618054758400, 4616189618054758400] 2 2 0 4616189618054758400 0 (by decide +kernel) (by decide +kernel) rfl rfl (by decide +kernel)
theorem c15b (w : World) : Calls Try.prog 15 #[.slice (some ⟨w.heap.size, 0, none⟩) 1 1, .slice (some ⟨w.heap.size + 1, 0, none⟩) 1 1] ((w.alloc (.cells #[.float .f64 4607182418800017408] 24)).alloc (.cells #[.float .f64 4607182418800017408] 24)) fun e w' => e = .returned (.tuple #[.float .f64 0, .float .f64 0, .int .i64 2]) ∧ Hid (Up w w') :=
  line_lit w [4607182418800017408] [4607182418800017408] 1 1 2 0 0 (by decide +kernel) (by decide +kernel) rfl rfl (by decide +kernel)
theorem c15c (w : World) : Calls Try.prog 15 #[.slice (some ⟨w.heap.size, 0, none⟩) 2 2, .slice (some ⟨w.heap.size + 1, 0, none⟩) 2 2] ((w.alloc (.cells #[.float .f64 4607182418800017408, .float .f64 4607182418800017408] 24)).alloc (.cells #[.float .f64 0, .float .f64 4607182418800017408] 24)) fun e w' => e = .returned (.tuple #[.float .f64 0, .float .f64 0, .int .i64 6]) ∧ Hid (Up w w') :=
  line_lit w [4607182418800017408, 4607182418800017408] [0, 4607182418800017408] 2 2 6 0 0 (by decide +kernel) (by decide +kernel) rfl rfl (by decide +kernel)
theorem c18a (w : World) : Calls Try.prog 18 #[.slice (some ⟨w.heap.size, 0, none⟩) 4 4, .slice (some ⟨w.heap.size + 1, 0, none⟩) 4 4, .float .f64 4613937818241073152] ((w.alloc (.cells #[.float .f64 0, .float .f64 4607182418800017408, .float .f64 4611686018427387904, .float .f64 4613937818241073152] 24)).alloc (.cells #[.float .f64 0, .float .f64 4607182418800017408, .float .f64 4611686018427387904, .float .f64 0] 24)) fun e w' => ∃ p c, e = .returned (.tuple #[.slice p 0 c, .int .i64 0]) ∧ Hid (IV w' p 0 []) ∧ Hid (Up w w') :=
  turns_lit w [0, 4607182418800017408, 4611686018427387904, 4613937818241073152] [0, 4607182418800017408, 4611686018427387904, 0] 4613937818241073152 4 4 0 [] (by decide +kernel) (by decide +kernel) rfl rfl (by decide +kernel) 0 rfl
theorem c18b (w : World) : Calls Try.prog 18 #[.slice (some ⟨w.heap.size, 0, none⟩) 3 3, .slice (some ⟨w.heap.size + 1, 0, none⟩) 3 3, .float .f64 0] ((w.alloc (.cells #[.float .f64 0, .float .f64 0, .float .f64 4607182418800017408] 24)).alloc (.cells #[.float .f64 0, .float .f64 0, .float .f64 4607182418800017408] 24)) fun e w' => ∃ p c, e = .returned (.tuple #[.slice p 0 c, .int .i64 2]) ∧ Hid (IV w' p 0 []) ∧ Hid (Up w w') :=
  turns_lit w [0, 0, 4607182418800017408] [0, 0, 4607182418800017408] 0 3 3 2 [] (by decide +kernel) (by decide +kernel) rfl rfl (by decide +kernel) 0 rfl
theorem c18c (w : World) : Calls Try.prog 18 #[.slice (some ⟨w.heap.size, 0, none⟩) 2 2, .slice (some ⟨w.heap.size + 1, 0, none⟩) 2 2, .float .f64 0] ((w.alloc (.cells #[.float .f64 0, .float .f64 4607182418800017408] 24)).alloc (.cells #[.float .f64 0, .float .f64 4607182418800017408] 24)) fun e w' => ∃ p c, e = .returned (.tuple #[.slice p 0 c, .int .i64 0]) ∧ Hid (IV w' p 0 []) ∧ Hid (Up w w') :=
  turns_lit w [0, 4607182418800017408] [0, 4607182418800017408] 0 2 2 0 [] (by decide +kernel) (by decide +kernel) rfl rfl (by decide +kernel) 0 rfl
theorem c18d (w : World) : Calls Try.prog 18 #[.slice (some ⟨w.heap.size, 0, none⟩) 2 2, .slice (some ⟨w.heap.size + 1, 0, none⟩) 2 2, .float .f64 9221120237041090561] ((w.alloc (.cells #[.float .f64 0, .float .f64 4607182418800017408] 24)).alloc (.cells #[.float .f64 0, .float .f64 4607182418800017408] 24)) fun e w' => ∃ p c, e = .returned (.tuple #[.slice p 0 c, .int .i64 6]) ∧ Hid (IV w' p 0 []) ∧ Hid (Up w w') :=
  turns_lit w [0, 4607182418800017408] [0, 4607182418800017408] 9221120237041090561 2 2 6 [] (by decide +kernel) (by decide +kernel) rfl rfl (by decide +kernel) 0 rfl
theorem c11a (w : World) : Calls Try.prog 11 #[.slice none 0 0, .slice none 0 0, .float .f64 4607182418800017408] w fun e w' => ∃ p c, e = .returned (.tuple #[.slice p 0 c, .int .i64 0]) ∧ Hid (Up w w') := by
  have hE : bakE 0 (fun _ => Stt.zero) #[] (ab 4607182418800017408) = 0 := by decide +kernel
  have s0 : SS w none 0 0 (fun _ => Stt.zero) := ⟨Nat.le_refl _, by omega, fun h => by omega⟩
  refine (t11 4607182418800017408 s0 (sv_nil _)).mono ?_
  rintro e w' ⟨p, c, D, rfl, h1, h2, h3, h4⟩
  have hl := h1.out
  rw [hE, if_pos rfl] at hl
  rw [hl]
  exact ⟨p, c, by rw [hE], h4⟩
theorem c11b {w0 w : World} (HO : SO w0.heap.size w (.slice (some ⟨w0.heap.size, 0, none⟩) 2 2) (List.replicate 2 Stt.zero)) : Calls Try.prog 11 #[.slice (some ⟨w0.heap.size, 0, none⟩) 2 2, .slice none 0 0, .float .f64 4607182418800017408] w fun e w' => ∃ p c, e = .returned (.tuple #[.slice p 0 c, .int .i64 5]) ∧ Hid (Up w w') := by
  have hE : bakE 2 (fun i => (List.replicate 2 Stt.zero).getD i Stt.zero) #[] (ab 4607182418800017408) = 5 := by decide +kernel
  refine (t11 4607182418800017408 (HO.ss (by omega)) (sv_nil _)).mono ?_
  rintro e w' ⟨p, c, D, rfl, h1, h2, h3, h4⟩
  have hl := h1.out
  rw [hE, if_neg (by decide)] at hl
  rw [hl]
  exact ⟨p, c, by rw [hE], h4⟩
theorem q4 : eqF (ab 4616189618054758400) (ab 4616189618054758400) = true := by decide +kernel
theorem k0 : eqF (ab 0) (ab 0) = true := by decide +kernel
attribute [local go_sem] k0 q4
set_option maxHeartbeats 4000000 in
set_option maxRecDepth 20000 in
theorem t8 (w : World) : Calls Try.prog 8 #[] w (TU w) := by
  obtain ⟨i0, hi0, hz0, hz1, hz2⟩ := info_parts info27
  go_enter Try.func8, Try.ntmps8
  go_wp2_with (first
    | (go_at_call 11; (with_reducible refine (c11a _).mono ?_); rintro e w1 ⟨p1, q1, rfl, U1⟩)
    | (refine wpList_make_full _ rfl _ _ 22 rfl w1.heap.size 27 i0 (.agg #[.float .f64 0, .float .f64 0, .float .f64 0, .float .f64 0, .float .f64 0]) 5 Try.underlying22 hi0 hz0 hz1 .i64 .i64 _ _ 2 rfl rfl rfl rfl (by rw [hz2]; omega) (by unfold maxLen; omega) (Nat.le_refl _) ?_; intro w2 hown hgr
       have HO : Hid (SO w1.heap.size w2 (.slice (some ⟨w1.heap.size, 0, none⟩) 2 2) (List.replicate 2 Stt.zero)) := (by show World.ownsRow _ _ _ _ _ _ _; rw [List.length_replicate, ← made_st]; exact hown)
       have U2 : Hid (Up w w2) := RowKit.Below.grown U1.out hgr (RowKit.Below.size U1.out) (fun j hj => by cases hj)
       clear hown hgr)
    | (go_at_call 11; (with_reducible refine (c11b HO.out).mono ?_); rintro e w3 ⟨p3, q3, rfl, U3⟩)
    | (go_at_call 15; (with_reducible refine (c15a _).mono ?_); rintro e w4 ⟨rfl, U4⟩)
    | (go_at_call 15; (with_reducible refine (c15b _).mono ?_); rintro e w5 ⟨rfl, U5⟩)
    | (go_at_call 15; (with_reducible refine (c15c _).mono ?_); rintro e w6 ⟨rfl, U6⟩)
    | (go_at_call 18; (with_reducible refine (c18a _).mono ?_); rintro e w7 ⟨p7, q7, rfl, I7, U7⟩)
    | (go_at_call 18; (with_reducible refine (c18b _).mono ?_); rintro e w8 ⟨p8, q8, rfl, I8, U8⟩)
    | (go_at_call 18; (with_reducible refine (c18c _).mono ?_); rintro e w9 ⟨p9, q9, rfl, I9, U9⟩)
    | (go_at_call 28; (with_reducible refine (t28 _).mono ?_); rintro e w' ⟨rfl, hw⟩; subst w')
    | (go_at_call 18; (with_reducible refine (c18d _).mono ?_); rintro e w10 ⟨p10, q10, rfl, I10, U10⟩)
    | (go_at_call 9; (with_reducible refine (t9 _).mono ?_); rintro e w11 ⟨rfl, U11⟩))
  go_ret
  exact ⟨rfl, U2.out.trans (U3.out.trans (U4.out.trans (U5.out.trans (U6.out.trans (U7.out.trans (U8.out.trans (U9.out.trans (U10.out.trans U11.out))))))))⟩
end Go.Proofs.Ytcgbmcnefolgcaa
