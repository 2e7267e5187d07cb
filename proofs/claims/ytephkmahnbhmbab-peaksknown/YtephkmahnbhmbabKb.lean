/- PeaksKnown. -/
import Derived.Test.YtephkmahnbhmbabKa
namespace Go.Proofs.Ytephkmahnbhmbab
open Go.ChangeShapes Go.WideShapes Go.ChangeAt Go.RowKit Go.Fl Go.Sort Go.Shelf Go.Lib Go.Maps
attribute [local go_sem] run_store_float run_neg fold_eq fold_ne fold_lt fold_gt abs_eq eqg29 eqg39
set_option maxRecDepth 20000
theorem sameP (w : World) : (binOp .eql 35 (.agg #[.float .f64 4616189618054758400, .float .f64 4617878467915022336, .float .f64 4616189618054758400, .int .i64 2]) (.agg #[.float .f64 4616189618054758400, .float .f64 4617878467915022336, .float .f64 4616189618054758400, .int .i64 2])).run Try.prog w = .ok (.bool true) w := by kernel_rfl
theorem sameQ (w : World) : (binOp .eql 35 (.agg #[.float .f64 4611686018427387904, .float .f64 4613937818241073152, .float .f64 0, .int .i64 1]) (.agg #[.float .f64 4611686018427387904, .float .f64 4613937818241073152, .float .f64 0, .int .i64 1])).run Try.prog w = .ok (.bool true) w := by kernel_rfl
theorem sameV (w : World) : (binOp .eql 35 (.agg #[.float .f64 4742290407621132288, .float .f64 13965662444475908096, .float .f64 4607182418800017408, .int .i64 1]) (.agg #[.float .f64 4742290407621132288, .float .f64 13965662444475908096, .float .f64 4607182418800017408, .int .i64 1])).run Try.prog w = .ok (.bool true) w := by kernel_rfl
theorem sameE (w : World) : (binOp .eql 35 (.agg #[.float .f64 0, .float .f64 0, .float .f64 0, .int .i64 0]) (.agg #[.float .f64 0, .float .f64 0, .float .f64 0, .int .i64 0])).run Try.prog w = .ok (.bool true) w := by kernel_rfl
theorem box4 (w : World) (a b c : Nat) (n : Int) : (w.alloc (.cells #[.float .f64 a, .float .f64 b, .float .f64 c, .int .i64 n] 35)).cell? ⟨w.heap.size, 0, none⟩ = some (.float .f64 a) ∧ (w.alloc (.cells #[.float .f64 a, .float .f64 b, .float .f64 c, .int .i64 n] 35)).cell? ⟨w.heap.size, 1, none⟩ = some (.float .f64 b) ∧ (w.alloc (.cells #[.float .f64 a, .float .f64 b, .float .f64 c, .int .i64 n] 35)).cell? ⟨w.heap.size, 2, none⟩ = some (.float .f64 c) ∧ (w.alloc (.cells #[.float .f64 a, .float .f64 b, .float .f64 c, .int .i64 n] 35)).cell? ⟨w.heap.size, 3, none⟩ = some (.int .i64 n) :=
  (row4_cells (heap_alloc_last w (row4 a b c n))).1
/-- The four cells of a middle. -/
def cell4 (w : World) (g a b c : Nat) (n : Int) : Prop := w.cell? ⟨g, 0, none⟩ = some (.float .f64 a) ∧ w.cell? ⟨g, 1, none⟩ = some (.float .f64 b) ∧ w.cell? ⟨g, 2, none⟩ = some (.float .f64 c) ∧ w.cell? ⟨g, 3, none⟩ = some (.int .i64 n)
theorem cell4.up {w w' : World} {g a b c : Nat} {n : Int} (h : cell4 w g a b c n) (hu : Up w w') : cell4 w' g a b c n := ⟨cell_up h.1 hu, cell_up h.2.1 hu, cell_up h.2.2.1 hu, cell_up h.2.2.2 hu⟩
theorem knX {a b c x : Nat} (h : betF (ab a) (ab b) (ab c) = some x) (w : World) : Calls Try.prog 5 #[.float .f64 a, .float .f64 b, .float .f64 c] w fun e w' => ∃ k, e = .returned (.float .f64 x) ∧ w' = w.drewN k := by
  refine (t21 a b c w).mono ?_
  rintro e w' ⟨r, k, rfl, rfl, h1⟩
  have h2 := h1.out
  rw [h] at h2
  obtain rfl := of_ab h2
  exact ⟨k, rfl, rfl⟩
theorem knX1 : betF (ab 0) (ab 4611686018427387904) (ab 4607182418800017408) = some 4595172819793696085 := by kernel_rfl
theorem knX2 : betF (ab 4607182418800017408) (ab 4607182418800017408) (ab 4607182418800017408) = some 0 := by kernel_rfl
theorem knX3 : betF (ab 4617315517961601024) (ab 4607182418800017408) (ab 0) = some 0 := by kernel_rfl
set_option maxHeartbeats 8000000 in
theorem t4k (w : World) : Calls Try.prog 4 #[] w fun e w' => e = .returned (.bool true) ∧ Hid (Up w w') := by
  have E1 := sameP
  have E2 := sameQ
  have E3 := sameV
  have E4 := sameE
  have F5 : eqF (ab 4617315517961601024) (ab 4617315517961601024) = true := by kernel_rfl
  have F6 : eqF (ab 4618441417868443648) (ab 4618441417868443648) = true := by kernel_rfl
  have F3 : eqF (ab 4613937818241073152) (ab 4613937818241073152) = true := by kernel_rfl
  have F25 : eqF (ab 4598175219545276416) (ab 4598175219545276416) = true := by kernel_rfl
  have F0 : eqF (ab 0) (ab 0) = true := by kernel_rfl
  have G1 : gtF (ab 4595172819793696085) (ab 4595172579601715959) = true := by kernel_rfl
  have G2 : ltF (ab 4595172819793696085) (ab 4595172939889686149) = true := by kernel_rfl
  go_enter Try.func4, Try.ntmps4
  go_wp2_with fail
  with_reducible refine (knA w).mono ?_
  rintro e w1 ⟨r1, c1, rfl, HO1, HU1⟩
  go_wp2_with fail
  with_reducible refine (knB w1).mono ?_
  rintro e w2 ⟨r2, c2, rfl, HO2, HU2⟩
  go_wp2_with ((with_reducible refine upon_nan ?_); intro nr hnr)
  refine (knC nr hnr.out (w2.drewN 1)).mono ?_
  rintro e w3 ⟨p3, c3, rfl, HU3⟩
  have HU3' : Hid (Up w2 w3) := (Up.drewN w2 1).trans HU3.out
  obtain ⟨⟨a0, a1, a2⟩, -⟩ := (HO1.out.1.up (HU2.out.trans HU3'.out)).cell (i := 1) (by decide)
  obtain ⟨⟨b0, b1, b2⟩, -⟩ := (HO2.out.1.up HU3'.out).cell (i := 0) (by decide)
  have HW3 : Hid (Up w w3) := HU1.out.trans (HU2.out.trans HU3'.out)
  clear HO1 HO2 HU1 HU2 HU3 HU3'
  simp only [List.getElem!_toArray, List.getElem!_cons_zero, List.getElem!_cons_succ, Nat.zero_mul, Nat.one_mul, Nat.zero_add, Nat.reduceAdd] at a0 a1 a2 b0 b1 b2
  go_wp2_with fail
  with_reducible refine (knN w3).mono ?_
  rintro e w4 ⟨p4, c4, rfl, HU4⟩
  have HW4 : Hid (Up w w4) := HW3.out.trans HU4.out
  clear a0 a1 a2 b0 b1 b2 HU4 HW3
  go_wp2_with fail
  with_reducible refine (knG w4).mono ?_
  rintro e w5 ⟨g5, cg5, A5, C5, rfl, HG5, HU5⟩
  go_wp2_with fail
  with_reducible refine (knH w5).mono ?_
  rintro e w6 ⟨g6, cg6, A6, C6, rfl, HG6, HU6⟩
  obtain ⟨g0, o0⟩ := HG5.out 0 (by decide)
  obtain ⟨g1, o1⟩ := HG5.out 1 (by decide)
  obtain ⟨h0, o2⟩ := HG6.out 0 (by decide)
  have g0 := cell_up g0 HU6.out
  have g1 := cell_up g1 HU6.out
  obtain ⟨⟨b0, b1, b2⟩, -⟩ := (o1.up HU6.out).cell (i := 1) (by decide)
  obtain ⟨⟨d0, d1, d2⟩, -⟩ := o2.cell (i := 0) (by decide)
  have HW6 : Hid (Up w w6) := HW4.out.trans (HU5.out.trans HU6.out)
  clear o0 o1 o2 HG5 HG6 HU5 HU6 HW4
  simp only [List.getElem!_toArray, List.getElem!_cons_zero, List.getElem!_cons_succ, List.length_cons, List.length_nil, Nat.zero_mul, Nat.one_mul, Nat.zero_add, Nat.reduceAdd] at g0 g1 h0 b0 b1 b2 d0 d1 d2
  go_wp2_with fail
  with_reducible refine (knZ w6).mono ?_
  rintro e w7 ⟨p7, c7, rfl, HU7⟩
  have HW7 : Hid (Up w w7) := HW6.out.trans HU7.out
  clear g0 g1 h0 b0 b1 b2 d0 d1 d2 HU7 HW6
  go_wp2_with fail
  with_reducible refine (knP w7).mono ?_
  rintro e w8 ⟨rfl, HU8⟩
  obtain ⟨p0, p1, p2, p3'⟩ := box4 w8 4616189618054758400 4617878467915022336 4616189618054758400 2
  have HPB : Hid (cell4 (w8.alloc (.cells #[.float .f64 4616189618054758400, .float .f64 4617878467915022336, .float .f64 4616189618054758400, .int .i64 2] 35)) w8.heap.size 4616189618054758400 4617878467915022336 4616189618054758400 2) := ⟨p0, p1, p2, p3'⟩
  have HW8 : Hid (Up w (w8.alloc (.cells #[.float .f64 4616189618054758400, .float .f64 4617878467915022336, .float .f64 4616189618054758400, .int .i64 2] 35))) := HW7.out.trans (HU8.out.trans (Up.alloc _ _))
  clear p0 p1 p2 p3' HW7 HU8
  have hszW8 : (w8.alloc (.cells #[.float .f64 4616189618054758400, .float .f64 4617878467915022336, .float .f64 4616189618054758400, .int .i64 2] 35)).heap.size = w8.heap.size + 1 := by simp
  go_wp2_with fail
  generalize w8.alloc (.cells #[.float .f64 4616189618054758400, .float .f64 4617878467915022336, .float .f64 4616189618054758400, .int .i64 2] 35) = W8 at *
  generalize w8.heap.size = Bp at *
  rw [← hszW8]
  clear hszW8
  with_reducible refine (knQ W8).mono ?_
  rintro e w9 ⟨rfl, HU9⟩
  have HPB9 : Hid (cell4 (w9.alloc (.cells #[.float .f64 4611686018427387904, .float .f64 4613937818241073152, .float .f64 0, .int .i64 1] 35)) Bp 4616189618054758400 4617878467915022336 4616189618054758400 2) := cell4.up HPB.out (HU9.out.trans (Up.alloc w9 (.cells #[.float .f64 4611686018427387904, .float .f64 4613937818241073152, .float .f64 0, .int .i64 1] 35)))
  have HQB : Hid (cell4 (w9.alloc (.cells #[.float .f64 4611686018427387904, .float .f64 4613937818241073152, .float .f64 0, .int .i64 1] 35)) w9.heap.size 4611686018427387904 4613937818241073152 0 1) := box4 w9 4611686018427387904 4613937818241073152 0 1
  have HW9 : Hid (Up w (w9.alloc (.cells #[.float .f64 4611686018427387904, .float .f64 4613937818241073152, .float .f64 0, .int .i64 1] 35))) := HW8.out.trans (HU9.out.trans (Up.alloc _ _))
  clear HPB HW8 HU9
  have hszW9 : (w9.alloc (.cells #[.float .f64 4611686018427387904, .float .f64 4613937818241073152, .float .f64 0, .int .i64 1] 35)).heap.size = w9.heap.size + 1 := by simp
  go_wp2_with ((with_reducible refine upon_nan ?_); intro mr hmr)
  generalize w9.alloc (.cells #[.float .f64 4611686018427387904, .float .f64 4613937818241073152, .float .f64 0, .int .i64 1] 35) = W9 at *
  generalize w9.heap.size = Bq at *
  rw [← hszW9]
  clear hszW9
  refine (knR mr hmr.out (W9.drewN 1)).mono ?_
  rintro e w10 ⟨z, rfl, HZ, HU10⟩
  have HU10' : Hid (Up W9 (w10.alloc (.cells #[.float .f64 4617315517961601024, .float .f64 4618441417868443648, .float .f64 z, .int .i64 2] 35))) := ((Up.drewN W9 1).trans HU10.out).trans (Up.alloc _ _)
  have HPB10 : Hid (cell4 (w10.alloc (.cells #[.float .f64 4617315517961601024, .float .f64 4618441417868443648, .float .f64 z, .int .i64 2] 35)) Bp 4616189618054758400 4617878467915022336 4616189618054758400 2) := cell4.up HPB9.out HU10'.out
  have HQB10 : Hid (cell4 (w10.alloc (.cells #[.float .f64 4617315517961601024, .float .f64 4618441417868443648, .float .f64 z, .int .i64 2] 35)) Bq 4611686018427387904 4613937818241073152 0 1) := cell4.up HQB.out HU10'.out
  have HRB : Hid (cell4 (w10.alloc (.cells #[.float .f64 4617315517961601024, .float .f64 4618441417868443648, .float .f64 z, .int .i64 2] 35)) w10.heap.size 4617315517961601024 4618441417868443648 z 2) := box4 w10 4617315517961601024 4618441417868443648 z 2
  have HW10 : Hid (Up w (w10.alloc (.cells #[.float .f64 4617315517961601024, .float .f64 4618441417868443648, .float .f64 z, .int .i64 2] 35))) := HW9.out.trans HU10'.out
  clear HPB9 HQB HW9 HU10 HU10'
  have hszW10 : (w10.alloc (.cells #[.float .f64 4617315517961601024, .float .f64 4618441417868443648, .float .f64 z, .int .i64 2] 35)).heap.size = w10.heap.size + 1 := by simp
  go_wp2_with fail
  generalize w10.alloc (.cells #[.float .f64 4617315517961601024, .float .f64 4618441417868443648, .float .f64 z, .int .i64 2] 35) = W10 at *
  generalize w10.heap.size = Br at *
  rw [← hszW10]
  clear hszW10
  with_reducible refine (knS W10).mono ?_
  rintro e w11 ⟨rfl, HU11⟩
  have HU11' : Hid (Up W10 (w11.alloc (.cells #[.float .f64 4598175219545276416, .float .f64 0, .float .f64 4616189618054758400, .int .i64 2] 35))) := HU11.out.trans (Up.alloc _ _)
  obtain ⟨p0, p1, p2, p3'⟩ := cell4.up HPB10.out HU11'.out
  obtain ⟨q0, q1, q2, q3⟩ := cell4.up HQB10.out HU11'.out
  obtain ⟨s0, s1, s2, s3⟩ := cell4.up HRB.out HU11'.out
  obtain ⟨v0, v1, v2, v3⟩ := box4 w11 4598175219545276416 0 4616189618054758400 2
  have HW11 : Hid (Up w (w11.alloc (.cells #[.float .f64 4598175219545276416, .float .f64 0, .float .f64 4616189618054758400, .int .i64 2] 35))) := HW10.out.trans HU11'.out
  have FZ : eqF (ab z) (ab z) = false := by rw [HZ.out]; rfl
  clear HPB10 HQB10 HRB HW10 HU11 HU11'
  go_wp2_with fail
  generalize w11.alloc (.cells #[.float .f64 4598175219545276416, .float .f64 0, .float .f64 4616189618054758400, .int .i64 2] 35) = W11 at *
  with_reducible refine (knE W11).mono ?_
  rintro e w12 ⟨rfl, HU12⟩
  have HW12 : Hid (Up w w12) := HW11.out.trans HU12.out
  clear p0 p1 p2 p3' q0 q1 q2 q3 s0 s1 s2 s3 v0 v1 v2 v3 HW11 HU12
  go_wp2_with fail
  with_reducible refine (knU w12).mono ?_
  rintro e w13 ⟨rfl, HU13⟩
  have HUB : Hid (cell4 (w13.alloc (.cells #[.float .f64 4617315517961601024, .float .f64 0, .float .f64 4616189618054758400, .int .i64 2] 35)) w13.heap.size 4617315517961601024 0 4616189618054758400 2) := box4 w13 4617315517961601024 0 4616189618054758400 2
  have HW13 : Hid (Up w (w13.alloc (.cells #[.float .f64 4617315517961601024, .float .f64 0, .float .f64 4616189618054758400, .int .i64 2] 35))) := HW12.out.trans (HU13.out.trans (Up.alloc _ _))
  clear HW12 HU13
  have hszW13 : (w13.alloc (.cells #[.float .f64 4617315517961601024, .float .f64 0, .float .f64 4616189618054758400, .int .i64 2] 35)).heap.size = w13.heap.size + 1 := by simp
  go_wp2_with fail
  generalize w13.alloc (.cells #[.float .f64 4617315517961601024, .float .f64 0, .float .f64 4616189618054758400, .int .i64 2] 35) = W13 at *
  generalize w13.heap.size = Bu at *
  rw [← hszW13]
  clear hszW13
  with_reducible refine (knV W13).mono ?_
  rintro e w14 ⟨rfl, HU14⟩
  have HU14' : Hid (Up W13 (w14.alloc (.cells #[.float .f64 4742290407621132288, .float .f64 13965662444475908096, .float .f64 4607182418800017408, .int .i64 1] 35))) := HU14.out.trans (Up.alloc _ _)
  obtain ⟨u0, u1, u2, u3⟩ := cell4.up HUB.out HU14'.out
  obtain ⟨v0, v1, v2, v3⟩ := box4 w14 4742290407621132288 13965662444475908096 4607182418800017408 1
  have HW14 : Hid (Up w (w14.alloc (.cells #[.float .f64 4742290407621132288, .float .f64 13965662444475908096, .float .f64 4607182418800017408, .int .i64 1] 35))) := HW13.out.trans HU14'.out
  clear HW13 HU14 HU14' HUB
  go_wp2_with fail
  generalize w14.alloc (.cells #[.float .f64 4742290407621132288, .float .f64 13965662444475908096, .float .f64 4607182418800017408, .int .i64 1] 35) = W14 at *
  with_reducible refine (knX knX1 W14).mono ?_
  rintro e w15 ⟨k1, rfl, hw⟩
  subst w15
  go_wp2_with fail
  with_reducible refine (knX knX2 _).mono ?_
  rintro e w16 ⟨k2, rfl, hw⟩
  subst w16
  go_wp2_with fail
  with_reducible refine (knX knX3 _).mono ?_
  rintro e w17 ⟨k3, rfl, hw⟩
  subst w17
  go_wp2_with fail
  with_reducible refine (t13 _).mono ?_
  rintro e w18 ⟨rfl, HU18⟩
  go_wp2
  go_ret
  exact ⟨rfl, HW14.out.trans (by first | exact ((Up.drewN _ _).trans HU18.out) | exact ((Up.drewN _ _).trans ((Up.drewN _ _).trans ((Up.drewN _ _).trans HU18.out))))⟩
end Go.Proofs.Ytephkmahnbhmbab
