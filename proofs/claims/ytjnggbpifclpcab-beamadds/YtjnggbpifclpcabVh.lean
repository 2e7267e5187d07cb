/- What the statements ask first: a few beams. -/
import Derived.Test.YtjnggbpifclpcabVg
import Derived.Deep.CutRange
namespace Go.Proofs.Ytjnggbpifclpcab
open Go.ChangeShapes Go.WideShapes Go.ChangeAt Go.RowKit Go.Fl Ieee
attribute [local go_sem] run_store_float run_store_complex call20 call19 run_neg fold_eq fold_ne fold_lt fold_gt abs_eq

def TU (w : World) (e : Ending) (w' : World) : Prop := e = .returned (.bool true) ∧ Hid (Up w w')
abbrev wF (w : World) : World := (((w.alloc (.cells #[.complex .f64 4607182418800017408 0, .complex .f64 4611686018427387904 0] 26)).alloc (.cells #[.complex .f64 4613937818241073152 0, .complex .f64 4616189618054758400 0] 26)).alloc (.cells #[.slice (some ⟨w.heap.size, 0, none⟩) 2 2, .slice (some ⟨w.heap.size + 1, 0, none⟩) 2 2] 25)).alloc (.cells #[.complex .f64 4607182418800017408 0, .complex .f64 0 4607182418800017408] 26)
theorem wF_up (w : World) : Up w (wF w) := ((((Up.alloc _ _).trans (Up.alloc _ _)).trans (Up.alloc _ _)).trans (Up.alloc _ _))
theorem wF_r0 (w : World) : RowV (wF w) (some ⟨w.heap.size, 0, none⟩) 2 (fun j => ([(4607182418800017408, 0), (4611686018427387904, 0)] : List (Nat × Nat))[j]!) := by
  have s0 : (w).heap.size = w.heap.size := by rfl
  have h := rowNew (w) (cs := #[.complex .f64 4607182418800017408 0, .complex .f64 4611686018427387904 0]) (k := 2) (f := (fun j => ([(4607182418800017408, 0), (4611686018427387904, 0)] : List (Nat × Nat))[j]!)) (fun j hj => by
      have q : j = 0 ∨ j = 1 := by omega
      rcases q with rfl | rfl <;> rfl)
  rw [s0] at h
  exact h.up (((Up.alloc _ _).trans (Up.alloc _ _)).trans (Up.alloc _ _))
theorem wF_r1 (w : World) : RowV (wF w) (some ⟨w.heap.size + 1, 0, none⟩) 2 (fun j => ([(4613937818241073152, 0), (4616189618054758400, 0)] : List (Nat × Nat))[j]!) := by
  have s1 : ((w.alloc (.cells #[.complex .f64 4607182418800017408 0, .complex .f64 4611686018427387904 0] 26))).heap.size = w.heap.size + 1 := by rw [sz1]
  have h := rowNew ((w.alloc (.cells #[.complex .f64 4607182418800017408 0, .complex .f64 4611686018427387904 0] 26))) (cs := #[.complex .f64 4613937818241073152 0, .complex .f64 4616189618054758400 0]) (k := 2) (f := (fun j => ([(4613937818241073152, 0), (4616189618054758400, 0)] : List (Nat × Nat))[j]!)) (fun j hj => by
      have q : j = 0 ∨ j = 1 := by omega
      rcases q with rfl | rfl <;> rfl)
  rw [s1] at h
  exact h.up ((Up.alloc _ _).trans (Up.alloc _ _))
theorem wF_t2 (w : World) : TR (wF w) (some ⟨w.heap.size + 1 + 1, 0, none⟩) 2 (fun _ => 2) (fun i => if i = 0 then (fun j => ([(4607182418800017408, 0), (4611686018427387904, 0)] : List (Nat × Nat))[j]!) else (fun j => ([(4613937818241073152, 0), (4616189618054758400, 0)] : List (Nat × Nat))[j]!)) := by
  have s2 : (((w.alloc (.cells #[.complex .f64 4607182418800017408 0, .complex .f64 4611686018427387904 0] 26)).alloc (.cells #[.complex .f64 4613937818241073152 0, .complex .f64 4616189618054758400 0] 26))).heap.size = w.heap.size + 1 + 1 := by rw [sz1, sz1]
  have q0 : (w).heap.size = w.heap.size := by rfl
  have h0 := rowNew (w) (cs := #[.complex .f64 4607182418800017408 0, .complex .f64 4611686018427387904 0]) (k := 2) (f := (fun j => ([(4607182418800017408, 0), (4611686018427387904, 0)] : List (Nat × Nat))[j]!)) (fun j hj => by
      have q : j = 0 ∨ j = 1 := by omega
      rcases q with rfl | rfl <;> rfl)
  rw [q0] at h0
  have g0 : RowV (((w.alloc (.cells #[.complex .f64 4607182418800017408 0, .complex .f64 4611686018427387904 0] 26)).alloc (.cells #[.complex .f64 4613937818241073152 0, .complex .f64 4616189618054758400 0] 26))) (some ⟨w.heap.size, 0, none⟩) 2 (fun j => ([(4607182418800017408, 0), (4611686018427387904, 0)] : List (Nat × Nat))[j]!) := h0.up ((Up.alloc _ _))
  have q1 : ((w.alloc (.cells #[.complex .f64 4607182418800017408 0, .complex .f64 4611686018427387904 0] 26))).heap.size = w.heap.size + 1 := by rw [sz1]
  have h1 := rowNew ((w.alloc (.cells #[.complex .f64 4607182418800017408 0, .complex .f64 4611686018427387904 0] 26))) (cs := #[.complex .f64 4613937818241073152 0, .complex .f64 4616189618054758400 0]) (k := 2) (f := (fun j => ([(4613937818241073152, 0), (4616189618054758400, 0)] : List (Nat × Nat))[j]!)) (fun j hj => by
      have q : j = 0 ∨ j = 1 := by omega
      rcases q with rfl | rfl <;> rfl)
  rw [q1] at h1
  have g1 : RowV (((w.alloc (.cells #[.complex .f64 4607182418800017408 0, .complex .f64 4611686018427387904 0] 26)).alloc (.cells #[.complex .f64 4613937818241073152 0, .complex .f64 4616189618054758400 0] 26))) (some ⟨w.heap.size + 1, 0, none⟩) 2 (fun j => ([(4613937818241073152, 0), (4616189618054758400, 0)] : List (Nat × Nat))[j]!) := h1.up (Up.refl _)
  have h := trNew2 (((w.alloc (.cells #[.complex .f64 4607182418800017408 0, .complex .f64 4611686018427387904 0] 26)).alloc (.cells #[.complex .f64 4613937818241073152 0, .complex .f64 4616189618054758400 0] 26))) g0 g1
  rw [s2] at h
  exact h.up (Up.alloc _ _)
theorem wF_r3 (w : World) : RowV (wF w) (some ⟨w.heap.size + 1 + 1 + 1, 0, none⟩) 2 (fun j => ([(4607182418800017408, 0), (0, 4607182418800017408)] : List (Nat × Nat))[j]!) := by
  have s3 : ((((w.alloc (.cells #[.complex .f64 4607182418800017408 0, .complex .f64 4611686018427387904 0] 26)).alloc (.cells #[.complex .f64 4613937818241073152 0, .complex .f64 4616189618054758400 0] 26)).alloc (.cells #[.slice (some ⟨w.heap.size, 0, none⟩) 2 2, .slice (some ⟨w.heap.size + 1, 0, none⟩) 2 2] 25))).heap.size = w.heap.size + 1 + 1 + 1 := by rw [sz1, sz1, sz1]
  have h := rowNew ((((w.alloc (.cells #[.complex .f64 4607182418800017408 0, .complex .f64 4611686018427387904 0] 26)).alloc (.cells #[.complex .f64 4613937818241073152 0, .complex .f64 4616189618054758400 0] 26)).alloc (.cells #[.slice (some ⟨w.heap.size, 0, none⟩) 2 2, .slice (some ⟨w.heap.size + 1, 0, none⟩) 2 2] 25))) (cs := #[.complex .f64 4607182418800017408 0, .complex .f64 0 4607182418800017408]) (k := 2) (f := (fun j => ([(4607182418800017408, 0), (0, 4607182418800017408)] : List (Nat × Nat))[j]!)) (fun j hj => by
      have q : j = 0 ∨ j = 1 := by omega
      rcases q with rfl | rfl <;> rfl)
  rw [s3] at h
  exact h.up (Up.refl _)
abbrev wN (w : World) : World := ((w.alloc (.cells #[.complex .f64 4607182418800017408 0] 26)).alloc (.cells #[.complex .f64 4607182418800017408 0] 26)).alloc (.cells #[.slice (some ⟨w.heap.size, 0, none⟩) 1 1, .slice (some ⟨w.heap.size + 1, 0, none⟩) 1 1] 25)
theorem wN_up (w : World) : Up w (wN w) := (((Up.alloc _ _).trans (Up.alloc _ _)).trans (Up.alloc _ _))
theorem wN_r0 (w : World) : RowV (wN w) (some ⟨w.heap.size, 0, none⟩) 1 (fun j => ([(4607182418800017408, 0)] : List (Nat × Nat))[j]!) := by
  have s0 : (w).heap.size = w.heap.size := by rfl
  have h := rowNew (w) (cs := #[.complex .f64 4607182418800017408 0]) (k := 1) (f := (fun j => ([(4607182418800017408, 0)] : List (Nat × Nat))[j]!)) (fun j hj => by
      have q : j = 0 := by omega
      subst q
      rfl)
  rw [s0] at h
  exact h.up ((Up.alloc _ _).trans (Up.alloc _ _))
theorem wN_r1 (w : World) : RowV (wN w) (some ⟨w.heap.size + 1, 0, none⟩) 1 (fun j => ([(4607182418800017408, 0)] : List (Nat × Nat))[j]!) := by
  have s1 : ((w.alloc (.cells #[.complex .f64 4607182418800017408 0] 26))).heap.size = w.heap.size + 1 := by rw [sz1]
  have h := rowNew ((w.alloc (.cells #[.complex .f64 4607182418800017408 0] 26))) (cs := #[.complex .f64 4607182418800017408 0]) (k := 1) (f := (fun j => ([(4607182418800017408, 0)] : List (Nat × Nat))[j]!)) (fun j hj => by
      have q : j = 0 := by omega
      subst q
      rfl)
  rw [s1] at h
  exact h.up (Up.alloc _ _)
theorem wN_t2 (w : World) : TR (wN w) (some ⟨w.heap.size + 1 + 1, 0, none⟩) 2 (fun _ => 1) (fun i => if i = 0 then (fun j => ([(4607182418800017408, 0)] : List (Nat × Nat))[j]!) else (fun j => ([(4607182418800017408, 0)] : List (Nat × Nat))[j]!)) := by
  have s2 : (((w.alloc (.cells #[.complex .f64 4607182418800017408 0] 26)).alloc (.cells #[.complex .f64 4607182418800017408 0] 26))).heap.size = w.heap.size + 1 + 1 := by rw [sz1, sz1]
  have q0 : (w).heap.size = w.heap.size := by rfl
  have h0 := rowNew (w) (cs := #[.complex .f64 4607182418800017408 0]) (k := 1) (f := (fun j => ([(4607182418800017408, 0)] : List (Nat × Nat))[j]!)) (fun j hj => by
      have q : j = 0 := by omega
      subst q
      rfl)
  rw [q0] at h0
  have g0 : RowV (((w.alloc (.cells #[.complex .f64 4607182418800017408 0] 26)).alloc (.cells #[.complex .f64 4607182418800017408 0] 26))) (some ⟨w.heap.size, 0, none⟩) 1 (fun j => ([(4607182418800017408, 0)] : List (Nat × Nat))[j]!) := h0.up ((Up.alloc _ _))
  have q1 : ((w.alloc (.cells #[.complex .f64 4607182418800017408 0] 26))).heap.size = w.heap.size + 1 := by rw [sz1]
  have h1 := rowNew ((w.alloc (.cells #[.complex .f64 4607182418800017408 0] 26))) (cs := #[.complex .f64 4607182418800017408 0]) (k := 1) (f := (fun j => ([(4607182418800017408, 0)] : List (Nat × Nat))[j]!)) (fun j hj => by
      have q : j = 0 := by omega
      subst q
      rfl)
  rw [q1] at h1
  have g1 : RowV (((w.alloc (.cells #[.complex .f64 4607182418800017408 0] 26)).alloc (.cells #[.complex .f64 4607182418800017408 0] 26))) (some ⟨w.heap.size + 1, 0, none⟩) 1 (fun j => ([(4607182418800017408, 0)] : List (Nat × Nat))[j]!) := h1.up (Up.refl _)
  have h := trNew2 (((w.alloc (.cells #[.complex .f64 4607182418800017408 0] 26)).alloc (.cells #[.complex .f64 4607182418800017408 0] 26))) g0 g1
  rw [s2] at h
  exact h.up (Up.refl _)
theorem pl_cells {w w' : World} {e : Ending} {c : Int} {L : List (Nat × Nat)} (h : PL w (L.map fun p => (some p.1, some p.2)) c e w') (hp : 0 < L.length) : ∃ g k, e = .returned (.tuple #[.slice (some ⟨g, 0, none⟩) L.length k, .int .i64 c]) ∧ Hid (∀ j, j < L.length → w'.cell? ⟨g, j, none⟩ = some (ce L[j]!)) ∧ Hid (Up w w') := by
  obtain ⟨v, d, h1, h2, h3, h4⟩ := h
  obtain ⟨p, k, e1, hg⟩ := own_form h2.out
  have hl : d.length = L.length := by simpa using congrArg List.length h4.out
  obtain ⟨g, rfl⟩ := hg (by omega)
  subst e1
  have hc := h2.out
  refine ⟨g, k, by rw [h1, hl], fun j hj => ?_, h3⟩
  rw [hc.cell (show j < d.length by omega)]
  have q := congrArg (fun l => l[j]?) h4.out
  simp only [List.getElem?_map, List.getElem?_eq_getElem (show j < d.length by omega), List.getElem?_eq_getElem hj, Option.map_some, Option.some.injEq, ab2, Prod.mk.injEq] at q
  rw [getElem!_pos d j (by omega), getElem!_pos L j hj, ab_is q.1, ab_is q.2]
  rfl
theorem kS (w : World) : Calls Try.prog 11 #[.int .i64 2, .float .f64 4602678819172646912, .float .f64 4598175219545276416] w fun e w' => ∃ g k, e = .returned (.tuple #[.slice (some ⟨g, 0, none⟩) 2 k, .int .i64 0]) ∧ Hid (w'.cell? ⟨g, 0, none⟩ = some (.complex .f64 4607182418800017408 0) ∧ w'.cell? ⟨g, 1, none⟩ = some (.complex .f64 13830554455654793216 0)) ∧ Hid (Up w w') := by
  have h := t11 2 4602678819172646912 4598175219545276416 w
  rw [show steerL 2 (ab 4602678819172646912) (ab 4598175219545276416) = ([(4607182418800017408, 0), (13830554455654793216, 0)] : List (Nat × Nat)).map (fun p => (some p.1, some p.2)) by decide +kernel, show steerE 2 (ab 4602678819172646912) (ab 4598175219545276416) = 0 by decide +kernel] at h
  exact h.mono fun e w' q => by
    obtain ⟨g, k, q1, q2, q3⟩ := pl_cells q (by decide)
    exact ⟨g, k, q1, ⟨q2.out 0 (by decide), q2.out 1 (by decide)⟩, q3⟩
theorem kN (w : World) : Calls Try.prog 10 #[.int .i64 3, .float .f64 4602678819172646912, .slice (some ⟨w.heap.size, 0, none⟩) 1 1] (w.alloc (.cells #[.float .f64 0] 33)) fun e w' => ∃ g k, e = .returned (.tuple #[.slice (some ⟨g, 0, none⟩) 3 k, .int .i64 0]) ∧ Hid (w'.cell? ⟨g, 0, none⟩ = some (.complex .f64 13830554455654793216 9223372036854775808) ∧ w'.cell? ⟨g, 1, none⟩ = some (.complex .f64 4607182418800017408 9223372036854775808) ∧ w'.cell? ⟨g, 2, none⟩ = some (.complex .f64 0 0)) ∧ Hid (Up w w') := by
  have h := t10 (n := 3) (x := 4602678819172646912) (c := 1) (FV.one w 33 0) (by omega)
  rw [show nullL 3 (ab 4602678819172646912) #[0] = ([(13830554455654793216, 9223372036854775808), (4607182418800017408, 9223372036854775808), (0, 0)] : List (Nat × Nat)).map (fun p => (some p.1, some p.2)) by decide +kernel, show nullE 3 (ab 4602678819172646912) #[0] = 0 by decide +kernel] at h
  exact h.mono fun e w' q => by
    obtain ⟨g, k, q1, q2, q3⟩ := pl_cells q (by decide)
    exact ⟨g, k, q1, ⟨q2.out 0 (by decide), q2.out 1 (by decide), q2.out 2 (by decide)⟩, (Up.alloc _ _).trans q3.out⟩
theorem kF (w : World) : Calls Try.prog 8 #[.slice (some ⟨w.heap.size + 1 + 1, 0, none⟩) 2 2, .slice (some ⟨w.heap.size + 1 + 1 + 1, 0, none⟩) 2 2] (wF w) fun e w' => ∃ g, e = .returned (.tuple #[.slice (some ⟨g, 0, none⟩) 2 2, .int .i64 0]) ∧ Hid (w'.cell? ⟨g, 0, none⟩ = some (.complex .f64 4607182418800017408 13837309855095848960) ∧ w'.cell? ⟨g, 1, none⟩ = some (.complex .f64 4611686018427387904 13839561654909534208)) ∧ Hid (Up w w') := by
  have h := t8 (c := 2) (cw := 2) (wF_t2 w) (wF_r3 w) (by decide) (by decide) (by decide)
  exact h.mono fun e w' ⟨g, q1, q2, q3⟩ => ⟨g, q1, ⟨q2.out.known (by decide) (by decide +kernel), q2.out.known (by decide) (by decide +kernel)⟩, (wF_up w).trans q3.out⟩
theorem kA (w : World) : Calls Try.prog 13 #[.complex .f64 4607182418800017408 0, .complex .f64 4607182418800017408 0, .float .f64 4602678819172646912] w fun e w' => e = .returned (.tuple #[.float .f64 0, .int .i64 0]) ∧ Hid (Up w w') := by
  have h := t13ok (w := w) (a := 4607182418800017408) (b := 0) (c := 4607182418800017408) (d := 0) (s := 4602678819172646912) (by decide +kernel) (by decide +kernel) (by decide +kernel) (by decide +kernel) (by decide +kernel) (by decide +kernel)
  exact h.mono fun e w' ⟨r, q1, q2, q3⟩ => ⟨by rw [q1, ab_is (s := r) (r := 0) (by rw [q2.out]; decide +kernel)], q3⟩
theorem kT (w : World) : Calls Try.prog 14 #[.slice (some ⟨w.heap.size + 1 + 1, 0, none⟩) 2 2] (wN w) fun e w' => ∃ A B, e = .returned (.tuple #[.slice (some ⟨A, 0, none⟩) 2 2, .int .i64 0]) ∧ Hid (w'.cell? ⟨A, 0, none⟩ = some (.slice (some ⟨B, 0, none⟩) 1 1) ∧ w'.cell? ⟨A, 1, none⟩ = some (.slice (some ⟨B, 1, none⟩) 1 1) ∧ w'.cell? ⟨B, 0, none⟩ = some (.complex .f64 4611686018427387904 0) ∧ w'.cell? ⟨B, 1, none⟩ = some (.complex .f64 0 0)) ∧ Hid (Up w w') := by
  have h := t14 (c := 2) (T := fun b => if b = 0 then (some 4611686018427387904, some 0) else (some 0, some 0)) (wN_t2 w) (by decide +kernel)
  refine h.mono fun e w' ⟨A, B, d, q1, q2⟩ => ?_
  obtain ⟨b1, b2⟩ := q2.out
  have hl := b1.all.len
  have e0 := b2 0 (by decide)
  have e1 := b2 1 (by decide)
  have c0 := b1.all.cell (show 0 < d.length by omega)
  have c1 := b1.all.cell (show 1 < d.length by omega)
  simp only [ab2, if_true, Prod.mk.injEq] at e0
  simp only [ab2, Nat.one_ne_zero, if_false, Prod.mk.injEq] at e1
  refine ⟨A, B, q1, ⟨b1.ans 0 (by decide), b1.ans 1 (by decide), ?_, ?_⟩, (wN_up w).trans b1.up⟩
  · rw [c0]; show some (Value.complex .f64 _ _) = _; rw [ab_is e0.1, ab_is e0.2]
  · rw [c1]; show some (Value.complex .f64 _ _) = _; rw [ab_is e1.1, ab_is e1.2]
set_option maxHeartbeats 16000000 in
set_option maxRecDepth 20000 in
theorem t6 (w : World) : Calls Try.prog 6 #[] w (TU w) := by
  have p0 : ∀ w, (binOp .eql 26 (.complex .f64 13830554455654793216 0) (.complex .f64 13830554455654793216 0)).run Try.prog w = .ok (.bool true) w := fun w => by kernel_rfl
  have p1 : ∀ w, (binOp .eql 26 (.complex .f64 4607182418800017408 0) (.complex .f64 4607182418800017408 0)).run Try.prog w = .ok (.bool true) w := fun w => by kernel_rfl
  have p2 : ∀ w, (binOp .eql 26 (.complex .f64 4607182418800017408 13837309855095848960) (.complex .f64 4607182418800017408 13837309855095848960)).run Try.prog w = .ok (.bool true) w := fun w => by kernel_rfl
  have p3 : ∀ w, (binOp .eql 26 (.complex .f64 4611686018427387904 13839561654909534208) (.complex .f64 4611686018427387904 13839561654909534208)).run Try.prog w = .ok (.bool true) w := fun w => by kernel_rfl
  have p4 : ∀ w, (binOp .eql 26 (.complex .f64 13830554455654793216 9223372036854775808) (.complex .f64 13830554455654793216 0)).run Try.prog w = .ok (.bool true) w := fun w => by kernel_rfl
  have p5 : ∀ w, (binOp .eql 26 (.complex .f64 4607182418800017408 9223372036854775808) (.complex .f64 4607182418800017408 0)).run Try.prog w = .ok (.bool true) w := fun w => by kernel_rfl
  have p6 : ∀ w, (binOp .eql 26 (.complex .f64 0 0) (.complex .f64 0 0)).run Try.prog w = .ok (.bool true) w := fun w => by kernel_rfl
  have p7 : ∀ w, (binOp .eql 26 (.complex .f64 4611686018427387904 0) (.complex .f64 4611686018427387904 0)).run Try.prog w = .ok (.bool true) w := fun w => by kernel_rfl
  have p9 : ∀ w, (binOp .eql 33 (.float .f64 0) (.float .f64 0)).run Try.prog w = .ok (.bool true) w := fun w => by kernel_rfl
  go_enter Try.func6, Try.ntmps6
  go_upto_region 6 with (first
    | (go_at_call 11; (with_reducible refine (kS _).mono ?_); rintro e w1 ⟨g1, k1, rfl, HA, U1⟩)
    | (go_at_call 8; (with_reducible refine (kF _).mono ?_); rintro e w2 ⟨g2, rfl, HB, U2⟩)
    | (go_at_call 10; (with_reducible refine (kN _).mono ?_); rintro e w3 ⟨g3, k3, rfl, HC, U3⟩)
    | (go_at_call 13; (with_reducible refine (kA _).mono ?_); rintro e w4 ⟨rfl, U4⟩)
    | (go_at_call 14; (with_reducible refine (kT _).mono ?_); rintro e w5 ⟨A, B, rfl, HD, U5⟩))
  have V4 : Hid (Up w4 w5) := U5
  have V3 : Hid (Up w3 w5) := U4.out.trans V4.out
  have V2 : Hid (Up w2 w5) := U3.out.trans V3.out
  have V1 : Hid (Up w1 w5) := U2.out.trans V2.out
  have V0 : Hid (Up w w5) := U1.out.trans V1.out
  obtain ⟨a0, a1⟩ := HA.out
  replace a0 := cell_up a0 V1.out
  replace a1 := cell_up a1 V1.out
  obtain ⟨b0, b1⟩ := HB.out
  replace b0 := cell_up b0 V2.out
  replace b1 := cell_up b1 V2.out
  obtain ⟨c0, c1, c2⟩ := HC.out
  replace c0 := cell_up c0 V3.out
  replace c1 := cell_up c1 V3.out
  replace c2 := cell_up c2 V3.out
  obtain ⟨d0, d1, d2, d3⟩ := HD.out
  clear HA HB HC HD U1 U2 U3 U4 U5 V1 V2 V3 V4
  go_wp2
  go_ret
  exact ⟨rfl, V0⟩
end Go.Proofs.Ytjnggbpifclpcab
