/- The closed calls of SolveKnown. -/
import Derived.Test.YthpoipajfkfdeabDb
namespace Go.Proofs.Ythpoipajfkfdeab
open Go.ChangeShapes Go.WideShapes Go.ChangeAt Go.RowKit Go.Fl Ieee
attribute [local go_sem] run_store_float run_store_c call43 call17 run_neg fold_eq fold_ne fold_lt fold_gt abs_eq

abbrev w1 (w : World) : World := (((w.alloc (.cells #[.complex .f64 0 0, .complex .f64 4607182418800017408 0] 26)).alloc (.cells #[.complex .f64 4607182418800017408 0, .complex .f64 0 0] 26)).alloc (.cells #[.slice (some ⟨w.heap.size, 0, none⟩) 2 2, .slice (some ⟨w.heap.size + 1, 0, none⟩) 2 2] 22)).alloc (.cells #[.complex .f64 4617315517961601024 0, .complex .f64 4619567317775286272 0] 26)
theorem w1_up (w : World) : Up w (w1 w) := ((((Up.alloc _ _).trans (Up.alloc _ _)).trans (Up.alloc _ _)).trans (Up.alloc _ _))
theorem w1_r0 (w : World) : RowV (w1 w) (some ⟨w.heap.size, 0, none⟩) 2 (fun j => ([(0, 0), (4607182418800017408, 0)] : List (Nat × Nat))[j]!) := by
  have s0 : (w).heap.size = w.heap.size := by rfl
  have h := rowNew (w) (cs := #[.complex .f64 0 0, .complex .f64 4607182418800017408 0]) (k := 2) (f := (fun j => ([(0, 0), (4607182418800017408, 0)] : List (Nat × Nat))[j]!)) (fun j hj => by
      have q : j = 0 ∨ j = 1 := by omega
      rcases q with rfl | rfl <;> rfl)
  rw [s0] at h
  exact h.up (((Up.alloc _ _).trans (Up.alloc _ _)).trans (Up.alloc _ _))
theorem w1_r1 (w : World) : RowV (w1 w) (some ⟨w.heap.size + 1, 0, none⟩) 2 (fun j => ([(4607182418800017408, 0), (0, 0)] : List (Nat × Nat))[j]!) := by
  have s1 : ((w.alloc (.cells #[.complex .f64 0 0, .complex .f64 4607182418800017408 0] 26))).heap.size = w.heap.size + 1 := by rw [sz1]
  have h := rowNew ((w.alloc (.cells #[.complex .f64 0 0, .complex .f64 4607182418800017408 0] 26))) (cs := #[.complex .f64 4607182418800017408 0, .complex .f64 0 0]) (k := 2) (f := (fun j => ([(4607182418800017408, 0), (0, 0)] : List (Nat × Nat))[j]!)) (fun j hj => by
      have q : j = 0 ∨ j = 1 := by omega
      rcases q with rfl | rfl <;> rfl)
  rw [s1] at h
  exact h.up ((Up.alloc _ _).trans (Up.alloc _ _))
theorem w1_t2 (w : World) : TR (w1 w) (some ⟨w.heap.size + 1 + 1, 0, none⟩) 2 (fun _ => 2) (fun i => if i = 0 then (fun j => ([(0, 0), (4607182418800017408, 0)] : List (Nat × Nat))[j]!) else (fun j => ([(4607182418800017408, 0), (0, 0)] : List (Nat × Nat))[j]!)) := by
  have s2 : (((w.alloc (.cells #[.complex .f64 0 0, .complex .f64 4607182418800017408 0] 26)).alloc (.cells #[.complex .f64 4607182418800017408 0, .complex .f64 0 0] 26))).heap.size = w.heap.size + 1 + 1 := by rw [sz1, sz1]
  have q0 : (w).heap.size = w.heap.size := by rfl
  have h0 := rowNew (w) (cs := #[.complex .f64 0 0, .complex .f64 4607182418800017408 0]) (k := 2) (f := (fun j => ([(0, 0), (4607182418800017408, 0)] : List (Nat × Nat))[j]!)) (fun j hj => by
      have q : j = 0 ∨ j = 1 := by omega
      rcases q with rfl | rfl <;> rfl)
  rw [q0] at h0
  have g0 : RowV (((w.alloc (.cells #[.complex .f64 0 0, .complex .f64 4607182418800017408 0] 26)).alloc (.cells #[.complex .f64 4607182418800017408 0, .complex .f64 0 0] 26))) (some ⟨w.heap.size, 0, none⟩) 2 (fun j => ([(0, 0), (4607182418800017408, 0)] : List (Nat × Nat))[j]!) := h0.up ((Up.alloc _ _))
  have q1 : ((w.alloc (.cells #[.complex .f64 0 0, .complex .f64 4607182418800017408 0] 26))).heap.size = w.heap.size + 1 := by rw [sz1]
  have h1 := rowNew ((w.alloc (.cells #[.complex .f64 0 0, .complex .f64 4607182418800017408 0] 26))) (cs := #[.complex .f64 4607182418800017408 0, .complex .f64 0 0]) (k := 2) (f := (fun j => ([(4607182418800017408, 0), (0, 0)] : List (Nat × Nat))[j]!)) (fun j hj => by
      have q : j = 0 ∨ j = 1 := by omega
      rcases q with rfl | rfl <;> rfl)
  rw [q1] at h1
  have g1 : RowV (((w.alloc (.cells #[.complex .f64 0 0, .complex .f64 4607182418800017408 0] 26)).alloc (.cells #[.complex .f64 4607182418800017408 0, .complex .f64 0 0] 26))) (some ⟨w.heap.size + 1, 0, none⟩) 2 (fun j => ([(4607182418800017408, 0), (0, 0)] : List (Nat × Nat))[j]!) := h1.up (Up.refl _)
  have h := trNew2 (((w.alloc (.cells #[.complex .f64 0 0, .complex .f64 4607182418800017408 0] 26)).alloc (.cells #[.complex .f64 4607182418800017408 0, .complex .f64 0 0] 26))) g0 g1
  rw [s2] at h
  exact h.up (Up.alloc _ _)
theorem w1_r3 (w : World) : RowV (w1 w) (some ⟨w.heap.size + 1 + 1 + 1, 0, none⟩) 2 (fun j => ([(4617315517961601024, 0), (4619567317775286272, 0)] : List (Nat × Nat))[j]!) := by
  have s3 : ((((w.alloc (.cells #[.complex .f64 0 0, .complex .f64 4607182418800017408 0] 26)).alloc (.cells #[.complex .f64 4607182418800017408 0, .complex .f64 0 0] 26)).alloc (.cells #[.slice (some ⟨w.heap.size, 0, none⟩) 2 2, .slice (some ⟨w.heap.size + 1, 0, none⟩) 2 2] 22))).heap.size = w.heap.size + 1 + 1 + 1 := by rw [sz1, sz1, sz1]
  have h := rowNew ((((w.alloc (.cells #[.complex .f64 0 0, .complex .f64 4607182418800017408 0] 26)).alloc (.cells #[.complex .f64 4607182418800017408 0, .complex .f64 0 0] 26)).alloc (.cells #[.slice (some ⟨w.heap.size, 0, none⟩) 2 2, .slice (some ⟨w.heap.size + 1, 0, none⟩) 2 2] 22))) (cs := #[.complex .f64 4617315517961601024 0, .complex .f64 4619567317775286272 0]) (k := 2) (f := (fun j => ([(4617315517961601024, 0), (4619567317775286272, 0)] : List (Nat × Nat))[j]!)) (fun j hj => by
      have q : j = 0 ∨ j = 1 := by omega
      rcases q with rfl | rfl <;> rfl)
  rw [s3] at h
  exact h.up (Up.refl _)
abbrev w2 (w : World) : World := (((w.alloc (.cells #[.complex .f64 4607182418800017408 0, .complex .f64 4607182418800017408 0] 26)).alloc (.cells #[.complex .f64 4607182418800017408 0, .complex .f64 4607182418800017408 0] 26)).alloc (.cells #[.slice (some ⟨w.heap.size, 0, none⟩) 2 2, .slice (some ⟨w.heap.size + 1, 0, none⟩) 2 2] 22)).alloc (.cells #[.complex .f64 4607182418800017408 0, .complex .f64 4611686018427387904 0] 26)
theorem w2_up (w : World) : Up w (w2 w) := ((((Up.alloc _ _).trans (Up.alloc _ _)).trans (Up.alloc _ _)).trans (Up.alloc _ _))
theorem w2_r0 (w : World) : RowV (w2 w) (some ⟨w.heap.size, 0, none⟩) 2 (fun j => ([(4607182418800017408, 0), (4607182418800017408, 0)] : List (Nat × Nat))[j]!) := by
  have s0 : (w).heap.size = w.heap.size := by rfl
  have h := rowNew (w) (cs := #[.complex .f64 4607182418800017408 0, .complex .f64 4607182418800017408 0]) (k := 2) (f := (fun j => ([(4607182418800017408, 0), (4607182418800017408, 0)] : List (Nat × Nat))[j]!)) (fun j hj => by
      have q : j = 0 ∨ j = 1 := by omega
      rcases q with rfl | rfl <;> rfl)
  rw [s0] at h
  exact h.up (((Up.alloc _ _).trans (Up.alloc _ _)).trans (Up.alloc _ _))
theorem w2_r1 (w : World) : RowV (w2 w) (some ⟨w.heap.size + 1, 0, none⟩) 2 (fun j => ([(4607182418800017408, 0), (4607182418800017408, 0)] : List (Nat × Nat))[j]!) := by
  have s1 : ((w.alloc (.cells #[.complex .f64 4607182418800017408 0, .complex .f64 4607182418800017408 0] 26))).heap.size = w.heap.size + 1 := by rw [sz1]
  have h := rowNew ((w.alloc (.cells #[.complex .f64 4607182418800017408 0, .complex .f64 4607182418800017408 0] 26))) (cs := #[.complex .f64 4607182418800017408 0, .complex .f64 4607182418800017408 0]) (k := 2) (f := (fun j => ([(4607182418800017408, 0), (4607182418800017408, 0)] : List (Nat × Nat))[j]!)) (fun j hj => by
      have q : j = 0 ∨ j = 1 := by omega
      rcases q with rfl | rfl <;> rfl)
  rw [s1] at h
  exact h.up ((Up.alloc _ _).trans (Up.alloc _ _))
theorem w2_t2 (w : World) : TR (w2 w) (some ⟨w.heap.size + 1 + 1, 0, none⟩) 2 (fun _ => 2) (fun i => if i = 0 then (fun j => ([(4607182418800017408, 0), (4607182418800017408, 0)] : List (Nat × Nat))[j]!) else (fun j => ([(4607182418800017408, 0), (4607182418800017408, 0)] : List (Nat × Nat))[j]!)) := by
  have s2 : (((w.alloc (.cells #[.complex .f64 4607182418800017408 0, .complex .f64 4607182418800017408 0] 26)).alloc (.cells #[.complex .f64 4607182418800017408 0, .complex .f64 4607182418800017408 0] 26))).heap.size = w.heap.size + 1 + 1 := by rw [sz1, sz1]
  have q0 : (w).heap.size = w.heap.size := by rfl
  have h0 := rowNew (w) (cs := #[.complex .f64 4607182418800017408 0, .complex .f64 4607182418800017408 0]) (k := 2) (f := (fun j => ([(4607182418800017408, 0), (4607182418800017408, 0)] : List (Nat × Nat))[j]!)) (fun j hj => by
      have q : j = 0 ∨ j = 1 := by omega
      rcases q with rfl | rfl <;> rfl)
  rw [q0] at h0
  have g0 : RowV (((w.alloc (.cells #[.complex .f64 4607182418800017408 0, .complex .f64 4607182418800017408 0] 26)).alloc (.cells #[.complex .f64 4607182418800017408 0, .complex .f64 4607182418800017408 0] 26))) (some ⟨w.heap.size, 0, none⟩) 2 (fun j => ([(4607182418800017408, 0), (4607182418800017408, 0)] : List (Nat × Nat))[j]!) := h0.up ((Up.alloc _ _))
  have q1 : ((w.alloc (.cells #[.complex .f64 4607182418800017408 0, .complex .f64 4607182418800017408 0] 26))).heap.size = w.heap.size + 1 := by rw [sz1]
  have h1 := rowNew ((w.alloc (.cells #[.complex .f64 4607182418800017408 0, .complex .f64 4607182418800017408 0] 26))) (cs := #[.complex .f64 4607182418800017408 0, .complex .f64 4607182418800017408 0]) (k := 2) (f := (fun j => ([(4607182418800017408, 0), (4607182418800017408, 0)] : List (Nat × Nat))[j]!)) (fun j hj => by
      have q : j = 0 ∨ j = 1 := by omega
      rcases q with rfl | rfl <;> rfl)
  rw [q1] at h1
  have g1 : RowV (((w.alloc (.cells #[.complex .f64 4607182418800017408 0, .complex .f64 4607182418800017408 0] 26)).alloc (.cells #[.complex .f64 4607182418800017408 0, .complex .f64 4607182418800017408 0] 26))) (some ⟨w.heap.size + 1, 0, none⟩) 2 (fun j => ([(4607182418800017408, 0), (4607182418800017408, 0)] : List (Nat × Nat))[j]!) := h1.up (Up.refl _)
  have h := trNew2 (((w.alloc (.cells #[.complex .f64 4607182418800017408 0, .complex .f64 4607182418800017408 0] 26)).alloc (.cells #[.complex .f64 4607182418800017408 0, .complex .f64 4607182418800017408 0] 26))) g0 g1
  rw [s2] at h
  exact h.up (Up.alloc _ _)
theorem w2_r3 (w : World) : RowV (w2 w) (some ⟨w.heap.size + 1 + 1 + 1, 0, none⟩) 2 (fun j => ([(4607182418800017408, 0), (4611686018427387904, 0)] : List (Nat × Nat))[j]!) := by
  have s3 : ((((w.alloc (.cells #[.complex .f64 4607182418800017408 0, .complex .f64 4607182418800017408 0] 26)).alloc (.cells #[.complex .f64 4607182418800017408 0, .complex .f64 4607182418800017408 0] 26)).alloc (.cells #[.slice (some ⟨w.heap.size, 0, none⟩) 2 2, .slice (some ⟨w.heap.size + 1, 0, none⟩) 2 2] 22))).heap.size = w.heap.size + 1 + 1 + 1 := by rw [sz1, sz1, sz1]
  have h := rowNew ((((w.alloc (.cells #[.complex .f64 4607182418800017408 0, .complex .f64 4607182418800017408 0] 26)).alloc (.cells #[.complex .f64 4607182418800017408 0, .complex .f64 4607182418800017408 0] 26)).alloc (.cells #[.slice (some ⟨w.heap.size, 0, none⟩) 2 2, .slice (some ⟨w.heap.size + 1, 0, none⟩) 2 2] 22))) (cs := #[.complex .f64 4607182418800017408 0, .complex .f64 4611686018427387904 0]) (k := 2) (f := (fun j => ([(4607182418800017408, 0), (4611686018427387904, 0)] : List (Nat × Nat))[j]!)) (fun j hj => by
      have q : j = 0 ∨ j = 1 := by omega
      rcases q with rfl | rfl <;> rfl)
  rw [s3] at h
  exact h.up (Up.refl _)
abbrev w3 (w : World) : World := ((w.alloc (.cells #[.complex .f64 1614679632300144556 0] 26)).alloc (.cells #[.slice (some ⟨w.heap.size, 0, none⟩) 1 1] 22)).alloc (.cells #[.complex .f64 4607182418800017408 0] 26)
theorem w3_up (w : World) : Up w (w3 w) := (((Up.alloc _ _).trans (Up.alloc _ _)).trans (Up.alloc _ _))
theorem w3_r0 (w : World) : RowV (w3 w) (some ⟨w.heap.size, 0, none⟩) 1 (fun j => ([(1614679632300144556, 0)] : List (Nat × Nat))[j]!) := by
  have s0 : (w).heap.size = w.heap.size := by rfl
  have h := rowNew (w) (cs := #[.complex .f64 1614679632300144556 0]) (k := 1) (f := (fun j => ([(1614679632300144556, 0)] : List (Nat × Nat))[j]!)) (fun j hj => by
      have q : j = 0 := by omega
      subst q
      rfl)
  rw [s0] at h
  exact h.up ((Up.alloc _ _).trans (Up.alloc _ _))
theorem w3_t1 (w : World) : TR (w3 w) (some ⟨w.heap.size + 1, 0, none⟩) 1 (fun _ => 1) (fun _ => (fun j => ([(1614679632300144556, 0)] : List (Nat × Nat))[j]!)) := by
  have s1 : ((w.alloc (.cells #[.complex .f64 1614679632300144556 0] 26))).heap.size = w.heap.size + 1 := by rw [sz1]
  have q0 : (w).heap.size = w.heap.size := by rfl
  have h0 := rowNew (w) (cs := #[.complex .f64 1614679632300144556 0]) (k := 1) (f := (fun j => ([(1614679632300144556, 0)] : List (Nat × Nat))[j]!)) (fun j hj => by
      have q : j = 0 := by omega
      subst q
      rfl)
  rw [q0] at h0
  have g0 : RowV ((w.alloc (.cells #[.complex .f64 1614679632300144556 0] 26))) (some ⟨w.heap.size, 0, none⟩) 1 (fun j => ([(1614679632300144556, 0)] : List (Nat × Nat))[j]!) := h0.up (Up.refl _)
  have h := trNew1 ((w.alloc (.cells #[.complex .f64 1614679632300144556 0] 26))) g0
  rw [s1] at h
  exact h.up (Up.alloc _ _)
theorem w3_r2 (w : World) : RowV (w3 w) (some ⟨w.heap.size + 1 + 1, 0, none⟩) 1 (fun j => ([(4607182418800017408, 0)] : List (Nat × Nat))[j]!) := by
  have s2 : (((w.alloc (.cells #[.complex .f64 1614679632300144556 0] 26)).alloc (.cells #[.slice (some ⟨w.heap.size, 0, none⟩) 1 1] 22))).heap.size = w.heap.size + 1 + 1 := by rw [sz1, sz1]
  have h := rowNew (((w.alloc (.cells #[.complex .f64 1614679632300144556 0] 26)).alloc (.cells #[.slice (some ⟨w.heap.size, 0, none⟩) 1 1] 22))) (cs := #[.complex .f64 4607182418800017408 0]) (k := 1) (f := (fun j => ([(4607182418800017408, 0)] : List (Nat × Nat))[j]!)) (fun j hj => by
      have q : j = 0 := by omega
      subst q
      rfl)
  rw [s2] at h
  exact h.up (Up.refl _)
abbrev w4 (w : World) : World := ((w.alloc (.cells #[.complex .f64 0 9221120237041090561] 26)).alloc (.cells #[.slice (some ⟨w.heap.size, 0, none⟩) 1 1] 22)).alloc (.cells #[.complex .f64 4607182418800017408 0] 26)
theorem w4_up (w : World) : Up w (w4 w) := (((Up.alloc _ _).trans (Up.alloc _ _)).trans (Up.alloc _ _))
theorem w4_r0 (w : World) : RowV (w4 w) (some ⟨w.heap.size, 0, none⟩) 1 (fun j => ([(0, 9221120237041090561)] : List (Nat × Nat))[j]!) := by
  have s0 : (w).heap.size = w.heap.size := by rfl
  have h := rowNew (w) (cs := #[.complex .f64 0 9221120237041090561]) (k := 1) (f := (fun j => ([(0, 9221120237041090561)] : List (Nat × Nat))[j]!)) (fun j hj => by
      have q : j = 0 := by omega
      subst q
      rfl)
  rw [s0] at h
  exact h.up ((Up.alloc _ _).trans (Up.alloc _ _))
theorem w4_t1 (w : World) : TR (w4 w) (some ⟨w.heap.size + 1, 0, none⟩) 1 (fun _ => 1) (fun _ => (fun j => ([(0, 9221120237041090561)] : List (Nat × Nat))[j]!)) := by
  have s1 : ((w.alloc (.cells #[.complex .f64 0 9221120237041090561] 26))).heap.size = w.heap.size + 1 := by rw [sz1]
  have q0 : (w).heap.size = w.heap.size := by rfl
  have h0 := rowNew (w) (cs := #[.complex .f64 0 9221120237041090561]) (k := 1) (f := (fun j => ([(0, 9221120237041090561)] : List (Nat × Nat))[j]!)) (fun j hj => by
      have q : j = 0 := by omega
      subst q
      rfl)
  rw [q0] at h0
  have g0 : RowV ((w.alloc (.cells #[.complex .f64 0 9221120237041090561] 26))) (some ⟨w.heap.size, 0, none⟩) 1 (fun j => ([(0, 9221120237041090561)] : List (Nat × Nat))[j]!) := h0.up (Up.refl _)
  have h := trNew1 ((w.alloc (.cells #[.complex .f64 0 9221120237041090561] 26))) g0
  rw [s1] at h
  exact h.up (Up.alloc _ _)
theorem w4_r2 (w : World) : RowV (w4 w) (some ⟨w.heap.size + 1 + 1, 0, none⟩) 1 (fun j => ([(4607182418800017408, 0)] : List (Nat × Nat))[j]!) := by
  have s2 : (((w.alloc (.cells #[.complex .f64 0 9221120237041090561] 26)).alloc (.cells #[.slice (some ⟨w.heap.size, 0, none⟩) 1 1] 22))).heap.size = w.heap.size + 1 + 1 := by rw [sz1, sz1]
  have h := rowNew (((w.alloc (.cells #[.complex .f64 0 9221120237041090561] 26)).alloc (.cells #[.slice (some ⟨w.heap.size, 0, none⟩) 1 1] 22))) (cs := #[.complex .f64 4607182418800017408 0]) (k := 1) (f := (fun j => ([(4607182418800017408, 0)] : List (Nat × Nat))[j]!)) (fun j hj => by
      have q : j = 0 := by omega
      subst q
      rfl)
  rw [s2] at h
  exact h.up (Up.refl _)
abbrev w5 (w : World) : World := ((w.alloc (.cells #[.complex .f64 4607182418800017408 0, .complex .f64 4611686018427387904 0] 26)).alloc (.cells #[.slice (some ⟨w.heap.size, 0, none⟩) 2 2] 22)).alloc (.cells #[.complex .f64 4607182418800017408 0] 26)
theorem w5_up (w : World) : Up w (w5 w) := (((Up.alloc _ _).trans (Up.alloc _ _)).trans (Up.alloc _ _))
theorem w5_r0 (w : World) : RowV (w5 w) (some ⟨w.heap.size, 0, none⟩) 2 (fun j => ([(4607182418800017408, 0), (4611686018427387904, 0)] : List (Nat × Nat))[j]!) := by
  have s0 : (w).heap.size = w.heap.size := by rfl
  have h := rowNew (w) (cs := #[.complex .f64 4607182418800017408 0, .complex .f64 4611686018427387904 0]) (k := 2) (f := (fun j => ([(4607182418800017408, 0), (4611686018427387904, 0)] : List (Nat × Nat))[j]!)) (fun j hj => by
      have q : j = 0 ∨ j = 1 := by omega
      rcases q with rfl | rfl <;> rfl)
  rw [s0] at h
  exact h.up ((Up.alloc _ _).trans (Up.alloc _ _))
theorem w5_t1 (w : World) : TR (w5 w) (some ⟨w.heap.size + 1, 0, none⟩) 1 (fun _ => 2) (fun _ => (fun j => ([(4607182418800017408, 0), (4611686018427387904, 0)] : List (Nat × Nat))[j]!)) := by
  have s1 : ((w.alloc (.cells #[.complex .f64 4607182418800017408 0, .complex .f64 4611686018427387904 0] 26))).heap.size = w.heap.size + 1 := by rw [sz1]
  have q0 : (w).heap.size = w.heap.size := by rfl
  have h0 := rowNew (w) (cs := #[.complex .f64 4607182418800017408 0, .complex .f64 4611686018427387904 0]) (k := 2) (f := (fun j => ([(4607182418800017408, 0), (4611686018427387904, 0)] : List (Nat × Nat))[j]!)) (fun j hj => by
      have q : j = 0 ∨ j = 1 := by omega
      rcases q with rfl | rfl <;> rfl)
  rw [q0] at h0
  have g0 : RowV ((w.alloc (.cells #[.complex .f64 4607182418800017408 0, .complex .f64 4611686018427387904 0] 26))) (some ⟨w.heap.size, 0, none⟩) 2 (fun j => ([(4607182418800017408, 0), (4611686018427387904, 0)] : List (Nat × Nat))[j]!) := h0.up (Up.refl _)
  have h := trNew1 ((w.alloc (.cells #[.complex .f64 4607182418800017408 0, .complex .f64 4611686018427387904 0] 26))) g0
  rw [s1] at h
  exact h.up (Up.alloc _ _)
theorem w5_r2 (w : World) : RowV (w5 w) (some ⟨w.heap.size + 1 + 1, 0, none⟩) 1 (fun j => ([(4607182418800017408, 0)] : List (Nat × Nat))[j]!) := by
  have s2 : (((w.alloc (.cells #[.complex .f64 4607182418800017408 0, .complex .f64 4611686018427387904 0] 26)).alloc (.cells #[.slice (some ⟨w.heap.size, 0, none⟩) 2 2] 22))).heap.size = w.heap.size + 1 + 1 := by rw [sz1, sz1]
  have h := rowNew (((w.alloc (.cells #[.complex .f64 4607182418800017408 0, .complex .f64 4611686018427387904 0] 26)).alloc (.cells #[.slice (some ⟨w.heap.size, 0, none⟩) 2 2] 22))) (cs := #[.complex .f64 4607182418800017408 0]) (k := 1) (f := (fun j => ([(4607182418800017408, 0)] : List (Nat × Nat))[j]!)) (fun j hj => by
      have q : j = 0 := by omega
      subst q
      rfl)
  rw [s2] at h
  exact h.up (Up.refl _)
abbrev w7 (w : World) : World := w.alloc (.cells #[.complex .f64 4607182418800017408 0, .complex .f64 4607182418800017408 0] 26)
theorem w7_up (w : World) : Up w (w7 w) := (Up.alloc _ _)
theorem w7_r0 (w : World) : RowV (w7 w) (some ⟨w.heap.size, 0, none⟩) 2 (fun j => ([(4607182418800017408, 0), (4607182418800017408, 0)] : List (Nat × Nat))[j]!) := by
  have s0 : (w).heap.size = w.heap.size := by rfl
  have h := rowNew (w) (cs := #[.complex .f64 4607182418800017408 0, .complex .f64 4607182418800017408 0]) (k := 2) (f := (fun j => ([(4607182418800017408, 0), (4607182418800017408, 0)] : List (Nat × Nat))[j]!)) (fun j hj => by
      have q : j = 0 ∨ j = 1 := by omega
      rcases q with rfl | rfl <;> rfl)
  rw [s0] at h
  exact h.up (Up.refl _)
abbrev w8 (w : World) : World := ((w.alloc (.cells #[.complex .f64 4607182418800017408 0] 26)).alloc (.cells #[.complex .f64 4607182418800017408 0] 26)).alloc (.cells #[.slice (some ⟨w.heap.size + 1, 0, none⟩) 1 1] 22)
theorem w8_up (w : World) : Up w (w8 w) := (((Up.alloc _ _).trans (Up.alloc _ _)).trans (Up.alloc _ _))
theorem w8_r0 (w : World) : RowV (w8 w) (some ⟨w.heap.size, 0, none⟩) 1 (fun j => ([(4607182418800017408, 0)] : List (Nat × Nat))[j]!) := by
  have s0 : (w).heap.size = w.heap.size := by rfl
  have h := rowNew (w) (cs := #[.complex .f64 4607182418800017408 0]) (k := 1) (f := (fun j => ([(4607182418800017408, 0)] : List (Nat × Nat))[j]!)) (fun j hj => by
      have q : j = 0 := by omega
      subst q
      rfl)
  rw [s0] at h
  exact h.up ((Up.alloc _ _).trans (Up.alloc _ _))
theorem w8_r1 (w : World) : RowV (w8 w) (some ⟨w.heap.size + 1, 0, none⟩) 1 (fun j => ([(4607182418800017408, 0)] : List (Nat × Nat))[j]!) := by
  have s1 : ((w.alloc (.cells #[.complex .f64 4607182418800017408 0] 26))).heap.size = w.heap.size + 1 := by rw [sz1]
  have h := rowNew ((w.alloc (.cells #[.complex .f64 4607182418800017408 0] 26))) (cs := #[.complex .f64 4607182418800017408 0]) (k := 1) (f := (fun j => ([(4607182418800017408, 0)] : List (Nat × Nat))[j]!)) (fun j hj => by
      have q : j = 0 := by omega
      subst q
      rfl)
  rw [s1] at h
  exact h.up (Up.alloc _ _)
theorem w8_t2 (w : World) : TR (w8 w) (some ⟨w.heap.size + 1 + 1, 0, none⟩) 1 (fun _ => 1) (fun _ => (fun j => ([(4607182418800017408, 0)] : List (Nat × Nat))[j]!)) := by
  have s2 : (((w.alloc (.cells #[.complex .f64 4607182418800017408 0] 26)).alloc (.cells #[.complex .f64 4607182418800017408 0] 26))).heap.size = w.heap.size + 1 + 1 := by rw [sz1, sz1]
  have q1 : ((w.alloc (.cells #[.complex .f64 4607182418800017408 0] 26))).heap.size = w.heap.size + 1 := by rw [sz1]
  have h1 := rowNew ((w.alloc (.cells #[.complex .f64 4607182418800017408 0] 26))) (cs := #[.complex .f64 4607182418800017408 0]) (k := 1) (f := (fun j => ([(4607182418800017408, 0)] : List (Nat × Nat))[j]!)) (fun j hj => by
      have q : j = 0 := by omega
      subst q
      rfl)
  rw [q1] at h1
  have g1 : RowV (((w.alloc (.cells #[.complex .f64 4607182418800017408 0] 26)).alloc (.cells #[.complex .f64 4607182418800017408 0] 26))) (some ⟨w.heap.size + 1, 0, none⟩) 1 (fun j => ([(4607182418800017408, 0)] : List (Nat × Nat))[j]!) := h1.up (Up.refl _)
  have h := trNew1 (((w.alloc (.cells #[.complex .f64 4607182418800017408 0] 26)).alloc (.cells #[.complex .f64 4607182418800017408 0] 26))) g1
  rw [s2] at h
  exact h.up (Up.refl _)
abbrev w9 (w : World) : World := ((w.alloc (.cells #[.complex .f64 4607182418800017408 0] 26)).alloc (.cells #[.complex .f64 4607182418800017408 0, .complex .f64 4611686018427387904 0] 26)).alloc (.cells #[.slice (some ⟨w.heap.size + 1, 0, none⟩) 2 2] 22)
theorem w9_up (w : World) : Up w (w9 w) := (((Up.alloc _ _).trans (Up.alloc _ _)).trans (Up.alloc _ _))
theorem w9_r0 (w : World) : RowV (w9 w) (some ⟨w.heap.size, 0, none⟩) 1 (fun j => ([(4607182418800017408, 0)] : List (Nat × Nat))[j]!) := by
  have s0 : (w).heap.size = w.heap.size := by rfl
  have h := rowNew (w) (cs := #[.complex .f64 4607182418800017408 0]) (k := 1) (f := (fun j => ([(4607182418800017408, 0)] : List (Nat × Nat))[j]!)) (fun j hj => by
      have q : j = 0 := by omega
      subst q
      rfl)
  rw [s0] at h
  exact h.up ((Up.alloc _ _).trans (Up.alloc _ _))
theorem w9_r1 (w : World) : RowV (w9 w) (some ⟨w.heap.size + 1, 0, none⟩) 2 (fun j => ([(4607182418800017408, 0), (4611686018427387904, 0)] : List (Nat × Nat))[j]!) := by
  have s1 : ((w.alloc (.cells #[.complex .f64 4607182418800017408 0] 26))).heap.size = w.heap.size + 1 := by rw [sz1]
  have h := rowNew ((w.alloc (.cells #[.complex .f64 4607182418800017408 0] 26))) (cs := #[.complex .f64 4607182418800017408 0, .complex .f64 4611686018427387904 0]) (k := 2) (f := (fun j => ([(4607182418800017408, 0), (4611686018427387904, 0)] : List (Nat × Nat))[j]!)) (fun j hj => by
      have q : j = 0 ∨ j = 1 := by omega
      rcases q with rfl | rfl <;> rfl)
  rw [s1] at h
  exact h.up (Up.alloc _ _)
theorem w9_t2 (w : World) : TR (w9 w) (some ⟨w.heap.size + 1 + 1, 0, none⟩) 1 (fun _ => 2) (fun _ => (fun j => ([(4607182418800017408, 0), (4611686018427387904, 0)] : List (Nat × Nat))[j]!)) := by
  have s2 : (((w.alloc (.cells #[.complex .f64 4607182418800017408 0] 26)).alloc (.cells #[.complex .f64 4607182418800017408 0, .complex .f64 4611686018427387904 0] 26))).heap.size = w.heap.size + 1 + 1 := by rw [sz1, sz1]
  have q1 : ((w.alloc (.cells #[.complex .f64 4607182418800017408 0] 26))).heap.size = w.heap.size + 1 := by rw [sz1]
  have h1 := rowNew ((w.alloc (.cells #[.complex .f64 4607182418800017408 0] 26))) (cs := #[.complex .f64 4607182418800017408 0, .complex .f64 4611686018427387904 0]) (k := 2) (f := (fun j => ([(4607182418800017408, 0), (4611686018427387904, 0)] : List (Nat × Nat))[j]!)) (fun j hj => by
      have q : j = 0 ∨ j = 1 := by omega
      rcases q with rfl | rfl <;> rfl)
  rw [q1] at h1
  have g1 : RowV (((w.alloc (.cells #[.complex .f64 4607182418800017408 0] 26)).alloc (.cells #[.complex .f64 4607182418800017408 0, .complex .f64 4611686018427387904 0] 26))) (some ⟨w.heap.size + 1, 0, none⟩) 2 (fun j => ([(4607182418800017408, 0), (4611686018427387904, 0)] : List (Nat × Nat))[j]!) := h1.up (Up.refl _)
  have h := trNew1 (((w.alloc (.cells #[.complex .f64 4607182418800017408 0] 26)).alloc (.cells #[.complex .f64 4607182418800017408 0, .complex .f64 4611686018427387904 0] 26))) g1
  rw [s2] at h
  exact h.up (Up.refl _)
abbrev w10 (w : World) : World := ((w.alloc (.cells #[.complex .f64 4607182418800017408 0] 26)).alloc (.cells #[.complex .f64 0 0] 26)).alloc (.cells #[.slice (some ⟨w.heap.size + 1, 0, none⟩) 1 1] 22)
theorem w10_up (w : World) : Up w (w10 w) := (((Up.alloc _ _).trans (Up.alloc _ _)).trans (Up.alloc _ _))
theorem w10_r0 (w : World) : RowV (w10 w) (some ⟨w.heap.size, 0, none⟩) 1 (fun j => ([(4607182418800017408, 0)] : List (Nat × Nat))[j]!) := by
  have s0 : (w).heap.size = w.heap.size := by rfl
  have h := rowNew (w) (cs := #[.complex .f64 4607182418800017408 0]) (k := 1) (f := (fun j => ([(4607182418800017408, 0)] : List (Nat × Nat))[j]!)) (fun j hj => by
      have q : j = 0 := by omega
      subst q
      rfl)
  rw [s0] at h
  exact h.up ((Up.alloc _ _).trans (Up.alloc _ _))
theorem w10_r1 (w : World) : RowV (w10 w) (some ⟨w.heap.size + 1, 0, none⟩) 1 (fun j => ([(0, 0)] : List (Nat × Nat))[j]!) := by
  have s1 : ((w.alloc (.cells #[.complex .f64 4607182418800017408 0] 26))).heap.size = w.heap.size + 1 := by rw [sz1]
  have h := rowNew ((w.alloc (.cells #[.complex .f64 4607182418800017408 0] 26))) (cs := #[.complex .f64 0 0]) (k := 1) (f := (fun j => ([(0, 0)] : List (Nat × Nat))[j]!)) (fun j hj => by
      have q : j = 0 := by omega
      subst q
      rfl)
  rw [s1] at h
  exact h.up (Up.alloc _ _)
theorem w10_t2 (w : World) : TR (w10 w) (some ⟨w.heap.size + 1 + 1, 0, none⟩) 1 (fun _ => 1) (fun _ => (fun j => ([(0, 0)] : List (Nat × Nat))[j]!)) := by
  have s2 : (((w.alloc (.cells #[.complex .f64 4607182418800017408 0] 26)).alloc (.cells #[.complex .f64 0 0] 26))).heap.size = w.heap.size + 1 + 1 := by rw [sz1, sz1]
  have q1 : ((w.alloc (.cells #[.complex .f64 4607182418800017408 0] 26))).heap.size = w.heap.size + 1 := by rw [sz1]
  have h1 := rowNew ((w.alloc (.cells #[.complex .f64 4607182418800017408 0] 26))) (cs := #[.complex .f64 0 0]) (k := 1) (f := (fun j => ([(0, 0)] : List (Nat × Nat))[j]!)) (fun j hj => by
      have q : j = 0 := by omega
      subst q
      rfl)
  rw [q1] at h1
  have g1 : RowV (((w.alloc (.cells #[.complex .f64 4607182418800017408 0] 26)).alloc (.cells #[.complex .f64 0 0] 26))) (some ⟨w.heap.size + 1, 0, none⟩) 1 (fun j => ([(0, 0)] : List (Nat × Nat))[j]!) := h1.up (Up.refl _)
  have h := trNew1 (((w.alloc (.cells #[.complex .f64 4607182418800017408 0] 26)).alloc (.cells #[.complex .f64 0 0] 26))) g1
  rw [s2] at h
  exact h.up (Up.refl _)
abbrev w16 (w : World) : World := (((w.alloc (.cells #[.complex .f64 7598952565167317594 0, .complex .f64 4607182418800017408 0] 26)).alloc (.cells #[.complex .f64 4607182418800017408 0, .complex .f64 1614679632300144556 0] 26)).alloc (.cells #[.slice (some ⟨w.heap.size, 0, none⟩) 2 2, .slice (some ⟨w.heap.size + 1, 0, none⟩) 2 2] 22)).alloc (.cells #[.complex .f64 4607182418800017408 0, .complex .f64 4607182418800017408 0] 26)
theorem w16_up (w : World) : Up w (w16 w) := ((((Up.alloc _ _).trans (Up.alloc _ _)).trans (Up.alloc _ _)).trans (Up.alloc _ _))
theorem w16_r0 (w : World) : RowV (w16 w) (some ⟨w.heap.size, 0, none⟩) 2 (fun j => ([(7598952565167317594, 0), (4607182418800017408, 0)] : List (Nat × Nat))[j]!) := by
  have s0 : (w).heap.size = w.heap.size := by rfl
  have h := rowNew (w) (cs := #[.complex .f64 7598952565167317594 0, .complex .f64 4607182418800017408 0]) (k := 2) (f := (fun j => ([(7598952565167317594, 0), (4607182418800017408, 0)] : List (Nat × Nat))[j]!)) (fun j hj => by
      have q : j = 0 ∨ j = 1 := by omega
      rcases q with rfl | rfl <;> rfl)
  rw [s0] at h
  exact h.up (((Up.alloc _ _).trans (Up.alloc _ _)).trans (Up.alloc _ _))
theorem w16_r1 (w : World) : RowV (w16 w) (some ⟨w.heap.size + 1, 0, none⟩) 2 (fun j => ([(4607182418800017408, 0), (1614679632300144556, 0)] : List (Nat × Nat))[j]!) := by
  have s1 : ((w.alloc (.cells #[.complex .f64 7598952565167317594 0, .complex .f64 4607182418800017408 0] 26))).heap.size = w.heap.size + 1 := by rw [sz1]
  have h := rowNew ((w.alloc (.cells #[.complex .f64 7598952565167317594 0, .complex .f64 4607182418800017408 0] 26))) (cs := #[.complex .f64 4607182418800017408 0, .complex .f64 1614679632300144556 0]) (k := 2) (f := (fun j => ([(4607182418800017408, 0), (1614679632300144556, 0)] : List (Nat × Nat))[j]!)) (fun j hj => by
      have q : j = 0 ∨ j = 1 := by omega
      rcases q with rfl | rfl <;> rfl)
  rw [s1] at h
  exact h.up ((Up.alloc _ _).trans (Up.alloc _ _))
theorem w16_t2 (w : World) : TR (w16 w) (some ⟨w.heap.size + 1 + 1, 0, none⟩) 2 (fun _ => 2) (fun i => if i = 0 then (fun j => ([(7598952565167317594, 0), (4607182418800017408, 0)] : List (Nat × Nat))[j]!) else (fun j => ([(4607182418800017408, 0), (1614679632300144556, 0)] : List (Nat × Nat))[j]!)) := by
  have s2 : (((w.alloc (.cells #[.complex .f64 7598952565167317594 0, .complex .f64 4607182418800017408 0] 26)).alloc (.cells #[.complex .f64 4607182418800017408 0, .complex .f64 1614679632300144556 0] 26))).heap.size = w.heap.size + 1 + 1 := by rw [sz1, sz1]
  have q0 : (w).heap.size = w.heap.size := by rfl
  have h0 := rowNew (w) (cs := #[.complex .f64 7598952565167317594 0, .complex .f64 4607182418800017408 0]) (k := 2) (f := (fun j => ([(7598952565167317594, 0), (4607182418800017408, 0)] : List (Nat × Nat))[j]!)) (fun j hj => by
      have q : j = 0 ∨ j = 1 := by omega
      rcases q with rfl | rfl <;> rfl)
  rw [q0] at h0
  have g0 : RowV (((w.alloc (.cells #[.complex .f64 7598952565167317594 0, .complex .f64 4607182418800017408 0] 26)).alloc (.cells #[.complex .f64 4607182418800017408 0, .complex .f64 1614679632300144556 0] 26))) (some ⟨w.heap.size, 0, none⟩) 2 (fun j => ([(7598952565167317594, 0), (4607182418800017408, 0)] : List (Nat × Nat))[j]!) := h0.up ((Up.alloc _ _))
  have q1 : ((w.alloc (.cells #[.complex .f64 7598952565167317594 0, .complex .f64 4607182418800017408 0] 26))).heap.size = w.heap.size + 1 := by rw [sz1]
  have h1 := rowNew ((w.alloc (.cells #[.complex .f64 7598952565167317594 0, .complex .f64 4607182418800017408 0] 26))) (cs := #[.complex .f64 4607182418800017408 0, .complex .f64 1614679632300144556 0]) (k := 2) (f := (fun j => ([(4607182418800017408, 0), (1614679632300144556, 0)] : List (Nat × Nat))[j]!)) (fun j hj => by
      have q : j = 0 ∨ j = 1 := by omega
      rcases q with rfl | rfl <;> rfl)
  rw [q1] at h1
  have g1 : RowV (((w.alloc (.cells #[.complex .f64 7598952565167317594 0, .complex .f64 4607182418800017408 0] 26)).alloc (.cells #[.complex .f64 4607182418800017408 0, .complex .f64 1614679632300144556 0] 26))) (some ⟨w.heap.size + 1, 0, none⟩) 2 (fun j => ([(4607182418800017408, 0), (1614679632300144556, 0)] : List (Nat × Nat))[j]!) := h1.up (Up.refl _)
  have h := trNew2 (((w.alloc (.cells #[.complex .f64 7598952565167317594 0, .complex .f64 4607182418800017408 0] 26)).alloc (.cells #[.complex .f64 4607182418800017408 0, .complex .f64 1614679632300144556 0] 26))) g0 g1
  rw [s2] at h
  exact h.up (Up.alloc _ _)
theorem w16_r3 (w : World) : RowV (w16 w) (some ⟨w.heap.size + 1 + 1 + 1, 0, none⟩) 2 (fun j => ([(4607182418800017408, 0), (4607182418800017408, 0)] : List (Nat × Nat))[j]!) := by
  have s3 : ((((w.alloc (.cells #[.complex .f64 7598952565167317594 0, .complex .f64 4607182418800017408 0] 26)).alloc (.cells #[.complex .f64 4607182418800017408 0, .complex .f64 1614679632300144556 0] 26)).alloc (.cells #[.slice (some ⟨w.heap.size, 0, none⟩) 2 2, .slice (some ⟨w.heap.size + 1, 0, none⟩) 2 2] 22))).heap.size = w.heap.size + 1 + 1 + 1 := by rw [sz1, sz1, sz1]
  have h := rowNew ((((w.alloc (.cells #[.complex .f64 7598952565167317594 0, .complex .f64 4607182418800017408 0] 26)).alloc (.cells #[.complex .f64 4607182418800017408 0, .complex .f64 1614679632300144556 0] 26)).alloc (.cells #[.slice (some ⟨w.heap.size, 0, none⟩) 2 2, .slice (some ⟨w.heap.size + 1, 0, none⟩) 2 2] 22))) (cs := #[.complex .f64 4607182418800017408 0, .complex .f64 4607182418800017408 0]) (k := 2) (f := (fun j => ([(4607182418800017408, 0), (4607182418800017408, 0)] : List (Nat × Nat))[j]!)) (fun j hj => by
      have q : j = 0 ∨ j = 1 := by omega
      rcases q with rfl | rfl <;> rfl)
  rw [s3] at h
  exact h.up (Up.refl _)
abbrev w17 (w : World) : World := (w.alloc (.cells #[.complex .f64 4607182418800017408 0] 26)).alloc (.cells #[.slice (some ⟨w.heap.size, 0, none⟩) 1 1] 22)
theorem w17_up (w : World) : Up w (w17 w) := ((Up.alloc _ _).trans (Up.alloc _ _))
theorem w17_r0 (w : World) : RowV (w17 w) (some ⟨w.heap.size, 0, none⟩) 1 (fun j => ([(4607182418800017408, 0)] : List (Nat × Nat))[j]!) := by
  have s0 : (w).heap.size = w.heap.size := by rfl
  have h := rowNew (w) (cs := #[.complex .f64 4607182418800017408 0]) (k := 1) (f := (fun j => ([(4607182418800017408, 0)] : List (Nat × Nat))[j]!)) (fun j hj => by
      have q : j = 0 := by omega
      subst q
      rfl)
  rw [s0] at h
  exact h.up (Up.alloc _ _)
theorem w17_t1 (w : World) : TR (w17 w) (some ⟨w.heap.size + 1, 0, none⟩) 1 (fun _ => 1) (fun _ => (fun j => ([(4607182418800017408, 0)] : List (Nat × Nat))[j]!)) := by
  have s1 : ((w.alloc (.cells #[.complex .f64 4607182418800017408 0] 26))).heap.size = w.heap.size + 1 := by rw [sz1]
  have q0 : (w).heap.size = w.heap.size := by rfl
  have h0 := rowNew (w) (cs := #[.complex .f64 4607182418800017408 0]) (k := 1) (f := (fun j => ([(4607182418800017408, 0)] : List (Nat × Nat))[j]!)) (fun j hj => by
      have q : j = 0 := by omega
      subst q
      rfl)
  rw [q0] at h0
  have g0 : RowV ((w.alloc (.cells #[.complex .f64 4607182418800017408 0] 26))) (some ⟨w.heap.size, 0, none⟩) 1 (fun j => ([(4607182418800017408, 0)] : List (Nat × Nat))[j]!) := h0.up (Up.refl _)
  have h := trNew1 ((w.alloc (.cells #[.complex .f64 4607182418800017408 0] 26))) g0
  rw [s1] at h
  exact h.up (Up.refl _)
abbrev w18 (w : World) : World := (((w.alloc (.cells #[.complex .f64 7598952565167317594 0, .complex .f64 0 0] 26)).alloc (.cells #[.complex .f64 7606397961505018759 0, .complex .f64 4607182418800017408 0] 26)).alloc (.cells #[.slice (some ⟨w.heap.size, 0, none⟩) 2 2, .slice (some ⟨w.heap.size + 1, 0, none⟩) 2 2] 22)).alloc (.cells #[.complex .f64 7598952565167317594 0, .complex .f64 7598952565167317594 0] 26)
theorem w18_up (w : World) : Up w (w18 w) := ((((Up.alloc _ _).trans (Up.alloc _ _)).trans (Up.alloc _ _)).trans (Up.alloc _ _))
theorem w18_r0 (w : World) : RowV (w18 w) (some ⟨w.heap.size, 0, none⟩) 2 (fun j => ([(7598952565167317594, 0), (0, 0)] : List (Nat × Nat))[j]!) := by
  have s0 : (w).heap.size = w.heap.size := by rfl
  have h := rowNew (w) (cs := #[.complex .f64 7598952565167317594 0, .complex .f64 0 0]) (k := 2) (f := (fun j => ([(7598952565167317594, 0), (0, 0)] : List (Nat × Nat))[j]!)) (fun j hj => by
      have q : j = 0 ∨ j = 1 := by omega
      rcases q with rfl | rfl <;> rfl)
  rw [s0] at h
  exact h.up (((Up.alloc _ _).trans (Up.alloc _ _)).trans (Up.alloc _ _))
theorem w18_r1 (w : World) : RowV (w18 w) (some ⟨w.heap.size + 1, 0, none⟩) 2 (fun j => ([(7606397961505018759, 0), (4607182418800017408, 0)] : List (Nat × Nat))[j]!) := by
  have s1 : ((w.alloc (.cells #[.complex .f64 7598952565167317594 0, .complex .f64 0 0] 26))).heap.size = w.heap.size + 1 := by rw [sz1]
  have h := rowNew ((w.alloc (.cells #[.complex .f64 7598952565167317594 0, .complex .f64 0 0] 26))) (cs := #[.complex .f64 7606397961505018759 0, .complex .f64 4607182418800017408 0]) (k := 2) (f := (fun j => ([(7606397961505018759, 0), (4607182418800017408, 0)] : List (Nat × Nat))[j]!)) (fun j hj => by
      have q : j = 0 ∨ j = 1 := by omega
      rcases q with rfl | rfl <;> rfl)
  rw [s1] at h
  exact h.up ((Up.alloc _ _).trans (Up.alloc _ _))
theorem w18_t2 (w : World) : TR (w18 w) (some ⟨w.heap.size + 1 + 1, 0, none⟩) 2 (fun _ => 2) (fun i => if i = 0 then (fun j => ([(7598952565167317594, 0), (0, 0)] : List (Nat × Nat))[j]!) else (fun j => ([(7606397961505018759, 0), (4607182418800017408, 0)] : List (Nat × Nat))[j]!)) := by
  have s2 : (((w.alloc (.cells #[.complex .f64 7598952565167317594 0, .complex .f64 0 0] 26)).alloc (.cells #[.complex .f64 7606397961505018759 0, .complex .f64 4607182418800017408 0] 26))).heap.size = w.heap.size + 1 + 1 := by rw [sz1, sz1]
  have q0 : (w).heap.size = w.heap.size := by rfl
  have h0 := rowNew (w) (cs := #[.complex .f64 7598952565167317594 0, .complex .f64 0 0]) (k := 2) (f := (fun j => ([(7598952565167317594, 0), (0, 0)] : List (Nat × Nat))[j]!)) (fun j hj => by
      have q : j = 0 ∨ j = 1 := by omega
      rcases q with rfl | rfl <;> rfl)
  rw [q0] at h0
  have g0 : RowV (((w.alloc (.cells #[.complex .f64 7598952565167317594 0, .complex .f64 0 0] 26)).alloc (.cells #[.complex .f64 7606397961505018759 0, .complex .f64 4607182418800017408 0] 26))) (some ⟨w.heap.size, 0, none⟩) 2 (fun j => ([(7598952565167317594, 0), (0, 0)] : List (Nat × Nat))[j]!) := h0.up ((Up.alloc _ _))
  have q1 : ((w.alloc (.cells #[.complex .f64 7598952565167317594 0, .complex .f64 0 0] 26))).heap.size = w.heap.size + 1 := by rw [sz1]
  have h1 := rowNew ((w.alloc (.cells #[.complex .f64 7598952565167317594 0, .complex .f64 0 0] 26))) (cs := #[.complex .f64 7606397961505018759 0, .complex .f64 4607182418800017408 0]) (k := 2) (f := (fun j => ([(7606397961505018759, 0), (4607182418800017408, 0)] : List (Nat × Nat))[j]!)) (fun j hj => by
      have q : j = 0 ∨ j = 1 := by omega
      rcases q with rfl | rfl <;> rfl)
  rw [q1] at h1
  have g1 : RowV (((w.alloc (.cells #[.complex .f64 7598952565167317594 0, .complex .f64 0 0] 26)).alloc (.cells #[.complex .f64 7606397961505018759 0, .complex .f64 4607182418800017408 0] 26))) (some ⟨w.heap.size + 1, 0, none⟩) 2 (fun j => ([(7606397961505018759, 0), (4607182418800017408, 0)] : List (Nat × Nat))[j]!) := h1.up (Up.refl _)
  have h := trNew2 (((w.alloc (.cells #[.complex .f64 7598952565167317594 0, .complex .f64 0 0] 26)).alloc (.cells #[.complex .f64 7606397961505018759 0, .complex .f64 4607182418800017408 0] 26))) g0 g1
  rw [s2] at h
  exact h.up (Up.alloc _ _)
theorem w18_r3 (w : World) : RowV (w18 w) (some ⟨w.heap.size + 1 + 1 + 1, 0, none⟩) 2 (fun j => ([(7598952565167317594, 0), (7598952565167317594, 0)] : List (Nat × Nat))[j]!) := by
  have s3 : ((((w.alloc (.cells #[.complex .f64 7598952565167317594 0, .complex .f64 0 0] 26)).alloc (.cells #[.complex .f64 7606397961505018759 0, .complex .f64 4607182418800017408 0] 26)).alloc (.cells #[.slice (some ⟨w.heap.size, 0, none⟩) 2 2, .slice (some ⟨w.heap.size + 1, 0, none⟩) 2 2] 22))).heap.size = w.heap.size + 1 + 1 + 1 := by rw [sz1, sz1, sz1]
  have h := rowNew ((((w.alloc (.cells #[.complex .f64 7598952565167317594 0, .complex .f64 0 0] 26)).alloc (.cells #[.complex .f64 7606397961505018759 0, .complex .f64 4607182418800017408 0] 26)).alloc (.cells #[.slice (some ⟨w.heap.size, 0, none⟩) 2 2, .slice (some ⟨w.heap.size + 1, 0, none⟩) 2 2] 22))) (cs := #[.complex .f64 7598952565167317594 0, .complex .f64 7598952565167317594 0]) (k := 2) (f := (fun j => ([(7598952565167317594, 0), (7598952565167317594, 0)] : List (Nat × Nat))[j]!)) (fun j hj => by
      have q : j = 0 ∨ j = 1 := by omega
      rcases q with rfl | rfl <;> rfl)
  rw [s3] at h
  exact h.up (Up.refl _)
abbrev w19 (w : World) : World := ((w.alloc (.cells #[.complex .f64 2213095475689254516 0] 26)).alloc (.cells #[.slice (some ⟨w.heap.size, 0, none⟩) 1 1] 22)).alloc (.cells #[.complex .f64 7598952565167317594 0] 26)
theorem w19_up (w : World) : Up w (w19 w) := (((Up.alloc _ _).trans (Up.alloc _ _)).trans (Up.alloc _ _))
theorem w19_r0 (w : World) : RowV (w19 w) (some ⟨w.heap.size, 0, none⟩) 1 (fun j => ([(2213095475689254516, 0)] : List (Nat × Nat))[j]!) := by
  have s0 : (w).heap.size = w.heap.size := by rfl
  have h := rowNew (w) (cs := #[.complex .f64 2213095475689254516 0]) (k := 1) (f := (fun j => ([(2213095475689254516, 0)] : List (Nat × Nat))[j]!)) (fun j hj => by
      have q : j = 0 := by omega
      subst q
      rfl)
  rw [s0] at h
  exact h.up ((Up.alloc _ _).trans (Up.alloc _ _))
theorem w19_t1 (w : World) : TR (w19 w) (some ⟨w.heap.size + 1, 0, none⟩) 1 (fun _ => 1) (fun _ => (fun j => ([(2213095475689254516, 0)] : List (Nat × Nat))[j]!)) := by
  have s1 : ((w.alloc (.cells #[.complex .f64 2213095475689254516 0] 26))).heap.size = w.heap.size + 1 := by rw [sz1]
  have q0 : (w).heap.size = w.heap.size := by rfl
  have h0 := rowNew (w) (cs := #[.complex .f64 2213095475689254516 0]) (k := 1) (f := (fun j => ([(2213095475689254516, 0)] : List (Nat × Nat))[j]!)) (fun j hj => by
      have q : j = 0 := by omega
      subst q
      rfl)
  rw [q0] at h0
  have g0 : RowV ((w.alloc (.cells #[.complex .f64 2213095475689254516 0] 26))) (some ⟨w.heap.size, 0, none⟩) 1 (fun j => ([(2213095475689254516, 0)] : List (Nat × Nat))[j]!) := h0.up (Up.refl _)
  have h := trNew1 ((w.alloc (.cells #[.complex .f64 2213095475689254516 0] 26))) g0
  rw [s1] at h
  exact h.up (Up.alloc _ _)
theorem w19_r2 (w : World) : RowV (w19 w) (some ⟨w.heap.size + 1 + 1, 0, none⟩) 1 (fun j => ([(7598952565167317594, 0)] : List (Nat × Nat))[j]!) := by
  have s2 : (((w.alloc (.cells #[.complex .f64 2213095475689254516 0] 26)).alloc (.cells #[.slice (some ⟨w.heap.size, 0, none⟩) 1 1] 22))).heap.size = w.heap.size + 1 + 1 := by rw [sz1, sz1]
  have h := rowNew (((w.alloc (.cells #[.complex .f64 2213095475689254516 0] 26)).alloc (.cells #[.slice (some ⟨w.heap.size, 0, none⟩) 1 1] 22))) (cs := #[.complex .f64 7598952565167317594 0]) (k := 1) (f := (fun j => ([(7598952565167317594, 0)] : List (Nat × Nat))[j]!)) (fun j hj => by
      have q : j = 0 := by omega
      subst q
      rfl)
  rw [s2] at h
  exact h.up (Up.refl _)
abbrev w20 (w : World) : World := ((w.alloc (.cells #[.complex .f64 4607182418800017408 0, .complex .f64 4368491638549381120 0, .complex .f64 4368491638549381120 0] 26)).alloc (.cells #[.slice (some ⟨w.heap.size, 0, none⟩) 3 3] 22)).alloc (.cells #[.complex .f64 4607182418800017408 0, .complex .f64 4607182418800017408 0, .complex .f64 4607182418800017408 0] 26)
theorem w20_up (w : World) : Up w (w20 w) := (((Up.alloc _ _).trans (Up.alloc _ _)).trans (Up.alloc _ _))
theorem w20_r0 (w : World) : RowV (w20 w) (some ⟨w.heap.size, 0, none⟩) 3 (fun j => ([(4607182418800017408, 0), (4368491638549381120, 0), (4368491638549381120, 0)] : List (Nat × Nat))[j]!) := by
  have s0 : (w).heap.size = w.heap.size := by rfl
  have h := rowNew (w) (cs := #[.complex .f64 4607182418800017408 0, .complex .f64 4368491638549381120 0, .complex .f64 4368491638549381120 0]) (k := 3) (f := (fun j => ([(4607182418800017408, 0), (4368491638549381120, 0), (4368491638549381120, 0)] : List (Nat × Nat))[j]!)) (fun j hj => by
      have q : j = 0 ∨ j = 1 ∨ j = 2 := by omega
      rcases q with rfl | rfl | rfl <;> rfl)
  rw [s0] at h
  exact h.up ((Up.alloc _ _).trans (Up.alloc _ _))
theorem w20_t1 (w : World) : TR (w20 w) (some ⟨w.heap.size + 1, 0, none⟩) 1 (fun _ => 3) (fun _ => (fun j => ([(4607182418800017408, 0), (4368491638549381120, 0), (4368491638549381120, 0)] : List (Nat × Nat))[j]!)) := by
  have s1 : ((w.alloc (.cells #[.complex .f64 4607182418800017408 0, .complex .f64 4368491638549381120 0, .complex .f64 4368491638549381120 0] 26))).heap.size = w.heap.size + 1 := by rw [sz1]
  have q0 : (w).heap.size = w.heap.size := by rfl
  have h0 := rowNew (w) (cs := #[.complex .f64 4607182418800017408 0, .complex .f64 4368491638549381120 0, .complex .f64 4368491638549381120 0]) (k := 3) (f := (fun j => ([(4607182418800017408, 0), (4368491638549381120, 0), (4368491638549381120, 0)] : List (Nat × Nat))[j]!)) (fun j hj => by
      have q : j = 0 ∨ j = 1 ∨ j = 2 := by omega
      rcases q with rfl | rfl | rfl <;> rfl)
  rw [q0] at h0
  have g0 : RowV ((w.alloc (.cells #[.complex .f64 4607182418800017408 0, .complex .f64 4368491638549381120 0, .complex .f64 4368491638549381120 0] 26))) (some ⟨w.heap.size, 0, none⟩) 3 (fun j => ([(4607182418800017408, 0), (4368491638549381120, 0), (4368491638549381120, 0)] : List (Nat × Nat))[j]!) := h0.up (Up.refl _)
  have h := trNew1 ((w.alloc (.cells #[.complex .f64 4607182418800017408 0, .complex .f64 4368491638549381120 0, .complex .f64 4368491638549381120 0] 26))) g0
  rw [s1] at h
  exact h.up (Up.alloc _ _)
theorem w20_r2 (w : World) : RowV (w20 w) (some ⟨w.heap.size + 1 + 1, 0, none⟩) 3 (fun j => ([(4607182418800017408, 0), (4607182418800017408, 0), (4607182418800017408, 0)] : List (Nat × Nat))[j]!) := by
  have s2 : (((w.alloc (.cells #[.complex .f64 4607182418800017408 0, .complex .f64 4368491638549381120 0, .complex .f64 4368491638549381120 0] 26)).alloc (.cells #[.slice (some ⟨w.heap.size, 0, none⟩) 3 3] 22))).heap.size = w.heap.size + 1 + 1 := by rw [sz1, sz1]
  have h := rowNew (((w.alloc (.cells #[.complex .f64 4607182418800017408 0, .complex .f64 4368491638549381120 0, .complex .f64 4368491638549381120 0] 26)).alloc (.cells #[.slice (some ⟨w.heap.size, 0, none⟩) 3 3] 22))) (cs := #[.complex .f64 4607182418800017408 0, .complex .f64 4607182418800017408 0, .complex .f64 4607182418800017408 0]) (k := 3) (f := (fun j => ([(4607182418800017408, 0), (4607182418800017408, 0), (4607182418800017408, 0)] : List (Nat × Nat))[j]!)) (fun j hj => by
      have q : j = 0 ∨ j = 1 ∨ j = 2 := by omega
      rcases q with rfl | rfl | rfl <;> rfl)
  rw [s2] at h
  exact h.up (Up.refl _)
abbrev w21 (w : World) : World := ((w.alloc (.cells #[.complex .f64 4607182418800017408 0] 26)).alloc (.cells #[.slice (some ⟨w.heap.size, 0, none⟩) 1 1] 22)).alloc (.cells #[.complex .f64 9218868437227405312 0] 26)
theorem w21_up (w : World) : Up w (w21 w) := (((Up.alloc _ _).trans (Up.alloc _ _)).trans (Up.alloc _ _))
theorem w21_r0 (w : World) : RowV (w21 w) (some ⟨w.heap.size, 0, none⟩) 1 (fun j => ([(4607182418800017408, 0)] : List (Nat × Nat))[j]!) := by
  have s0 : (w).heap.size = w.heap.size := by rfl
  have h := rowNew (w) (cs := #[.complex .f64 4607182418800017408 0]) (k := 1) (f := (fun j => ([(4607182418800017408, 0)] : List (Nat × Nat))[j]!)) (fun j hj => by
      have q : j = 0 := by omega
      subst q
      rfl)
  rw [s0] at h
  exact h.up ((Up.alloc _ _).trans (Up.alloc _ _))
theorem w21_t1 (w : World) : TR (w21 w) (some ⟨w.heap.size + 1, 0, none⟩) 1 (fun _ => 1) (fun _ => (fun j => ([(4607182418800017408, 0)] : List (Nat × Nat))[j]!)) := by
  have s1 : ((w.alloc (.cells #[.complex .f64 4607182418800017408 0] 26))).heap.size = w.heap.size + 1 := by rw [sz1]
  have q0 : (w).heap.size = w.heap.size := by rfl
  have h0 := rowNew (w) (cs := #[.complex .f64 4607182418800017408 0]) (k := 1) (f := (fun j => ([(4607182418800017408, 0)] : List (Nat × Nat))[j]!)) (fun j hj => by
      have q : j = 0 := by omega
      subst q
      rfl)
  rw [q0] at h0
  have g0 : RowV ((w.alloc (.cells #[.complex .f64 4607182418800017408 0] 26))) (some ⟨w.heap.size, 0, none⟩) 1 (fun j => ([(4607182418800017408, 0)] : List (Nat × Nat))[j]!) := h0.up (Up.refl _)
  have h := trNew1 ((w.alloc (.cells #[.complex .f64 4607182418800017408 0] 26))) g0
  rw [s1] at h
  exact h.up (Up.alloc _ _)
theorem w21_r2 (w : World) : RowV (w21 w) (some ⟨w.heap.size + 1 + 1, 0, none⟩) 1 (fun j => ([(9218868437227405312, 0)] : List (Nat × Nat))[j]!) := by
  have s2 : (((w.alloc (.cells #[.complex .f64 4607182418800017408 0] 26)).alloc (.cells #[.slice (some ⟨w.heap.size, 0, none⟩) 1 1] 22))).heap.size = w.heap.size + 1 + 1 := by rw [sz1, sz1]
  have h := rowNew (((w.alloc (.cells #[.complex .f64 4607182418800017408 0] 26)).alloc (.cells #[.slice (some ⟨w.heap.size, 0, none⟩) 1 1] 22))) (cs := #[.complex .f64 9218868437227405312 0]) (k := 1) (f := (fun j => ([(9218868437227405312, 0)] : List (Nat × Nat))[j]!)) (fun j hj => by
      have q : j = 0 := by omega
      subst q
      rfl)
  rw [s2] at h
  exact h.up (Up.refl _)
set_option maxRecDepth 20000 in
theorem k1 (w : World) : Calls Try.prog 4 #[.slice (some ⟨w.heap.size + 1 + 1, 0, none⟩) 2 2, .slice (some ⟨w.heap.size + 1 + 1 + 1, 0, none⟩) 2 2] (w1 w) fun e w' => ∃ g, e = .returned (.tuple #[.slice (some ⟨g, 0, none⟩) 2 2, .int .i64 0]) ∧ Hid (w'.cell? ⟨g, 0, none⟩ = some (.complex .f64 4619567317775286272 0) ∧ w'.cell? ⟨g, 1, none⟩ = some (.complex .f64 4617315517961601024 0)) ∧ Hid (Up w w') := by
  have h := s4g (c := 2) (cb := 2) (M := (fun i j => ab2 ((if i = 0 then (fun j => ([(0, 0), (4607182418800017408, 0)] : List (Nat × Nat))[j]!) else (fun j => ([(4607182418800017408, 0), (0, 0)] : List (Nat × Nat))[j]!)) j))) (r := (fun i => ab2 ((fun j => ([(4617315517961601024, 0), (4619567317775286272, 0)] : List (Nat × Nat))[j]!) i))) (w1_t2 w) (w1_r3 w) (Nat.le_refl _) (fun _ _ _ _ => rfl) (fun _ _ => rfl) (by decide) (by decide +kernel) (by decide +kernel) (by decide +kernel) (by decide +kernel)
  exact h.mono fun e w' ⟨g, h0, h1, h2⟩ => ⟨g, h0, ⟨h1.out.known (by decide) (by decide +kernel), h1.out.known (by decide) (by decide +kernel)⟩, (w1_up w).trans h2.out⟩
set_option maxRecDepth 20000 in
theorem k2 (w : World) : Calls Try.prog 4 #[.slice (some ⟨w.heap.size + 1 + 1, 0, none⟩) 2 2, .slice (some ⟨w.heap.size + 1 + 1 + 1, 0, none⟩) 2 2] (w2 w) (SE 210 w) := by
  have h := s4e (c := 2) (cb := 2) (M := (fun i j => ab2 ((if i = 0 then (fun j => ([(4607182418800017408, 0), (4607182418800017408, 0)] : List (Nat × Nat))[j]!) else (fun j => ([(4607182418800017408, 0), (4607182418800017408, 0)] : List (Nat × Nat))[j]!)) j))) (r := (fun i => ab2 ((fun j => ([(4607182418800017408, 0), (4611686018427387904, 0)] : List (Nat × Nat))[j]!) i))) (w2_t2 w) (w2_r3 w) (Nat.le_refl _) (fun _ _ _ _ => rfl) (fun _ _ => rfl) (by decide) (by decide +kernel) (by decide +kernel) (by decide +kernel)
  exact h.mono fun e w' ⟨h0, h2⟩ => ⟨h0, (w2_up w).trans h2.out⟩
set_option maxRecDepth 20000 in
theorem k3 (w : World) : Calls Try.prog 4 #[.slice (some ⟨w.heap.size + 1, 0, none⟩) 1 1, .slice (some ⟨w.heap.size + 1 + 1, 0, none⟩) 1 1] (w3 w) (SE 210 w) := by
  have h := s4e (c := 1) (cb := 1) (M := (fun i j => ab2 ((fun j => ([(1614679632300144556, 0)] : List (Nat × Nat))[j]!) j))) (r := (fun i => ab2 ((fun j => ([(4607182418800017408, 0)] : List (Nat × Nat))[j]!) i))) (w3_t1 w) (w3_r2 w) (Nat.le_refl _) (fun _ _ _ _ => rfl) (fun _ _ => rfl) (by decide) (by decide +kernel) (by decide +kernel) (by decide +kernel)
  exact h.mono fun e w' ⟨h0, h2⟩ => ⟨h0, (w3_up w).trans h2.out⟩
set_option maxRecDepth 20000 in
theorem k4 (w : World) : Calls Try.prog 4 #[.slice (some ⟨w.heap.size + 1, 0, none⟩) 1 1, .slice (some ⟨w.heap.size + 1 + 1, 0, none⟩) 1 1] (w4 w) (SE 6 w) := by
  have h := s4c (c := 1) (cb := 1) (M := (fun i j => ab2 ((fun j => ([(0, 9221120237041090561)] : List (Nat × Nat))[j]!) j))) (pb := some ⟨w.heap.size + 1 + 1, 0, none⟩) (w4_t1 w) (fun _ _ _ _ => rfl) (by decide) (by decide +kernel)
  exact h.mono fun e w' ⟨h0, h2⟩ => ⟨h0, (w4_up w).trans h2.out⟩
theorem k5 (w : World) : Calls Try.prog 4 #[.slice (some ⟨w.heap.size + 1, 0, none⟩) 1 1, .slice (some ⟨w.heap.size + 1 + 1, 0, none⟩) 1 1] (w5 w) (SE 5 w) :=
  (t4a (c := 1) (w5_t1 w) (by decide) (by decide)).mono fun e w' ⟨h0, h2⟩ => ⟨h0, (w5_up w).trans h2.out⟩
theorem k6 (w : World) : Calls Try.prog 4 #[.slice none 0 0, .slice none 0 0] w fun e w' => ∃ g, e = .returned (.tuple #[.slice (some ⟨g, 0, none⟩) 0 0, .int .i64 0]) ∧ Hid (Up w w') :=
  (s4g (c := 0) (cb := 0) (f := fun _ _ => (0, 0)) (fb := fun _ => (0, 0)) (M := fun _ _ => (none, none)) (r := fun _ => (none, none)) (TR.nil w none _ _) (RowV.nil w none _) (Nat.le_refl _) (fun _ _ h => by omega) (fun _ h => by omega) (by decide) rfl rfl rfl rfl).mono fun e w' ⟨g, h0, h1, h2⟩ => ⟨g, h0, h2⟩
set_option maxRecDepth 20000 in
theorem k7 (w : World) : Calls Try.prog 6 #[.slice (some ⟨w.heap.size, 0, none⟩) 2 2, .slice none 0 0, .float .f64 0] (w7 w) fun e w' => ∃ g h, e = .returned (.tuple #[.slice (some ⟨g, 0, none⟩) 2 2, .slice (some ⟨h, 0, none⟩) 0 0, .int .i64 0]) ∧ Hid (w'.cell? ⟨g, 0, none⟩ = some (.complex .f64 4607182418800017408 0) ∧ w'.cell? ⟨g, 1, none⟩ = some (.complex .f64 4607182418800017408 0)) ∧ Hid (Up w w') := by
  have h := t6g (c := 0) (cm := 2) (load := 0) (TR.nil _ none (fun _ => 0) (fun _ _ => (0, 0))) (w7_r0 w) (Nat.le_refl _) (by decide) (by decide) (by decide) (by decide) (by decide +kernel) (by decide +kernel) (by decide +kernel) rfl (by decide +kernel)
  exact h.mono fun e w' ⟨g, h, h0, h1, h2⟩ => ⟨g, h, h0, ⟨h1.out.1.known (by decide) (by decide +kernel), h1.out.1.known (by decide) (by decide +kernel)⟩, (w7_up w).trans h2.out⟩
set_option maxRecDepth 20000 in
theorem k8 (w : World) : Calls Try.prog 6 #[.slice (some ⟨w.heap.size, 0, none⟩) 1 1, .slice (some ⟨w.heap.size + 1 + 1, 0, none⟩) 1 1, .float .f64 13830554455654793216] (w8 w) (CE 6 w) :=
  (t6c (c := 1) (cm := 1) (load := 13830554455654793216) (w8_t2 w) (w8_r0 w) (Nat.le_refl _) (by decide) (by decide) (by decide) (by decide) (by decide +kernel) (by decide +kernel) (by decide +kernel)).mono fun e w' ⟨h0, h2⟩ => ⟨h0, (w8_up w).trans h2.out⟩
set_option maxRecDepth 20000 in
theorem k9 (w : World) : Calls Try.prog 6 #[.slice (some ⟨w.heap.size, 0, none⟩) 1 1, .slice (some ⟨w.heap.size + 1 + 1, 0, none⟩) 1 1, .float .f64 0] (w9 w) (CE 5 w) :=
  (t6a (c := 1) (cm := 1) (load := 0) (w9_t2 w) (by decide) (by decide)).mono fun e w' ⟨h0, h2⟩ => ⟨h0, (w9_up w).trans h2.out⟩
set_option maxRecDepth 20000 in
theorem k10 (w : World) : Calls Try.prog 6 #[.slice (some ⟨w.heap.size, 0, none⟩) 1 1, .slice (some ⟨w.heap.size + 1 + 1, 0, none⟩) 1 1, .float .f64 0] (w10 w) (CE 210 w) :=
  (t6e (c := 1) (cm := 1) (load := 0) (w10_t2 w) (w10_r0 w) (Nat.le_refl _) (by decide) (by decide) (by decide) (by decide) (by decide +kernel) (by decide +kernel) (by decide +kernel) rfl (by decide +kernel)).mono fun e w' ⟨h0, h2⟩ => ⟨h0, (w10_up w).trans h2.out⟩
set_option maxRecDepth 20000 in
theorem k11 (w : World) : Calls Try.prog 6 #[.slice (some ⟨w.heap.size, 0, none⟩) 1 1, .slice (some ⟨w.heap.size + 1 + 1, 0, none⟩) 1 1, .float .f64 4607182418800017408] (w8 w) fun e w' => ∃ g h, e = .returned (.tuple #[.slice (some ⟨g, 0, none⟩) 1 1, .slice (some ⟨h, 0, none⟩) 1 1, .int .i64 0]) ∧ Hid (w'.cell? ⟨g, 0, none⟩ = some (.complex .f64 4602678819172646912 0) ∧ w'.cell? ⟨h, 0, none⟩ = some (.complex .f64 4602678819172646912 0)) ∧ Hid (Up w w') := by
  have h := t6g (c := 1) (cm := 1) (load := 4607182418800017408) (w8_t2 w) (w8_r0 w) (Nat.le_refl _) (by decide) (by decide) (by decide) (by decide) (by decide +kernel) (by decide +kernel) (by decide +kernel) rfl (by decide +kernel)
  exact h.mono fun e w' ⟨g, h, h0, h1, h2⟩ => ⟨g, h, h0, ⟨h1.out.1.known (by decide) (by decide +kernel), h1.out.2.known (by decide) (by decide +kernel)⟩, (w8_up w).trans h2.out⟩
set_option maxRecDepth 20000 in
theorem k16 (w : World) : Calls Try.prog 4 #[.slice (some ⟨w.heap.size + 1 + 1, 0, none⟩) 2 2, .slice (some ⟨w.heap.size + 1 + 1 + 1, 0, none⟩) 2 2] (w16 w) (SE 210 w) := by
  have h := s4e (c := 2) (cb := 2) (M := (fun i j => ab2 ((if i = 0 then (fun j => ([(7598952565167317594, 0), (4607182418800017408, 0)] : List (Nat × Nat))[j]!) else (fun j => ([(4607182418800017408, 0), (1614679632300144556, 0)] : List (Nat × Nat))[j]!)) j))) (r := (fun i => ab2 ((fun j => ([(4607182418800017408, 0), (4607182418800017408, 0)] : List (Nat × Nat))[j]!) i))) (w16_t2 w) (w16_r3 w) (Nat.le_refl _) (fun _ _ _ _ => rfl) (fun _ _ => rfl) (by decide) (by decide +kernel) (by decide +kernel) (by decide +kernel)
  exact h.mono fun e w' ⟨h0, h2⟩ => ⟨h0, (w16_up w).trans h2.out⟩
theorem k17 (w : World) : Calls Try.prog 9 #[.slice (some ⟨w.heap.size + 1, 0, none⟩) 1 1, .slice none 0 0] (w17 w) (SE 5 w) :=
  (t9a (c := 1) (m := 0) (w17_t1 w) (by decide) (by decide)).mono fun e w' ⟨h0, h2⟩ => ⟨h0, (w17_up w).trans h2.out⟩
set_option maxRecDepth 20000 in
theorem k18 (w : World) : Calls Try.prog 4 #[.slice (some ⟨w.heap.size + 1 + 1, 0, none⟩) 2 2, .slice (some ⟨w.heap.size + 1 + 1 + 1, 0, none⟩) 2 2] (w18 w) fun e w' => ∃ g, e = .returned (.tuple #[.slice (some ⟨g, 0, none⟩) 2 2, .int .i64 0]) ∧ Hid (True) ∧ Hid (Up w w') := by
  have h := s4g (c := 2) (cb := 2) (M := (fun i j => ab2 ((if i = 0 then (fun j => ([(7598952565167317594, 0), (0, 0)] : List (Nat × Nat))[j]!) else (fun j => ([(7606397961505018759, 0), (4607182418800017408, 0)] : List (Nat × Nat))[j]!)) j))) (r := (fun i => ab2 ((fun j => ([(7598952565167317594, 0), (7598952565167317594, 0)] : List (Nat × Nat))[j]!) i))) (w18_t2 w) (w18_r3 w) (Nat.le_refl _) (fun _ _ _ _ => rfl) (fun _ _ => rfl) (by decide) (by decide +kernel) (by decide +kernel) (by decide +kernel) (by decide +kernel)
  exact h.mono fun e w' ⟨g, h0, h1, h2⟩ => ⟨g, h0, trivial, (w18_up w).trans h2.out⟩
set_option maxRecDepth 20000 in
theorem k19 (w : World) : Calls Try.prog 4 #[.slice (some ⟨w.heap.size + 1, 0, none⟩) 1 1, .slice (some ⟨w.heap.size + 1 + 1, 0, none⟩) 1 1] (w19 w) (SE 210 w) := by
  have h := s4f (c := 1) (cb := 1) (M := (fun i j => ab2 ((fun j => ([(2213095475689254516, 0)] : List (Nat × Nat))[j]!) j))) (r := (fun i => ab2 ((fun j => ([(7598952565167317594, 0)] : List (Nat × Nat))[j]!) i))) (w19_t1 w) (w19_r2 w) (Nat.le_refl _) (fun _ _ _ _ => rfl) (fun _ _ => rfl) (by decide) (by decide +kernel) (by decide +kernel) (by decide +kernel) (by decide +kernel)
  exact h.mono fun e w' ⟨h0, h2⟩ => ⟨h0, (w19_up w).trans h2.out⟩
set_option maxRecDepth 20000 in
theorem k20 (w : World) : Calls Try.prog 9 #[.slice (some ⟨w.heap.size + 1, 0, none⟩) 1 1, .slice (some ⟨w.heap.size + 1 + 1, 0, none⟩) 3 3] (w20 w) fun e w' => ∃ g, e = .returned (.tuple #[.slice (some ⟨g, 0, none⟩) 1 1, .int .i64 0]) ∧ Hid (w'.cell? ⟨g, 0, none⟩ = some (.complex .f64 4607182418800017408 0)) ∧ Hid (Up w w') := by
  have h := t9 (c := 1) (cx := 3) (w20_t1 w) (w20_r2 w) (long_n 3 1) (by decide) (by decide) (by decide)
  exact h.mono fun e w' ⟨g, h0, h1, h2⟩ => ⟨g, h0, h1.out.known (by decide) (by decide +kernel), (w20_up w).trans h2.out⟩
set_option maxRecDepth 20000 in
theorem k21 (w : World) : Calls Try.prog 4 #[.slice (some ⟨w.heap.size + 1, 0, none⟩) 1 1, .slice (some ⟨w.heap.size + 1 + 1, 0, none⟩) 1 1] (w21 w) (SE 6 w) := by
  have h := s4d (c := 1) (cb := 1) (M := (fun i j => ab2 ((fun j => ([(4607182418800017408, 0)] : List (Nat × Nat))[j]!) j))) (r := (fun i => ab2 ((fun j => ([(9218868437227405312, 0)] : List (Nat × Nat))[j]!) i))) (w21_t1 w) (w21_r2 w) (Nat.le_refl _) (fun _ _ _ _ => rfl) (fun _ _ => rfl) (by decide) (by decide +kernel) (by decide +kernel)
  exact h.mono fun e w' ⟨h0, h2⟩ => ⟨h0, (w21_up w).trans h2.out⟩
/-- A table with ones on its diagonal is solved by noughts. -/
def zC : CN := (ab 0, ab 0)
def oC : CN := (ab 4607182418800017408, ab 0)
abbrev idT (n : Nat) : Nat → Nat → CN := joC idC (fun _ => zC) n
theorem id_on {n i : Nat} (hi : i < n) : idT n i i = oC := by
  unfold idT joC
  rw [if_pos hi, if_pos hi]
  unfold idC
  rw [if_pos rfl]; rfl
theorem id_off {n i j : Nat} (h : i ≠ j) : idT n i j = zC := by
  unfold idT joC
  by_cases e : i < n
  · rw [if_pos e]
    by_cases e2 : j < n
    · rw [if_pos e2]; unfold idC; rw [if_neg h]; rfl
    · rw [if_neg e2]; split <;> rfl
  · rw [if_neg e]; rfl
theorem id_val (n i j : Nat) : idT n i j = zC ∨ idT n i j = oC := by
  by_cases e : i = j
  · subst e
    by_cases h : i < n
    · exact Or.inr (id_on h)
    · refine Or.inl ?_
      unfold idT joC
      rw [if_neg h]; rfl
  · exact Or.inl (id_off e)
theorem z_div : divC zC oC = zC := by decide +kernel
theorem z_mul : mulC zC zC = zC := by decide +kernel
theorem z_sub : subC zC zC = zC := by decide +kernel
theorem o_sub : subC oC zC = oC := by decide +kernel
theorem z_above : aboveF (sqC zC) (sqC oC) = false := by decide +kernel
theorem o_ok : gtF (sqC oC) (ab 0) = true := by decide +kernel
theorem id_take {n m i k : Nat} (hk : k < n) (hi : k < i) : takeT (idT n) m i k = idT n := by
  funext a b
  unfold takeT
  by_cases e : a = i ∧ k < b ∧ b < m
  · obtain ⟨rfl, h1, h2⟩ := e
    rw [if_pos ⟨rfl, h1, h2⟩, id_off (i := a) (j := k) (by omega), id_on hk, z_div, id_off (i := k) (j := b) (by omega), z_mul]
    rcases id_val n a b with q | q <;> rw [q]
    · exact z_sub
    · exact o_sub
  · rw [if_neg e]
theorem id_rows {n m k : Nat} (hk : k < n) : ∀ t, rowsT (idT n) m k t = idT n
  | 0 => rfl
  | t + 1 => by rw [rowsT, id_rows hk t]; exact id_take hk (by omega)
theorem id_pk {n k : Nat} (hk : k < n) : ∀ r, pk (fun i => sqC (idT n (k + i) k)) (r + 1) = (0, sqC oC)
  | 0 => by
    rw [pk, pk]
    rw [if_pos (by simp)]
    show ((0 : Int), sqC (idT n (k + 0) k)) = _
    rw [Nat.add_zero, id_on hk]
  | r + 1 => by
    rw [pk, id_pk hk r, if_neg]
    rw [id_off (i := k + (r + 1)) (j := k) (by omega), z_above]
    decide
theorem id_pv {n k : Nat} (hk : k < n) : pvN (idT n) n k = k := by
  unfold pvN pvI
  obtain ⟨r, hr⟩ : ∃ r, n - k = r + 1 := ⟨n - k - 1, by omega⟩
  rw [hr, id_pk hk r]; rfl
theorem id_el {n : Nat} : ∀ k, k ≤ n → elT (idT n) n (n + 1) k = idT n
  | 0, _ => rfl
  | k + 1, h => by
    rw [elT, id_el k (by omega)]
    unfold colT
    rw [id_pv (by omega), swapT_self, id_rows (by omega)]
theorem id_sol (n : Nat) : solB (idT n) n (n + 1) = true := by
  unfold solB
  rw [allN_iff]
  intro k hk
  show okB (elT (idT n) n (n + 1) k) n k = true
  rw [id_el k (by omega)]
  unfold okB
  rw [id_pv hk, id_on hk]
  exact o_ok
theorem id_dn {n i : Nat} (hi : i < n) : ∀ t, dnS (idT n) (fun _ => zC) n i t = zC
  | 0 => id_off (by omega)
  | t + 1 => by rw [dnS, id_dn hi t, id_off (i := i) (j := i + 1 + t) (by omega), z_mul, z_sub]
theorem id_bx {n : Nat} : ∀ t, t ≤ n → bx (idT n) n t = fun _ => zC
  | 0, _ => rfl
  | t + 1, h => by
    funext a
    show (if a = n - 1 - t then divC (dnS (idT n) (bx (idT n) n t) n (n - 1 - t) t) (idT n (n - 1 - t) (n - 1 - t)) else bx (idT n) n t a) = zC
    rw [id_bx t (by omega), id_dn (by omega), id_on (by omega), z_div]
    split <;> rfl
theorem id_x (n : Nat) : xC idC (fun _ => zC) n = fun _ => zC := by
  unfold xC
  show bx (elT (idT n) n (n + 1) n) n n = _
  rw [id_el n (Nat.le_refl _), id_bx n (Nat.le_refl _)]
theorem id_fin (n : Nat) : finM idC n = true := by
  unfold finM
  rw [allN_iff]
  intro i _
  rw [allN_iff]
  intro j _
  show finCN (idC i j) = true
  unfold idC
  split
  · decide +kernel
  · decide +kernel
theorem z_fin (n : Nat) : finV (fun _ => zC) n = true := by
  unfold finV
  rw [allN_iff]
  intro i _
  show finCN zC = true
  decide +kernel
/-- Solve of such a table and of noughts. -/
theorem k15 {w0 w1 w : World} {p : Option Addr} {c g b0 : Nat} {f : Nat → Nat → Nat × Nat} (h : TR w1 p 64 (fun _ => 64) f ∧ ∀ i j, i < 64 → j < 64 → ab2 (f i j) = idC i j) (hx : XR b0 w0 g 64 (fun _ => zC)) (u1 : Up w1 w) (u0 : Up w0 w) : Calls Try.prog 4 #[.slice p 64 c, .slice (some ⟨g, 0, none⟩) 64 64] w fun e w' => ∃ g, e = .returned (.tuple #[.slice (some ⟨g, 0, none⟩) 64 64, .int .i64 0]) ∧ Hid (Up w w') := by
  obtain ⟨d, h3, h4⟩ := (hx.up u0).rowV
  exact (s4g (c := c) (cb := 64) (M := idC) (r := fun _ => zC) (h.1.up u1) h3 (Nat.le_refl _) h.2 h4 (by decide) (id_fin 64) (z_fin 64) (id_sol 64) (by rw [id_x]; exact z_fin 64)).mono fun e w' ⟨g, h0, h1, h2⟩ => ⟨g, h0, h2⟩
theorem k13 {w1 w : World} {p : Option Addr} {c g : Nat} {f : Nat → Nat → Nat × Nat} (h : TR w1 p 65 (fun _ => 65) f) (u1 : Up w1 w) : Calls Try.prog 4 #[.slice p 65 c, .slice (some ⟨g, 0, none⟩) 65 65] w (SE 3 w) := t4b (h.up u1) (by decide) (long_n 65 65) (by decide)
theorem k14 {w1 w : World} {p : Option Addr} {c : Nat} {f : Nat → Nat → Nat × Nat} (h : TR w1 p 65 (fun _ => 65) f) (u1 : Up w1 w) : Calls Try.prog 8 #[.slice p 65 c] w (SE 3 w) := t8l (h.up u1) (by decide) (by decide)
end Go.Proofs.Ythpoipajfkfdeab
