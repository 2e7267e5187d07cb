/- Lists and tables that are written out; what the calls tell of them. -/
import Derived.Test.YthpoipajfkfdeabCm
namespace Go.Proofs.Ythpoipajfkfdeab
open Go.ChangeShapes Go.WideShapes Go.ChangeAt Go.RowKit Go.Fl Ieee
attribute [local go_sem] run_store_float run_store_c call43 call17 run_neg fold_eq fold_ne fold_lt fold_gt abs_eq

theorem sz1 (w : World) (o : Obj) : (w.alloc o).heap.size = w.heap.size + 1 := by simp
theorem rowNew (w : World) {cs : Array Value} {k : Nat} {f : Nat → Nat × Nat} (h : ∀ j, j < k → cs[j]? = some (ce (f j))) : RowV (w.alloc (.cells cs 26)) (some ⟨w.heap.size, 0, none⟩) k f := fun _ => ⟨_, 0, rfl, fun j hj => by rw [Nat.zero_add, World.cell?_alloc_at _ _ _ _ rfl]; exact h j hj⟩
theorem trNew1 (w : World) {q0 : Option Addr} {m : Nat} {f0 : Nat → Nat × Nat} (h0 : RowV w q0 m f0) : TR (w.alloc (.cells #[.slice q0 m m] 22)) (some ⟨w.heap.size, 0, none⟩) 1 (fun _ => m) (fun _ => f0) := fun _ => ⟨_, 0, rfl, fun i hi => by
  obtain rfl : i = 0 := by omega
  exact ⟨q0, m, World.cell?_alloc_at _ _ _ _ rfl, Nat.le_refl _, h0.up (Up.alloc _ _)⟩⟩
theorem trNew2 (w : World) {q0 q1 : Option Addr} {m : Nat} {f0 f1 : Nat → Nat × Nat} (h0 : RowV w q0 m f0) (h1 : RowV w q1 m f1) : TR (w.alloc (.cells #[.slice q0 m m, .slice q1 m m] 22)) (some ⟨w.heap.size, 0, none⟩) 2 (fun _ => m) (fun i => if i = 0 then f0 else f1) := fun _ => ⟨_, 0, rfl, fun i hi => by
  have : i = 0 ∨ i = 1 := by omega
  rcases this with rfl | rfl
  · exact ⟨q0, m, World.cell?_alloc_at _ _ _ _ rfl, Nat.le_refl _, h0.up (Up.alloc _ _)⟩
  · exact ⟨q1, m, World.cell?_alloc_at _ _ _ _ rfl, Nat.le_refl _, h1.up (Up.alloc _ _)⟩⟩
theorem TR.nil (w : World) (p : Option Addr) (L : Nat → Nat) (f : Nat → Nat → Nat × Nat) : TR w p 0 L f := fun h => by omega
theorem RowV.nil (w : World) (p : Option Addr) (f : Nat → Nat × Nat) : RowV w p 0 f := fun h => by omega
theorem ab_is {s r : Nat} (h : ab s = some r) : s = r := by
  unfold ab at h
  split at h
  · cases h
  · simpa using h
theorem XR.known {b : Nat} {w : World} {g n : Nat} {x : Nat → CN} (h : XR b w g n x) {j : Nat} (hj : j < n) {p q : Nat} (hx : x j = (some p, some q)) : w.cell? ⟨g, j, none⟩ = some (.complex .f64 p q) := by
  obtain ⟨r, s, c, e, -⟩ := h.cell hj
  rw [hx] at e
  simp only [Prod.mk.injEq] at e
  rw [c, ab_is e.1, ab_is e.2]
theorem EQ.known {w0 w : World} {A B n m : Nat} {σ : Nat → Nat} {T : Nat → Nat → CN} (h : EQ w0 w A B n m σ T) {i j : Nat} (hi : i < n) (hj : j < m) {p q : Nat} (hx : T i j = (some p, some q)) : w.cell? ⟨B, σ i * m + j, none⟩ = some (.complex .f64 p q) := by
  obtain ⟨r, s, c, e, -⟩ := h.cell hi hj
  rw [hx] at e
  simp only [Prod.mk.injEq] at e
  rw [c, ab_is e.1, ab_is e.2]
theorem t8l {w : World} {p : Option Addr} {n c m : Nat} {f : Nat → Nat → Nat × Nat} (h : TR w p n (fun _ => m) f) (hn : 64 < n) (hn1 : n ≤ 1000000) : Calls Try.prog 8 #[.slice p n c] w (SE 3 w) := by
  have hw : widN n (fun _ => m) = m := by unfold widN; rw [if_neg (by omega)]
  have T21 : Hid (Calls Try.prog 21 #[.slice p n c] w (IR m w)) := by rw [← hw]; exact t21 h
  have T12 : Hid (Calls Try.prog 12 #[.slice p n c, .int .i64 m] w (BR true w)) := t12k h hn1 (long_n m n)
  have T18 : Hid (Calls Try.prog 18 #[.slice p n c] w (BR true w)) := t18l h hn
  clear h hw
  go_enter Try.func8, Try.ntmps8
  go_wp2_with (first
    | (go_at_call 21; (with_reducible refine T21.out.mono ?_); rintro e w1 ⟨rfl, hw⟩; subst w1)
    | (go_at_call 12; (with_reducible refine T12.out.mono ?_); rintro e w1 ⟨rfl, hw⟩; subst w1)
    | (go_at_call 18; (with_reducible refine T18.out.mono ?_); rintro e w1 ⟨rfl, hw⟩; subst w1))
  go_ret2
  exact ⟨rfl, Up.refl _⟩
abbrev wA (w : World) : World := ((w.alloc (.cells #[.complex .f64 4607182418800017408 0, .complex .f64 0 4607182418800017408] 26)).alloc (.cells #[.complex .f64 4611686018427387904 0, .complex .f64 0 0] 26)).alloc (.cells #[.slice (some ⟨w.heap.size, 0, none⟩) 2 2, .slice (some ⟨w.heap.size + 1, 0, none⟩) 2 2] 22)
theorem wA_up (w : World) : Up w (wA w) := (((Up.alloc _ _).trans (Up.alloc _ _)).trans (Up.alloc _ _))
theorem wA_r0 (w : World) : RowV (wA w) (some ⟨w.heap.size, 0, none⟩) 2 (fun j => ([(4607182418800017408, 0), (0, 4607182418800017408)] : List (Nat × Nat))[j]!) := by
  have s0 : (w).heap.size = w.heap.size := by rfl
  have h := rowNew (w) (cs := #[.complex .f64 4607182418800017408 0, .complex .f64 0 4607182418800017408]) (k := 2) (f := (fun j => ([(4607182418800017408, 0), (0, 4607182418800017408)] : List (Nat × Nat))[j]!)) (fun j hj => by
      have q : j = 0 ∨ j = 1 := by omega
      rcases q with rfl | rfl <;> rfl)
  rw [s0] at h
  exact h.up ((Up.alloc _ _).trans (Up.alloc _ _))
theorem wA_r1 (w : World) : RowV (wA w) (some ⟨w.heap.size + 1, 0, none⟩) 2 (fun j => ([(4611686018427387904, 0), (0, 0)] : List (Nat × Nat))[j]!) := by
  have s1 : ((w.alloc (.cells #[.complex .f64 4607182418800017408 0, .complex .f64 0 4607182418800017408] 26))).heap.size = w.heap.size + 1 := by rw [sz1]
  have h := rowNew ((w.alloc (.cells #[.complex .f64 4607182418800017408 0, .complex .f64 0 4607182418800017408] 26))) (cs := #[.complex .f64 4611686018427387904 0, .complex .f64 0 0]) (k := 2) (f := (fun j => ([(4611686018427387904, 0), (0, 0)] : List (Nat × Nat))[j]!)) (fun j hj => by
      have q : j = 0 ∨ j = 1 := by omega
      rcases q with rfl | rfl <;> rfl)
  rw [s1] at h
  exact h.up (Up.alloc _ _)
theorem wA_t2 (w : World) : TR (wA w) (some ⟨w.heap.size + 1 + 1, 0, none⟩) 2 (fun _ => 2) (fun i => if i = 0 then (fun j => ([(4607182418800017408, 0), (0, 4607182418800017408)] : List (Nat × Nat))[j]!) else (fun j => ([(4611686018427387904, 0), (0, 0)] : List (Nat × Nat))[j]!)) := by
  have s2 : (((w.alloc (.cells #[.complex .f64 4607182418800017408 0, .complex .f64 0 4607182418800017408] 26)).alloc (.cells #[.complex .f64 4611686018427387904 0, .complex .f64 0 0] 26))).heap.size = w.heap.size + 1 + 1 := by rw [sz1, sz1]
  have q0 : (w).heap.size = w.heap.size := by rfl
  have h0 := rowNew (w) (cs := #[.complex .f64 4607182418800017408 0, .complex .f64 0 4607182418800017408]) (k := 2) (f := (fun j => ([(4607182418800017408, 0), (0, 4607182418800017408)] : List (Nat × Nat))[j]!)) (fun j hj => by
      have q : j = 0 ∨ j = 1 := by omega
      rcases q with rfl | rfl <;> rfl)
  rw [q0] at h0
  have g0 : RowV (((w.alloc (.cells #[.complex .f64 4607182418800017408 0, .complex .f64 0 4607182418800017408] 26)).alloc (.cells #[.complex .f64 4611686018427387904 0, .complex .f64 0 0] 26))) (some ⟨w.heap.size, 0, none⟩) 2 (fun j => ([(4607182418800017408, 0), (0, 4607182418800017408)] : List (Nat × Nat))[j]!) := h0.up ((Up.alloc _ _))
  have q1 : ((w.alloc (.cells #[.complex .f64 4607182418800017408 0, .complex .f64 0 4607182418800017408] 26))).heap.size = w.heap.size + 1 := by rw [sz1]
  have h1 := rowNew ((w.alloc (.cells #[.complex .f64 4607182418800017408 0, .complex .f64 0 4607182418800017408] 26))) (cs := #[.complex .f64 4611686018427387904 0, .complex .f64 0 0]) (k := 2) (f := (fun j => ([(4611686018427387904, 0), (0, 0)] : List (Nat × Nat))[j]!)) (fun j hj => by
      have q : j = 0 ∨ j = 1 := by omega
      rcases q with rfl | rfl <;> rfl)
  rw [q1] at h1
  have g1 : RowV (((w.alloc (.cells #[.complex .f64 4607182418800017408 0, .complex .f64 0 4607182418800017408] 26)).alloc (.cells #[.complex .f64 4611686018427387904 0, .complex .f64 0 0] 26))) (some ⟨w.heap.size + 1, 0, none⟩) 2 (fun j => ([(4611686018427387904, 0), (0, 0)] : List (Nat × Nat))[j]!) := h1.up (Up.refl _)
  have h := trNew2 (((w.alloc (.cells #[.complex .f64 4607182418800017408 0, .complex .f64 0 4607182418800017408] 26)).alloc (.cells #[.complex .f64 4611686018427387904 0, .complex .f64 0 0] 26))) g0 g1
  rw [s2] at h
  exact h.up (Up.refl _)
abbrev wB (w : World) : World := (((w.alloc (.cells #[.complex .f64 4611686018427387904 0, .complex .f64 0 0] 26)).alloc (.cells #[.complex .f64 0 0, .complex .f64 0 4616189618054758400] 26)).alloc (.cells #[.slice (some ⟨w.heap.size, 0, none⟩) 2 2, .slice (some ⟨w.heap.size + 1, 0, none⟩) 2 2] 22)).alloc (.cells #[.complex .f64 4611686018427387904 0, .complex .f64 4620693217682128896 0] 26)
theorem wB_up (w : World) : Up w (wB w) := ((((Up.alloc _ _).trans (Up.alloc _ _)).trans (Up.alloc _ _)).trans (Up.alloc _ _))
theorem wB_r0 (w : World) : RowV (wB w) (some ⟨w.heap.size, 0, none⟩) 2 (fun j => ([(4611686018427387904, 0), (0, 0)] : List (Nat × Nat))[j]!) := by
  have s0 : (w).heap.size = w.heap.size := by rfl
  have h := rowNew (w) (cs := #[.complex .f64 4611686018427387904 0, .complex .f64 0 0]) (k := 2) (f := (fun j => ([(4611686018427387904, 0), (0, 0)] : List (Nat × Nat))[j]!)) (fun j hj => by
      have q : j = 0 ∨ j = 1 := by omega
      rcases q with rfl | rfl <;> rfl)
  rw [s0] at h
  exact h.up (((Up.alloc _ _).trans (Up.alloc _ _)).trans (Up.alloc _ _))
theorem wB_r1 (w : World) : RowV (wB w) (some ⟨w.heap.size + 1, 0, none⟩) 2 (fun j => ([(0, 0), (0, 4616189618054758400)] : List (Nat × Nat))[j]!) := by
  have s1 : ((w.alloc (.cells #[.complex .f64 4611686018427387904 0, .complex .f64 0 0] 26))).heap.size = w.heap.size + 1 := by rw [sz1]
  have h := rowNew ((w.alloc (.cells #[.complex .f64 4611686018427387904 0, .complex .f64 0 0] 26))) (cs := #[.complex .f64 0 0, .complex .f64 0 4616189618054758400]) (k := 2) (f := (fun j => ([(0, 0), (0, 4616189618054758400)] : List (Nat × Nat))[j]!)) (fun j hj => by
      have q : j = 0 ∨ j = 1 := by omega
      rcases q with rfl | rfl <;> rfl)
  rw [s1] at h
  exact h.up ((Up.alloc _ _).trans (Up.alloc _ _))
theorem wB_t2 (w : World) : TR (wB w) (some ⟨w.heap.size + 1 + 1, 0, none⟩) 2 (fun _ => 2) (fun i => if i = 0 then (fun j => ([(4611686018427387904, 0), (0, 0)] : List (Nat × Nat))[j]!) else (fun j => ([(0, 0), (0, 4616189618054758400)] : List (Nat × Nat))[j]!)) := by
  have s2 : (((w.alloc (.cells #[.complex .f64 4611686018427387904 0, .complex .f64 0 0] 26)).alloc (.cells #[.complex .f64 0 0, .complex .f64 0 4616189618054758400] 26))).heap.size = w.heap.size + 1 + 1 := by rw [sz1, sz1]
  have q0 : (w).heap.size = w.heap.size := by rfl
  have h0 := rowNew (w) (cs := #[.complex .f64 4611686018427387904 0, .complex .f64 0 0]) (k := 2) (f := (fun j => ([(4611686018427387904, 0), (0, 0)] : List (Nat × Nat))[j]!)) (fun j hj => by
      have q : j = 0 ∨ j = 1 := by omega
      rcases q with rfl | rfl <;> rfl)
  rw [q0] at h0
  have g0 : RowV (((w.alloc (.cells #[.complex .f64 4611686018427387904 0, .complex .f64 0 0] 26)).alloc (.cells #[.complex .f64 0 0, .complex .f64 0 4616189618054758400] 26))) (some ⟨w.heap.size, 0, none⟩) 2 (fun j => ([(4611686018427387904, 0), (0, 0)] : List (Nat × Nat))[j]!) := h0.up ((Up.alloc _ _))
  have q1 : ((w.alloc (.cells #[.complex .f64 4611686018427387904 0, .complex .f64 0 0] 26))).heap.size = w.heap.size + 1 := by rw [sz1]
  have h1 := rowNew ((w.alloc (.cells #[.complex .f64 4611686018427387904 0, .complex .f64 0 0] 26))) (cs := #[.complex .f64 0 0, .complex .f64 0 4616189618054758400]) (k := 2) (f := (fun j => ([(0, 0), (0, 4616189618054758400)] : List (Nat × Nat))[j]!)) (fun j hj => by
      have q : j = 0 ∨ j = 1 := by omega
      rcases q with rfl | rfl <;> rfl)
  rw [q1] at h1
  have g1 : RowV (((w.alloc (.cells #[.complex .f64 4611686018427387904 0, .complex .f64 0 0] 26)).alloc (.cells #[.complex .f64 0 0, .complex .f64 0 4616189618054758400] 26))) (some ⟨w.heap.size + 1, 0, none⟩) 2 (fun j => ([(0, 0), (0, 4616189618054758400)] : List (Nat × Nat))[j]!) := h1.up (Up.refl _)
  have h := trNew2 (((w.alloc (.cells #[.complex .f64 4611686018427387904 0, .complex .f64 0 0] 26)).alloc (.cells #[.complex .f64 0 0, .complex .f64 0 4616189618054758400] 26))) g0 g1
  rw [s2] at h
  exact h.up (Up.alloc _ _)
theorem wB_r3 (w : World) : RowV (wB w) (some ⟨w.heap.size + 1 + 1 + 1, 0, none⟩) 2 (fun j => ([(4611686018427387904, 0), (4620693217682128896, 0)] : List (Nat × Nat))[j]!) := by
  have s3 : ((((w.alloc (.cells #[.complex .f64 4611686018427387904 0, .complex .f64 0 0] 26)).alloc (.cells #[.complex .f64 0 0, .complex .f64 0 4616189618054758400] 26)).alloc (.cells #[.slice (some ⟨w.heap.size, 0, none⟩) 2 2, .slice (some ⟨w.heap.size + 1, 0, none⟩) 2 2] 22))).heap.size = w.heap.size + 1 + 1 + 1 := by rw [sz1, sz1, sz1]
  have h := rowNew ((((w.alloc (.cells #[.complex .f64 4611686018427387904 0, .complex .f64 0 0] 26)).alloc (.cells #[.complex .f64 0 0, .complex .f64 0 4616189618054758400] 26)).alloc (.cells #[.slice (some ⟨w.heap.size, 0, none⟩) 2 2, .slice (some ⟨w.heap.size + 1, 0, none⟩) 2 2] 22))) (cs := #[.complex .f64 4611686018427387904 0, .complex .f64 4620693217682128896 0]) (k := 2) (f := (fun j => ([(4611686018427387904, 0), (4620693217682128896, 0)] : List (Nat × Nat))[j]!)) (fun j hj => by
      have q : j = 0 ∨ j = 1 := by omega
      rcases q with rfl | rfl <;> rfl)
  rw [s3] at h
  exact h.up (Up.refl _)
abbrev wC (w : World) : World := ((w.alloc (.cells #[.complex .f64 4611686018427387904 0, .complex .f64 0 4611686018427387904] 26)).alloc (.cells #[.complex .f64 4607182418800017408 0, .complex .f64 0 4607182418800017408] 26)).alloc (.cells #[.slice (some ⟨w.heap.size + 1, 0, none⟩) 2 2] 22)
theorem wC_up (w : World) : Up w (wC w) := (((Up.alloc _ _).trans (Up.alloc _ _)).trans (Up.alloc _ _))
theorem wC_r0 (w : World) : RowV (wC w) (some ⟨w.heap.size, 0, none⟩) 2 (fun j => ([(4611686018427387904, 0), (0, 4611686018427387904)] : List (Nat × Nat))[j]!) := by
  have s0 : (w).heap.size = w.heap.size := by rfl
  have h := rowNew (w) (cs := #[.complex .f64 4611686018427387904 0, .complex .f64 0 4611686018427387904]) (k := 2) (f := (fun j => ([(4611686018427387904, 0), (0, 4611686018427387904)] : List (Nat × Nat))[j]!)) (fun j hj => by
      have q : j = 0 ∨ j = 1 := by omega
      rcases q with rfl | rfl <;> rfl)
  rw [s0] at h
  exact h.up ((Up.alloc _ _).trans (Up.alloc _ _))
theorem wC_r1 (w : World) : RowV (wC w) (some ⟨w.heap.size + 1, 0, none⟩) 2 (fun j => ([(4607182418800017408, 0), (0, 4607182418800017408)] : List (Nat × Nat))[j]!) := by
  have s1 : ((w.alloc (.cells #[.complex .f64 4611686018427387904 0, .complex .f64 0 4611686018427387904] 26))).heap.size = w.heap.size + 1 := by rw [sz1]
  have h := rowNew ((w.alloc (.cells #[.complex .f64 4611686018427387904 0, .complex .f64 0 4611686018427387904] 26))) (cs := #[.complex .f64 4607182418800017408 0, .complex .f64 0 4607182418800017408]) (k := 2) (f := (fun j => ([(4607182418800017408, 0), (0, 4607182418800017408)] : List (Nat × Nat))[j]!)) (fun j hj => by
      have q : j = 0 ∨ j = 1 := by omega
      rcases q with rfl | rfl <;> rfl)
  rw [s1] at h
  exact h.up (Up.alloc _ _)
theorem wC_t2 (w : World) : TR (wC w) (some ⟨w.heap.size + 1 + 1, 0, none⟩) 1 (fun _ => 2) (fun _ => (fun j => ([(4607182418800017408, 0), (0, 4607182418800017408)] : List (Nat × Nat))[j]!)) := by
  have s2 : (((w.alloc (.cells #[.complex .f64 4611686018427387904 0, .complex .f64 0 4611686018427387904] 26)).alloc (.cells #[.complex .f64 4607182418800017408 0, .complex .f64 0 4607182418800017408] 26))).heap.size = w.heap.size + 1 + 1 := by rw [sz1, sz1]
  have q1 : ((w.alloc (.cells #[.complex .f64 4611686018427387904 0, .complex .f64 0 4611686018427387904] 26))).heap.size = w.heap.size + 1 := by rw [sz1]
  have h1 := rowNew ((w.alloc (.cells #[.complex .f64 4611686018427387904 0, .complex .f64 0 4611686018427387904] 26))) (cs := #[.complex .f64 4607182418800017408 0, .complex .f64 0 4607182418800017408]) (k := 2) (f := (fun j => ([(4607182418800017408, 0), (0, 4607182418800017408)] : List (Nat × Nat))[j]!)) (fun j hj => by
      have q : j = 0 ∨ j = 1 := by omega
      rcases q with rfl | rfl <;> rfl)
  rw [q1] at h1
  have g1 : RowV (((w.alloc (.cells #[.complex .f64 4611686018427387904 0, .complex .f64 0 4611686018427387904] 26)).alloc (.cells #[.complex .f64 4607182418800017408 0, .complex .f64 0 4607182418800017408] 26))) (some ⟨w.heap.size + 1, 0, none⟩) 2 (fun j => ([(4607182418800017408, 0), (0, 4607182418800017408)] : List (Nat × Nat))[j]!) := h1.up (Up.refl _)
  have h := trNew1 (((w.alloc (.cells #[.complex .f64 4611686018427387904 0, .complex .f64 0 4611686018427387904] 26)).alloc (.cells #[.complex .f64 4607182418800017408 0, .complex .f64 0 4607182418800017408] 26))) g1
  rw [s2] at h
  exact h.up (Up.refl _)
abbrev wD (w : World) : World := (((w.alloc (.cells #[.complex .f64 4607182418800017408 0, .complex .f64 4611686018427387904 0] 26)).alloc (.cells #[.complex .f64 0 0, .complex .f64 0 4607182418800017408] 26)).alloc (.cells #[.slice (some ⟨w.heap.size, 0, none⟩) 2 2, .slice (some ⟨w.heap.size + 1, 0, none⟩) 2 2] 22)).alloc (.cells #[.complex .f64 4613937818241073152 0, .complex .f64 4607182418800017408 0] 26)
theorem wD_up (w : World) : Up w (wD w) := ((((Up.alloc _ _).trans (Up.alloc _ _)).trans (Up.alloc _ _)).trans (Up.alloc _ _))
theorem wD_r0 (w : World) : RowV (wD w) (some ⟨w.heap.size, 0, none⟩) 2 (fun j => ([(4607182418800017408, 0), (4611686018427387904, 0)] : List (Nat × Nat))[j]!) := by
  have s0 : (w).heap.size = w.heap.size := by rfl
  have h := rowNew (w) (cs := #[.complex .f64 4607182418800017408 0, .complex .f64 4611686018427387904 0]) (k := 2) (f := (fun j => ([(4607182418800017408, 0), (4611686018427387904, 0)] : List (Nat × Nat))[j]!)) (fun j hj => by
      have q : j = 0 ∨ j = 1 := by omega
      rcases q with rfl | rfl <;> rfl)
  rw [s0] at h
  exact h.up (((Up.alloc _ _).trans (Up.alloc _ _)).trans (Up.alloc _ _))
theorem wD_r1 (w : World) : RowV (wD w) (some ⟨w.heap.size + 1, 0, none⟩) 2 (fun j => ([(0, 0), (0, 4607182418800017408)] : List (Nat × Nat))[j]!) := by
  have s1 : ((w.alloc (.cells #[.complex .f64 4607182418800017408 0, .complex .f64 4611686018427387904 0] 26))).heap.size = w.heap.size + 1 := by rw [sz1]
  have h := rowNew ((w.alloc (.cells #[.complex .f64 4607182418800017408 0, .complex .f64 4611686018427387904 0] 26))) (cs := #[.complex .f64 0 0, .complex .f64 0 4607182418800017408]) (k := 2) (f := (fun j => ([(0, 0), (0, 4607182418800017408)] : List (Nat × Nat))[j]!)) (fun j hj => by
      have q : j = 0 ∨ j = 1 := by omega
      rcases q with rfl | rfl <;> rfl)
  rw [s1] at h
  exact h.up ((Up.alloc _ _).trans (Up.alloc _ _))
theorem wD_t2 (w : World) : TR (wD w) (some ⟨w.heap.size + 1 + 1, 0, none⟩) 2 (fun _ => 2) (fun i => if i = 0 then (fun j => ([(4607182418800017408, 0), (4611686018427387904, 0)] : List (Nat × Nat))[j]!) else (fun j => ([(0, 0), (0, 4607182418800017408)] : List (Nat × Nat))[j]!)) := by
  have s2 : (((w.alloc (.cells #[.complex .f64 4607182418800017408 0, .complex .f64 4611686018427387904 0] 26)).alloc (.cells #[.complex .f64 0 0, .complex .f64 0 4607182418800017408] 26))).heap.size = w.heap.size + 1 + 1 := by rw [sz1, sz1]
  have q0 : (w).heap.size = w.heap.size := by rfl
  have h0 := rowNew (w) (cs := #[.complex .f64 4607182418800017408 0, .complex .f64 4611686018427387904 0]) (k := 2) (f := (fun j => ([(4607182418800017408, 0), (4611686018427387904, 0)] : List (Nat × Nat))[j]!)) (fun j hj => by
      have q : j = 0 ∨ j = 1 := by omega
      rcases q with rfl | rfl <;> rfl)
  rw [q0] at h0
  have g0 : RowV (((w.alloc (.cells #[.complex .f64 4607182418800017408 0, .complex .f64 4611686018427387904 0] 26)).alloc (.cells #[.complex .f64 0 0, .complex .f64 0 4607182418800017408] 26))) (some ⟨w.heap.size, 0, none⟩) 2 (fun j => ([(4607182418800017408, 0), (4611686018427387904, 0)] : List (Nat × Nat))[j]!) := h0.up ((Up.alloc _ _))
  have q1 : ((w.alloc (.cells #[.complex .f64 4607182418800017408 0, .complex .f64 4611686018427387904 0] 26))).heap.size = w.heap.size + 1 := by rw [sz1]
  have h1 := rowNew ((w.alloc (.cells #[.complex .f64 4607182418800017408 0, .complex .f64 4611686018427387904 0] 26))) (cs := #[.complex .f64 0 0, .complex .f64 0 4607182418800017408]) (k := 2) (f := (fun j => ([(0, 0), (0, 4607182418800017408)] : List (Nat × Nat))[j]!)) (fun j hj => by
      have q : j = 0 ∨ j = 1 := by omega
      rcases q with rfl | rfl <;> rfl)
  rw [q1] at h1
  have g1 : RowV (((w.alloc (.cells #[.complex .f64 4607182418800017408 0, .complex .f64 4611686018427387904 0] 26)).alloc (.cells #[.complex .f64 0 0, .complex .f64 0 4607182418800017408] 26))) (some ⟨w.heap.size + 1, 0, none⟩) 2 (fun j => ([(0, 0), (0, 4607182418800017408)] : List (Nat × Nat))[j]!) := h1.up (Up.refl _)
  have h := trNew2 (((w.alloc (.cells #[.complex .f64 4607182418800017408 0, .complex .f64 4611686018427387904 0] 26)).alloc (.cells #[.complex .f64 0 0, .complex .f64 0 4607182418800017408] 26))) g0 g1
  rw [s2] at h
  exact h.up (Up.alloc _ _)
theorem wD_r3 (w : World) : RowV (wD w) (some ⟨w.heap.size + 1 + 1 + 1, 0, none⟩) 2 (fun j => ([(4613937818241073152, 0), (4607182418800017408, 0)] : List (Nat × Nat))[j]!) := by
  have s3 : ((((w.alloc (.cells #[.complex .f64 4607182418800017408 0, .complex .f64 4611686018427387904 0] 26)).alloc (.cells #[.complex .f64 0 0, .complex .f64 0 4607182418800017408] 26)).alloc (.cells #[.slice (some ⟨w.heap.size, 0, none⟩) 2 2, .slice (some ⟨w.heap.size + 1, 0, none⟩) 2 2] 22))).heap.size = w.heap.size + 1 + 1 + 1 := by rw [sz1, sz1, sz1]
  have h := rowNew ((((w.alloc (.cells #[.complex .f64 4607182418800017408 0, .complex .f64 4611686018427387904 0] 26)).alloc (.cells #[.complex .f64 0 0, .complex .f64 0 4607182418800017408] 26)).alloc (.cells #[.slice (some ⟨w.heap.size, 0, none⟩) 2 2, .slice (some ⟨w.heap.size + 1, 0, none⟩) 2 2] 22))) (cs := #[.complex .f64 4613937818241073152 0, .complex .f64 4607182418800017408 0]) (k := 2) (f := (fun j => ([(4613937818241073152, 0), (4607182418800017408, 0)] : List (Nat × Nat))[j]!)) (fun j hj => by
      have q : j = 0 ∨ j = 1 := by omega
      rcases q with rfl | rfl <;> rfl)
  rw [s3] at h
  exact h.up (Up.refl _)
set_option maxRecDepth 20000 in
theorem kA (w : World) : Calls Try.prog 8 #[.slice (some ⟨w.heap.size + 1 + 1, 0, none⟩) 2 2] (wA w) fun e w' => ∃ A B, e = .returned (.tuple #[.slice (some ⟨A, 0, none⟩) 2 2, .int .i64 0]) ∧ Hid (w'.cell? ⟨A, 0, none⟩ = some (.slice (some ⟨B, 0, none⟩) 2 2) ∧ w'.cell? ⟨A, 1, none⟩ = some (.slice (some ⟨B, 2, none⟩) 2 2) ∧ w'.cell? ⟨B, 0, none⟩ = some (.complex .f64 4611686018427387904 0) ∧ w'.cell? ⟨B, 1, none⟩ = some (.complex .f64 4611686018427387904 0) ∧ w'.cell? ⟨B, 3, none⟩ = some (.complex .f64 4616189618054758400 0)) ∧ Hid (Up w w') := by
  have h := t8 (c := 2) (m := 2) (wA_t2 w) (by decide) (by decide) (by decide) (by decide) (by decide)
  refine h.mono fun e w' ⟨A, B, h0, h1⟩ => ⟨A, B, h0, ⟨h1.out.row (by decide), h1.out.row (by decide), h1.out.known (i := 0) (j := 0) (by decide) (by decide) (by decide +kernel), h1.out.known (i := 0) (j := 1) (by decide) (by decide) (by decide +kernel), h1.out.known (i := 1) (j := 1) (by decide) (by decide) (by decide +kernel)⟩, (wA_up w).trans h1.out.up⟩
set_option maxRecDepth 20000 in
theorem kB (w : World) : Calls Try.prog 4 #[.slice (some ⟨w.heap.size + 1 + 1, 0, none⟩) 2 2, .slice (some ⟨w.heap.size + 1 + 1 + 1, 0, none⟩) 2 2] (wB w) fun e w' => ∃ g, e = .returned (.tuple #[.slice (some ⟨g, 0, none⟩) 2 2, .int .i64 0]) ∧ Hid (w'.cell? ⟨g, 0, none⟩ = some (.complex .f64 4607182418800017408 0) ∧ w'.cell? ⟨g, 1, none⟩ = some (.complex .f64 0 13835058055282163712)) ∧ Hid (Up w w') := by
  have h := s4g (c := 2) (cb := 2) (M := (fun i j => ab2 ((if i = 0 then (fun j => ([(4611686018427387904, 0), (0, 0)] : List (Nat × Nat))[j]!) else (fun j => ([(0, 0), (0, 4616189618054758400)] : List (Nat × Nat))[j]!)) j))) (r := (fun i => ab2 ((fun j => ([(4611686018427387904, 0), (4620693217682128896, 0)] : List (Nat × Nat))[j]!) i))) (wB_t2 w) (wB_r3 w) (Nat.le_refl _) (fun _ _ _ _ => rfl) (fun _ _ => rfl) (by decide) (by decide +kernel) (by decide +kernel) (by decide +kernel) (by decide +kernel)
  exact h.mono fun e w' ⟨g, h0, h1, h2⟩ => ⟨g, h0, ⟨h1.out.known (by decide) (by decide +kernel), h1.out.known (by decide) (by decide +kernel)⟩, (wB_up w).trans h2.out⟩
set_option maxRecDepth 20000 in
theorem kC (w : World) : Calls Try.prog 6 #[.slice (some ⟨w.heap.size, 0, none⟩) 2 2, .slice (some ⟨w.heap.size + 1 + 1, 0, none⟩) 1 1, .float .f64 0] (wC w) fun e w' => ∃ g h, e = .returned (.tuple #[.slice (some ⟨g, 0, none⟩) 2 2, .slice (some ⟨h, 0, none⟩) 1 1, .int .i64 0]) ∧ Hid (w'.cell? ⟨g, 0, none⟩ = some (.complex .f64 0 0) ∧ w'.cell? ⟨g, 1, none⟩ = some (.complex .f64 0 0) ∧ w'.cell? ⟨h, 0, none⟩ = some (.complex .f64 4611686018427387904 0)) ∧ Hid (Up w w') := by
  have h := t6g (c := 1) (cm := 2) (load := 0) (wC_t2 w) (wC_r0 w) (Nat.le_refl _) (by decide) (by decide) (by decide) (by decide) (by decide +kernel) (by decide +kernel) (by decide +kernel) rfl (by decide +kernel)
  exact h.mono fun e w' ⟨g, h, h0, h1, h2⟩ => ⟨g, h, h0, ⟨h1.out.1.known (by decide) (by decide +kernel), h1.out.1.known (by decide) (by decide +kernel), h1.out.2.known (by decide) (by decide +kernel)⟩, (wC_up w).trans h2.out⟩
set_option maxRecDepth 20000 in
theorem kD (w : World) : Calls Try.prog 9 #[.slice (some ⟨w.heap.size + 1 + 1, 0, none⟩) 2 2, .slice (some ⟨w.heap.size + 1 + 1 + 1, 0, none⟩) 2 2] (wD w) fun e w' => ∃ g, e = .returned (.tuple #[.slice (some ⟨g, 0, none⟩) 2 2, .int .i64 0]) ∧ Hid (w'.cell? ⟨g, 0, none⟩ = some (.complex .f64 4617315517961601024 0) ∧ w'.cell? ⟨g, 1, none⟩ = some (.complex .f64 0 4607182418800017408)) ∧ Hid (Up w w') := by
  have h := t9 (c := 2) (cx := 2) (wD_t2 w) (wD_r3 w) (long_n 2 2) (by decide) (by decide) (by decide)
  exact h.mono fun e w' ⟨g, h0, h1, h2⟩ => ⟨g, h0, ⟨h1.out.known (by decide) (by decide +kernel), h1.out.known (by decide) (by decide +kernel)⟩, (wD_up w).trans h2.out⟩
end Go.Proofs.Ythpoipajfkfdeab
