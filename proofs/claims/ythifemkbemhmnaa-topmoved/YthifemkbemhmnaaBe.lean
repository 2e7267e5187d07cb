/- Four questions; Doppler where it tells an error. -/
import Derived.Test.YthifemkbemhmnaaBd
namespace Go.Proofs.Ythifemkbemhmnaa
open Go.ChangeShapes Go.WideShapes Go.ChangeAt Go.RowKit Go.Fl Ieee
attribute [local go_sem] run_store_float run_store_complex call69 call32 run_neg fold_eq fold_ne fold_lt fold_gt abs_eq

abbrev new4 (w : World) (g0 g1 g2 g3 : FuncId) (a0 c0 a1 c1 a2 c2 a3 c3 : Array Value) (k0 k1 k2 k3 : Int) : World := w.alloc (.cells #[.func (.func g0) a0 c0, .int .i64 k0, .func (.func g1) a1 c1, .int .i64 k1, .func (.func g2) a2 c2, .int .i64 k2, .func (.func g3) a3 c3, .int .i64 k3] 86)
set_option maxRecDepth 20000 in
theorem ask4 {w : World} {g0 g1 g2 g3 : FuncId} {a0 c0 a1 c1 a2 c2 a3 c3 : Array Value} {k0 k1 k2 k3 : Int} {b0 b1 b2 b3 : Bool} {z : Int}
    (e0 : ∀ args w, (callFunc g0 args).run Try.prog w = .ok (.enter g0 args) w) (e1 : ∀ args w, (callFunc g1 args).run Try.prog w = .ok (.enter g1 args) w) (e2 : ∀ args w, (callFunc g2 args).run Try.prog w = .ok (.enter g2 args) w) (e3 : ∀ args w, (callFunc g3 args).run Try.prog w = .ok (.enter g3 args) w)
    (h0 : ∀ w', Up w w' → Calls Try.prog g0 (a0 ++ c0) w' (BR b0 w')) (h1 : b0 = false → ∀ w', Up w w' → Calls Try.prog g1 (a1 ++ c1) w' (BR b1 w')) (h2 : b0 = false → b1 = false → ∀ w', Up w w' → Calls Try.prog g2 (a2 ++ c2) w' (BR b2 w')) (h3 : b0 = false → b1 = false → b2 = false → ∀ w', Up w w' → Calls Try.prog g3 (a3 ++ c3) w' (BR b3 w'))
    (hz : z = if b0 then k0 else if b1 then k1 else if b2 then k2 else if b3 then k3 else 0) :
    Calls Try.prog 44 #[.slice (some ⟨w.heap.size, 0, none⟩) 4 4] (new4 w g0 g1 g2 g3 a0 c0 a1 c1 a2 c2 a3 c3 k0 k1 k2 k3) (EU z (new4 w g0 g1 g2 g3 a0 c0 a1 c1 a2 c2 a3 c3 k0 k1 k2 k3)) := by
  have hQ : ∀ i, i < 4 → (new4 w g0 g1 g2 g3 a0 c0 a1 c1 a2 c2 a3 c3 k0 k1 k2 k3).cell? ⟨w.heap.size, i * 2, none⟩ = some (.func (.func ([g0, g1, g2, g3][i]!)) ([a0, a1, a2, a3][i]!) ([c0, c1, c2, c3][i]!)) ∧ (new4 w g0 g1 g2 g3 a0 c0 a1 c1 a2 c2 a3 c3 k0 k1 k2 k3).cell? ⟨w.heap.size, i * 2 + 1, none⟩ = some (.int .i64 ([k0, k1, k2, k3][i]!)) := by
    intro i hi
    obtain rfl | rfl | rfl | rfl : i = 0 ∨ i = 1 ∨ i = 2 ∨ i = 3 := by omega
    all_goals exact ⟨new_cell _ _ _ _ _ rfl, new_cell _ _ _ _ _ rfl⟩
  have eg : ∀ i, i < 4 → ∀ args w, (callFunc ([g0, g1, g2, g3][i]!) args).run Try.prog w = .ok (.enter ([g0, g1, g2, g3][i]!) args) w := by
    intro i hi
    obtain rfl | rfl | rfl | rfl : i = 0 ∨ i = 1 ∨ i = 2 ∨ i = 3 := by omega
    · exact e0
    · exact e1
    · exact e2
    · exact e3
  have hu : Up w (new4 w g0 g1 g2 g3 a0 c0 a1 c1 a2 c2 a3 c3 k0 k1 k2 k3) := Up.alloc _ _
  subst hz
  cases b0
  · cases b1
    · cases b2
      · cases b3
        · refine t44 w.heap.size 4 4 4 _ _ _ _ (fun _ => false) 0 _ (by omega) hQ eg (fun i hi _ w' h => ?_) (fun _ _ => rfl) (Or.inr ⟨rfl, rfl⟩)
          obtain rfl | rfl | rfl | rfl : i = 0 ∨ i = 1 ∨ i = 2 ∨ i = 3 := by omega
          · exact h0 w' (hu.trans h)
          · exact h1 rfl w' (hu.trans h)
          · exact h2 rfl rfl w' (hu.trans h)
          · exact h3 rfl rfl rfl w' (hu.trans h)
        · refine t44 w.heap.size 4 4 3 _ _ _ _ (fun i => decide (i = 3)) k3 _ (by omega) hQ eg (fun i hi _ w' h => ?_) (fun i hi => by simp; omega) (Or.inl ⟨by omega, rfl, rfl⟩)
          obtain rfl | rfl | rfl | rfl : i = 0 ∨ i = 1 ∨ i = 2 ∨ i = 3 := by omega
          · exact h0 w' (hu.trans h)
          · exact h1 rfl w' (hu.trans h)
          · exact h2 rfl rfl w' (hu.trans h)
          · exact h3 rfl rfl rfl w' (hu.trans h)
      · refine t44 w.heap.size 4 4 2 _ _ _ _ (fun i => decide (i = 2)) k2 _ (by omega) hQ eg (fun i hi _ w' h => ?_) (fun i hi => by simp; omega) (Or.inl ⟨by omega, rfl, rfl⟩)
        obtain rfl | rfl | rfl : i = 0 ∨ i = 1 ∨ i = 2 := by omega
        · exact h0 w' (hu.trans h)
        · exact h1 rfl w' (hu.trans h)
        · exact h2 rfl rfl w' (hu.trans h)
    · refine t44 w.heap.size 4 4 1 _ _ _ _ (fun i => decide (i = 1)) k1 _ (by omega) hQ eg (fun i hi _ w' h => ?_) (fun i hi => by simp; omega) (Or.inl ⟨by omega, rfl, rfl⟩)
      obtain rfl | rfl : i = 0 ∨ i = 1 := by omega
      · exact h0 w' (hu.trans h)
      · exact h1 rfl w' (hu.trans h)
  · refine t44 w.heap.size 4 4 0 _ _ _ _ (fun i => decide (i = 0)) k0 _ (by omega) hQ eg (fun i hi _ w' h => ?_) (fun i hi => by omega) (Or.inl ⟨by omega, rfl, rfl⟩)
    obtain rfl : i = 0 := by omega
    exact h0 w' (hu.trans h)
/-- The memory that Doppler and Compress have of their own ahead of their questions. -/
abbrev boxD (w : World) (v x : Value) (n : Int) : World := ((w.alloc (.cells #[x] 109)).alloc (.cells #[v] 83)).alloc (.cells #[.int .i64 n] 3)
abbrev askDw (w : World) (v x : Value) (n : Int) : World := new4 (boxD w v x n) 9 10 11 12 #[v] #[] #[] #[.pointer (some ⟨w.heap.size, 0, none⟩), .pointer (some ⟨w.heap.size + 1 + 1, 0, none⟩)] #[v] #[] #[] #[.pointer (some ⟨w.heap.size + 1, 0, none⟩), .pointer (some ⟨w.heap.size + 1 + 1, 0, none⟩)] 5 5 3 3
theorem size_one (w : World) (o : Obj) : (w.alloc o).heap.size = w.heap.size + 1 := by simp
theorem boxD_cells (w : World) (v x : Value) (n : Int) : (boxD w v x n).cell? ⟨w.heap.size, 0, none⟩ = some x ∧ (boxD w v x n).cell? ⟨w.heap.size + 1, 0, none⟩ = some v ∧ (boxD w v x n).cell? ⟨w.heap.size + 1 + 1, 0, none⟩ = some (.int .i64 n) ∧ Up w (boxD w v x n) := by
  have s1 := size_one w (.cells #[x] 109)
  have s2 := size_one (w.alloc (.cells #[x] 109)) (.cells #[v] 83)
  have c1 := new_cell w #[x] 109 0 x rfl
  have c2 := new_cell (w.alloc (.cells #[x] 109)) #[v] 83 0 v rfl
  have c3 := new_cell ((w.alloc (.cells #[x] 109)).alloc (.cells #[v] 83)) #[.int .i64 n] 3 0 _ rfl
  rw [s1] at c2 s2
  rw [s2] at c3
  exact ⟨cell_up c1 ((Up.alloc _ _).trans (Up.alloc _ _)), cell_up c2 (Up.alloc _ _), c3, ((Up.alloc _ _).trans (Up.alloc _ _)).trans (Up.alloc _ _)⟩
abbrev boxC (w : World) (v : Value) (n : Int) : World := (w.alloc (.cells #[v] 83)).alloc (.cells #[.int .i64 n] 3)
abbrev askCw (w : World) (v : Value) (n : Int) : World := new4 (boxC w v n) 45 46 47 48 #[v] #[] #[] #[.pointer (some ⟨w.heap.size + 1, 0, none⟩)] #[v] #[] #[] #[.pointer (some ⟨w.heap.size + 1, 0, none⟩), .pointer (some ⟨w.heap.size, 0, none⟩)] 5 2 3 3
theorem boxC_cells (w : World) (v : Value) (n : Int) : (boxC w v n).cell? ⟨w.heap.size, 0, none⟩ = some v ∧ (boxC w v n).cell? ⟨w.heap.size + 1, 0, none⟩ = some (.int .i64 n) ∧ Up w (boxC w v n) := by
  have s1 := size_one w (.cells #[v] 83)
  have c1 := new_cell w #[v] 83 0 v rfl
  have c2 := new_cell (w.alloc (.cells #[v] 83)) #[.int .i64 n] 3 0 _ rfl
  rw [s1] at c2
  exact ⟨cell_up c1 (Up.alloc _ _), c2, (Up.alloc _ _).trans (Up.alloc _ _)⟩
set_option maxRecDepth 20000 in
theorem askC {w : World} {p : Option Addr} {n c x : Nat} {b0 b1 b2 b3 : Bool} {z : Int} (h0 : ∀ w', Up w w' → Calls Try.prog 45 #[.slice p n c] w' (BR b0 w')) (h1 : decide (x = 0) = b1) (h2 : b0 = false → b1 = false → ∀ w', Up w w' → Calls Try.prog 47 #[.slice p n c] w' (BR b2 w'))
    (h3 : b0 = false → b1 = false → b2 = false → ∃ m, TV w (.slice p n c) n m ∧ n ≤ 256 ∧ m ≤ 16384 ∧ (16384 < x ∧ b3 = true ∨ x ≤ 16384 ∧ decide (16777216 < n * m * x) = b3)) (hz : z = if b0 then 5 else if b1 then 2 else if b2 then 3 else if b3 then 3 else 0) :
    Calls Try.prog 44 #[.slice (some ⟨w.heap.size + 1 + 1, 0, none⟩) 4 4] (askCw w (.slice p n c) x) (EU z (askCw w (.slice p n c) x)) := by
  obtain ⟨c1, c2, hu⟩ := boxC_cells w (.slice p n c) x
  have e : w.heap.size + 1 + 1 = (boxC w (.slice p n c) x).heap.size := by simp
  rw [e]
  refine ask4 (b0 := b0) (b1 := b1) (b2 := b2) (b3 := b3) eg45 eg46 eg47 eg48 (fun w' h => h0 w' (hu.trans h)) (fun _ w' h => ?_) (fun q0 q1 w' h => h2 q0 q1 w' (hu.trans h)) (fun q0 q1 q2 w' h => ?_) hz
  · exact t46 _ x b1 w' (cell_up c2 h) h1
  · obtain ⟨m, k1, k2, k3, k4⟩ := h3 q0 q1 q2
    rcases k4 with ⟨k4, rfl⟩ | ⟨k4, k5⟩
    · exact t48a _ _ x w' (cell_up c2 h) k4
    · exact t48 _ _ x n m _ b3 w' (cell_up c2 h) (cell_up c1 h) (k1.up (hu.trans h)) k2 k3 k4 k5
set_option maxRecDepth 20000 in
theorem t21e {w : World} {p q : Option Addr} {n c x y : Nat} {b0 b1 b2 b3 : Bool} {z : Int} (h0 : ∀ w', Up w w' → Calls Try.prog 45 #[.slice p n c] w' (BR b0 w')) (h1 : decide (x = 0) = b1) (h2 : b0 = false → b1 = false → ∀ w', Up w w' → Calls Try.prog 47 #[.slice p n c] w' (BR b2 w'))
    (h3 : b0 = false → b1 = false → b2 = false → ∃ m, TV w (.slice p n c) n m ∧ n ≤ 256 ∧ m ≤ 16384 ∧ (16384 < x ∧ b3 = true ∨ x ≤ 16384 ∧ decide (16777216 < n * m * x) = b3)) (hz : z = if b0 then 5 else if b1 then 2 else if b2 then 3 else if b3 then 3 else 0) (hne : (z != 0) = true) :
    Calls Try.prog 21 #[.slice p n c, .slice q x y] w (ER z w) := by
  have HA : Hid (Calls Try.prog 44 #[.slice (some ⟨w.heap.size + 1 + 1, 0, none⟩) 4 4] (askCw w (.slice p n c) x) (EU z (askCw w (.slice p n c) x))) := askC h0 h1 h2 h3 hz
  clear h0 h1 h2 h3 hz
  go_enter Try.func21, Try.ntmps21
  go_wp2_with (go_at_call 44; (with_reducible refine HA.out.mono ?_); rintro e w' ⟨rfl, HU⟩)
  go_ret2
  exact ⟨rfl, ((boxC_cells w (.slice p n c) x).2.2.trans (Up.alloc _ _)).trans HU.out⟩
set_option maxRecDepth 20000 in
/-- A number times a float. -/
theorem t61 (a b c : Nat) (w : World) : Calls Try.prog 61 #[.complex .f64 a b, .float .f64 c] w (DR w (bin .mul (ab a) (ab c)) (bin .mul (ab b) (ab c))) := by
  go_enter Try.func61, Try.ntmps61
  go_wp2_with ((with_reducible refine upon_fl (by simp) ?_); intro r n hr)
  go_ret
  refine DR.mkN ?_ ?_ <;> simp_all [Hid]
end Go.Proofs.Ythifemkbemhmnaa
