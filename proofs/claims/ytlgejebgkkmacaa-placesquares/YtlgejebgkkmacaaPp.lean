/- The document's Within. -/
import Derived.Test.YtlgejebgkkmacaaPl
namespace Go.Proofs.Ytlgejebgkkmacaa
open Go.ChangeShapes Go.WideShapes Go.ChangeAt Go.RowKit Go.Fl Ieee
attribute [local go_sem] run_store_float run_store_complex call39 call50 run_neg fold_eq fold_ne fold_lt fold_gt abs_eq

structure WJ (w wr : World) (x y : Nat) : Prop where
  up : Up w wr
  p : wr.heap[w.heap.size]? = some (.cells #[.float .f64 x, .float .f64 y] 24)
theorem WJ.cells {w wr : World} {x y : Nat} (h : WJ w wr x y) {W : World} (hu : Up wr W) : W.cell? ⟨w.heap.size, 0, none⟩ = some (.float .f64 x) ∧ W.cell? ⟨w.heap.size, 1, none⟩ = some (.float .f64 y) := by
  obtain ⟨a1, a2, _, _⟩ := facts2 (kept2 h.p hu)
  exact ⟨a1, a2⟩
theorem WJ.on {w wr W : World} {x y : Nat} (h : WJ w wr x y) (hu : Up wr W) : WJ w W x y := ⟨h.up.trans hu, kept2 h.p hu⟩
def nxF (f : Nat → Nat × Nat) (n : Nat) (p : Nat × Nat) (i : Nat) : Bool := cntF (f i) (f ((i + 1) % n)) p
set_option maxHeartbeats 4000000 in
set_option maxRecDepth 20000 in
theorem t23ok (b o n cap x y : Nat) (f : Nat → Nat × Nat) (w : World) (h1 : 3 ≤ n) (h2 : n ≤ 64) (HP : Hid (PV w b o n f)) : Calls Try.prog 23 #[.slice (some ⟨b, o, none⟩) n cap, .agg #[.float .f64 x, .float .f64 y]] w (BU w (oddN (nxF f n (x, y)) n)) := by
  go_enter Try.func23, Try.ntmps23
  go_wp2_with fail
  go_loopw [5, 6] (fun vb vi wr => ∃ k : Nat, k ≤ n ∧ vi = .int .i64 k ∧ vb = .bool (oddN (nxF f n (x, y)) k) ∧ Hid (WJ w wr x y)) (fun _ vi _ => n - (intOf vi).toNat)
  case atStart => exact ⟨0, by omega, rfl, rfl, Up.alloc _ _, heap_alloc_last w _⟩
  case round =>
    obtain ⟨k, hk, rfl, rfl, HW⟩ := hrel
    by_cases hlt : k < n
    · have hkz : (k : Int) < (n : Int) := by omega
      obtain ⟨j, hj⟩ : ∃ j : Nat, (k + 1) % n = j := ⟨_, rfl⟩
      have hjn : j < n := by rw [← hj]; exact Nat.mod_lt _ (by omega)
      have hjz : (j : Int) < (n : Int) := by omega
      have hrem : ((k : Int) + 1).tmod (n : Int) = (j : Int) := by
        rw [Int.tmod_eq_emod_of_nonneg (by omega), ← hj]; rfl
      obtain ⟨c0, c1⟩ := HP.out.up HW.out.up k hlt
      obtain ⟨d0, d1⟩ := HP.out.up (HW.out.up.trans (Up.alloc _ (.cells #[.float .f64 (f k).1, .float .f64 (f k).2] 24))) j hjn
      obtain ⟨p0, p1⟩ := HW.out.cells ((Up.alloc wr (.cells #[.float .f64 (f k).1, .float .f64 (f k).2] 24)).trans (Up.alloc _ (.cells #[.float .f64 (f j).1, .float .f64 (f j).2] 24)))
      cases hl : ltF (ab (f j).2) (ab (f k).2)
      · have HN : Hid (nxF f n (x, y) k = eastF (ab (f k).1) (ab (f k).2) (ab (f j).1) (ab (f j).2) (ab x) (ab y)) := by
          show _ = _
          unfold nxF cntF
          rw [hj, hl]
          rfl
        have HU : Hid (Up wr _) := ((Up.alloc wr (.cells #[.float .f64 (f k).1, .float .f64 (f k).2] 24)).trans (Up.alloc _ (.cells #[.float .f64 (f j).1, .float .f64 (f j).2] 24)))
        go_wp2_with ((with_reducible refine upon_fl (by simp) ?_); intro r n9 hr)
        all_goals
          go_roundw
          case rel =>
            refine ⟨k + 1, by omega, by go_num, ?_, HW.out.on (by first | exact HU.out | exact HU.out.trans (Up.drewN _ _))⟩
            rw [oddN, HN.out]
            clear HN HU HW HP p0 p1 d0 d1 c0 c1 hl
            unfold eastF
            simp_all [Hid]
            try grind
          case measure => simp [intOf]; omega
      · have HN : Hid (nxF f n (x, y) k = eastF (ab (f j).1) (ab (f j).2) (ab (f k).1) (ab (f k).2) (ab x) (ab y)) := by
          show _ = _
          unfold nxF cntF
          rw [hj, hl]
          rfl
        clear p0 p1
        have HU : Hid (Up wr _) := (((Up.alloc wr (.cells #[.float .f64 (f j).1, .float .f64 (f j).2] 24)).trans (Up.alloc _ (.cells #[.float .f64 (f k).1, .float .f64 (f k).2] 24))).trans (Up.alloc _ (.cells #[.float .f64 (f k).1, .float .f64 (f k).2] 24)))
        obtain ⟨p0, p1⟩ := HW.out.cells HU.out
        go_wp2_with ((with_reducible refine upon_fl (by simp) ?_); intro r n9 hr)
        all_goals
          go_roundw
          case rel =>
            refine ⟨k + 1, by omega, by go_num, ?_, HW.out.on (by first | exact HU.out | exact HU.out.trans (Up.drewN _ _))⟩
            rw [oddN, HN.out]
            clear HN HU HW HP p0 p1 d0 d1 c0 c1 hl
            unfold eastF
            simp_all [Hid]
            try grind
          case measure => simp [intOf]; omega
    · obtain rfl : n = k := by omega
      go_wp2
      go_ret
      exact ⟨rfl, HW.out.up⟩
theorem odd_shift (h : Nat → Bool) (n : Nat) : oddN (fun j => if j = 0 then h (n - 1) else h (j - 1)) n = oddN h n := by
  have key : ∀ m, oddN (fun j => if j = 0 then h (n - 1) else h (j - 1)) (m + 1) = if h (n - 1) then !oddN h m else oddN h m := by
    intro m
    induction m with
    | zero => simp [oddN]
    | succ m ih =>
      rw [oddN, ih]
      simp only [Nat.add_sub_cancel, Nat.succ_ne_zero, if_false]
      show _ = if h (n - 1) then !(if h m then !oddN h m else oddN h m) else (if h m then !oddN h m else oddN h m)
      cases h m <;> cases h (n - 1) <;> simp
  cases n with
  | zero => rfl
  | succ m =>
    rw [key]
    simp only [Nat.add_sub_cancel]
    rfl
theorem odd_congr {g h : Nat → Bool} {n : Nat} (e : ∀ j, j < n → g j = h j) : oddN g n = oddN h n := by
  induction n with
  | zero => rfl
  | succ m ih => rw [oddN, oddN, e m (by omega), ih fun j hj => e j (by omega)]
/-- Whether it is asked from a corner to the next one or from the one ahead is one. -/
theorem win_next (f : Nat → Nat × Nat) (n : Nat) (p : Nat × Nat) (hn : 3 ≤ n) : oddN (fun j => cntF (prv f n j) (f j) p) n = oddN (nxF f n p) n := by
  rw [← odd_shift (nxF f n p) n]
  refine odd_congr fun j hj => ?_
  unfold prv nxF
  by_cases h : j = 0
  · subst h
    rw [if_pos rfl, if_pos rfl, show (n - 1 + 1) % n = 0 by rw [Nat.sub_add_cancel (by omega), Nat.mod_self]]
  · rw [if_neg h, if_neg h, show (j - 1 + 1) % n = j by rw [Nat.sub_add_cancel (by omega), Nat.mod_eq_of_lt hj]]
theorem t23few (p : Option Addr) (n cap x y : Nat) (w : World) (h : n < 3) : Calls Try.prog 23 #[.slice p n cap, .agg #[.float .f64 x, .float .f64 y]] w (BU w false) := by
  have hz : (n : Int) < 3 := by omega
  go_enter Try.func23, Try.ntmps23
  go_wp2
  go_ret
  exact ⟨rfl, Up.alloc _ _⟩
theorem t23many (p : Option Addr) (n cap x y : Nat) (w : World) (h : 64 < n) : Calls Try.prog 23 #[.slice p n cap, .agg #[.float .f64 x, .float .f64 y]] w (BU w false) := by
  have hz : (64 : Int) < n := by omega
  go_enter Try.func23, Try.ntmps23
  go_wp2
  go_ret
  exact ⟨rfl, Up.alloc _ _⟩
theorem t23 (p : Option Addr) (n cap x y : Nat) (f : Nat → Nat × Nat) (w : World) (HP : Hid (LV w p n f)) : Calls Try.prog 23 #[.slice p n cap, .agg #[.float .f64 x, .float .f64 y]] w (BU w (winF f n (x, y))) := by
  unfold winF
  by_cases h1 : n < 3
  · rw [if_pos (Or.inl h1)]; exact t23few p n cap x y w h1
  by_cases h2 : 64 < n
  · rw [if_pos (Or.inr h2)]; exact t23many p n cap x y w h2
  rw [if_neg (by omega), win_next f n (x, y) (by omega)]
  obtain ⟨b, o, rfl, h⟩ := HP.out (by omega)
  exact t23ok b o n cap x y f w (by omega) (by omega) h
end Go.Proofs.Ytlgejebgkkmacaa
