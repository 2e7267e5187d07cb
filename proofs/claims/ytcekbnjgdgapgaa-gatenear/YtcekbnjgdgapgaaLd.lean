/- The reference's Check, walked. -/
import Derived.Test.YtcekbnjgdgapgaaLc
namespace Go.Proofs.Ytcekbnjgdgapgaa
open Go.ChangeShapes Go.WideShapes Go.ChangeAt Go.RowKit Go.Fl Ieee
attribute [local go_sem] run_store_float call36 call37 run_neg fold_eq fold_ne fold_lt fold_gt abs_eq

set_option maxHeartbeats 1000000 in
theorem t10 (c v r : Nat) (E R : Int) (w : World) : Calls Try.prog 10 #[.agg #[.float .f64 c, .float .f64 v, .float .f64 r, .int .i64 E, .int .i64 R]] w (IU w (checkF (ab c) (ab v) (ab r) E R)) := by
  obtain ⟨w2, hw2⟩ : ∃ w2, w2 = (w.alloc (.cells #[.float .f64 c, .float .f64 v, .float .f64 r, .int .i64 E, .int .i64 R] 24)).alloc (.cells #[.float .f64 c, .float .f64 v, .float .f64 r] 45) := ⟨_, rfl⟩
  have HB := (BC.new w c v r E R).up (Up.alloc _ (.cells #[.float .f64 c, .float .f64 v, .float .f64 r] 45))
  have ea := heap_alloc_last (w.alloc (.cells #[.float .f64 c, .float .f64 v, .float .f64 r, .int .i64 E, .int .i64 R] 24)) (.cells #[.float .f64 c, .float .f64 v, .float .f64 r] 45)
  rw [show (w.alloc (.cells #[.float .f64 c, .float .f64 v, .float .f64 r, .int .i64 E, .int .i64 R] 24)).heap.size = w.heap.size + 1 by simp] at ea
  rw [← hw2] at HB ea
  have HU : Hid (Up w w2) := by rw [hw2]; exact (Up.alloc _ _).trans (Up.alloc _ _)
  have a0 : w2.cell? ⟨w.heap.size + 1, 0, none⟩ = some (.float .f64 c) := by unfold World.cell?; simp only [ea]; rfl
  have a1 : w2.cell? ⟨w.heap.size + 1, 1, none⟩ = some (.float .f64 v) := by unfold World.cell?; simp only [ea]; rfl
  have a2 : w2.cell? ⟨w.heap.size + 1, 2, none⟩ = some (.float .f64 r) := by unfold World.cell?; simp only [ea]; rfl
  obtain ⟨_, _, _, b3, b4⟩ := HB
  clear ea
  go_enter Try.func10, Try.ntmps10
  go_wp2
  rw [← hw2]
  clear hw2
  generalize w.heap.size = s0 at *
  go_loopw [4] (fun vi wr => ∃ z : Int, (z = 0 ∨ z = 1 ∨ z = 2 ∨ z = 3) ∧ vi = .int .i64 z ∧ w2 = wr ∧ Hid (G3 z c v r)) (fun vi _ => 3 - (intOf vi).toNat)
  case atStart => exact ⟨0, by omega, rfl, rfl, G3.zero _ _ _⟩
  case round =>
    obtain ⟨z, hz, rfl, hw, HG⟩ := hrel
    subst hw
    rcases hz with rfl | rfl | rfl | rfl
    · go_wp2_with (first
        | (go_at_call 29; (with_reducible refine (t29 c _).mono ?_); rintro e w' ⟨rfl, rfl⟩))
      · have hb : goodF (ab c) = false := bad_gt (by simp_all)
        go_ret
        exact ⟨by rw [check80 (Or.inl hb)]; rfl, HU⟩
      · have hb : goodF (ab c) = true := good_gt (by simp_all) (by simp_all)
        go_roundw
        case rel => exact ⟨1, by omega, rfl, by simp, G3.one hb⟩
        case measure => simp [intOf]
      · have hb : goodF (ab c) = false := bad_fin (by simp_all)
        go_ret
        exact ⟨by rw [check80 (Or.inl hb)]; rfl, HU⟩
    · go_wp2_with (first
        | (go_at_call 29; (with_reducible refine (t29 v _).mono ?_); rintro e w' ⟨rfl, rfl⟩))
      · have hb : goodF (ab v) = false := bad_gt (by simp_all)
        go_ret
        exact ⟨by rw [check80 (Or.inr (Or.inl hb))]; rfl, HU⟩
      · have hb : goodF (ab v) = true := good_gt (by simp_all) (by simp_all)
        go_roundw
        case rel => exact ⟨2, by omega, rfl, by simp, G3.two HG.out hb⟩
        case measure => simp [intOf]
      · have hb : goodF (ab v) = false := bad_fin (by simp_all)
        go_ret
        exact ⟨by rw [check80 (Or.inr (Or.inl hb))]; rfl, HU⟩
    · go_wp2_with (first
        | (go_at_call 29; (with_reducible refine (t29 r _).mono ?_); rintro e w' ⟨rfl, rfl⟩))
      · have hb : goodF (ab r) = false := bad_gt (by simp_all)
        go_ret
        exact ⟨by rw [check80 (Or.inr (Or.inr (Or.inl hb)))]; rfl, HU⟩
      · have hb : goodF (ab r) = true := good_gt (by simp_all) (by simp_all)
        go_roundw
        case rel => exact ⟨3, by omega, rfl, by simp, G3.three HG.out hb⟩
        case measure => simp [intOf]
      · have hb : goodF (ab r) = false := bad_fin (by simp_all)
        go_ret
        exact ⟨by rw [check80 (Or.inr (Or.inr (Or.inl hb)))]; rfl, HU⟩
    · obtain ⟨g1, g2, g3⟩ := HG.out
      have G1 : Hid (goodF (ab c) = true) := g1 (by omega)
      have G2 : Hid (goodF (ab v) = true) := g2 (by omega)
      have G3 : Hid (goodF (ab r) = true) := g3 (by omega)
      clear g1 g2 g3 HG
      by_cases hin : 1 ≤ E ∧ E ≤ 16384 ∧ 1 ≤ R ∧ R ≤ 256
      · obtain ⟨e1, e2, r1, r2⟩ := hin
        have HC : Hid (checkF (ab c) (ab v) (ab r) E R = if E * R > 262144 then 3 else 0) := check_in G1.out G2.out G3.out e1 e2 r1 r2
        have m1 := Int.mul_le_mul e2 r2 (by omega) (by omega)
        have m2 := Int.mul_nonneg (show 0 ≤ E by omega) (show 0 ≤ R by omega)
        go_wp2
        · go_ret
          exact ⟨by rw [HC.out, if_pos (by simp_all)]; rfl, HU⟩
        · go_ret
          exact ⟨by rw [HC.out, if_neg (by simp_all)]; rfl, HU⟩
      · have HC : Hid (checkF (ab c) (ab v) (ab r) E R = 80) := check80 (by omega)
        have hd : (decide (E < 1) || decide (16384 < E) || decide (R < 1) || decide (256 < R)) = true := by
          simp only [Bool.or_eq_true, decide_eq_true_eq]; omega
        clear hin
        go_wp2
        all_goals first
          | (go_ret; exact ⟨by rw [HC.out]; rfl, HU⟩)
          | (exfalso; simp_all; omega)

end Go.Proofs.Ytcekbnjgdgapgaa
