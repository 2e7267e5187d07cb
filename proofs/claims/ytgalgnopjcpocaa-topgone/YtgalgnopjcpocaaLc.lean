/- The program's Check and the reference's, walked. -/
import Derived.Test.YtgalgnopjcpocaaLb
namespace Go.Proofs.Ytgalgnopjcpocaa
open Go.ChangeShapes Go.WideShapes Go.ChangeAt Go.RowKit Go.Fl Ieee
attribute [local go_sem] run_store_float call20 call33 run_neg fold_eq fold_ne fold_lt fold_gt abs_eq

def IU (w : World) (z : Int) (e : Ending) (w' : World) : Prop := e = .returned (.int .i64 z) ∧ Hid (Up w w')
/-- How many of a beat's floats are known to be good. -/
def G3 (z : Int) (c v r : Nat) : Prop := (1 ≤ z → goodF (ab c) = true) ∧ (2 ≤ z → goodF (ab v) = true) ∧ (3 ≤ z → goodF (ab r) = true)
theorem G3.zero (c v r : Nat) : G3 0 c v r := ⟨fun h => by omega, fun h => by omega, fun h => by omega⟩
theorem G3.one {c v r : Nat} (h : goodF (ab c) = true) : G3 1 c v r := ⟨fun _ => h, fun h => by omega, fun h => by omega⟩
theorem G3.two {c v r : Nat} (g : G3 1 c v r) (h : goodF (ab v) = true) : G3 2 c v r := ⟨fun _ => g.1 (by omega), fun _ => h, fun h => by omega⟩
theorem G3.three {c v r : Nat} (g : G3 2 c v r) (h : goodF (ab r) = true) : G3 3 c v r := ⟨fun _ => g.1 (by omega), fun _ => g.2.1 (by omega), fun _ => h⟩
set_option maxRecDepth 20000 in
set_option maxHeartbeats 1000000 in
theorem t52 (c v r : Nat) (E R : Int) (w : World) : Calls Try.prog 52 #[.agg #[.float .f64 c, .float .f64 v, .float .f64 r, .int .i64 E, .int .i64 R]] w (IU w (checkF (ab c) (ab v) (ab r) E R)) := by
  have HB := BC.new w c v r E R
  have HU : Hid (Up w (w.alloc (.cells #[.float .f64 c, .float .f64 v, .float .f64 r, .int .i64 E, .int .i64 R] 63))) := Up.alloc _ _
  obtain ⟨b0, b1, b2, b3, b4⟩ := HB
  go_enter Try.func52, Try.ntmps52
  go_wp2
  generalize w.alloc (.cells #[.float .f64 c, .float .f64 v, .float .f64 r, .int .i64 E, .int .i64 R] 63) = w1 at *
  generalize w.heap.size = s0 at *
  go_loopw [4, 14] (fun _ vi wr => ∃ z : Int, (z = 0 ∨ z = 1 ∨ z = 2 ∨ z = 3) ∧ vi = .int .i64 z ∧ w1 = wr ∧ Hid (G3 z c v r)) (fun _ vi _ => 3 - (intOf vi).toNat)
  case atStart => exact ⟨0, by omega, rfl, rfl, G3.zero _ _ _⟩
  case round =>
    obtain ⟨z, hz, rfl, hw, HG⟩ := hrel
    subst hw
    rcases hz with rfl | rfl | rfl | rfl
    · go_wp2_with (first
        | (refine wpList_index3 0 c rfl rfl _ _ rfl rfl rfl (by omega) ?_)
        | (go_at_call 68; (with_reducible refine (t68 c _).mono ?_); rintro e w' ⟨rfl, rfl⟩))
      · have hb : goodF (ab c) = false := bad_leq (by simp_all) (by simp_all)
        go_ret
        exact ⟨by rw [check80 (Or.inl hb)]; rfl, HU⟩
      · have hb : goodF (ab c) = true := good_leq (by simp_all) (by simp_all)
        go_roundw
        case rel => exact ⟨1, by omega, rfl, by simp, G3.one hb⟩
        case measure => simp [intOf]
      · have hb : goodF (ab c) = false := bad_fin (by simp_all)
        go_ret
        exact ⟨by rw [check80 (Or.inl hb)]; rfl, HU⟩
    · go_wp2_with (first
        | (refine wpList_index3 1 v rfl rfl _ _ rfl rfl rfl (by omega) ?_)
        | (go_at_call 68; (with_reducible refine (t68 v _).mono ?_); rintro e w' ⟨rfl, rfl⟩))
      · have hb : goodF (ab v) = false := bad_leq (by simp_all) (by simp_all)
        go_ret
        exact ⟨by rw [check80 (Or.inr (Or.inl hb))]; rfl, HU⟩
      · have hb : goodF (ab v) = true := good_leq (by simp_all) (by simp_all)
        go_roundw
        case rel => exact ⟨2, by omega, rfl, by simp, G3.two HG.out hb⟩
        case measure => simp [intOf]
      · have hb : goodF (ab v) = false := bad_fin (by simp_all)
        go_ret
        exact ⟨by rw [check80 (Or.inr (Or.inl hb))]; rfl, HU⟩
    · go_wp2_with (first
        | (refine wpList_index3 2 r rfl rfl _ _ rfl rfl rfl (by omega) ?_)
        | (go_at_call 68; (with_reducible refine (t68 r _).mono ?_); rintro e w' ⟨rfl, rfl⟩))
      · have hb : goodF (ab r) = false := bad_leq (by simp_all) (by simp_all)
        go_ret
        exact ⟨by rw [check80 (Or.inr (Or.inr (Or.inl hb)))]; rfl, HU⟩
      · have hb : goodF (ab r) = true := good_leq (by simp_all) (by simp_all)
        go_roundw
        case rel => exact ⟨3, by omega, rfl, by simp, G3.three HG.out hb⟩
        case measure => simp [intOf]
      · have hb : goodF (ab r) = false := bad_fin (by simp_all)
        go_ret
        exact ⟨by rw [check80 (Or.inr (Or.inr (Or.inl hb)))]; rfl, HU⟩
    · obtain ⟨g1, g2, g3⟩ := HG.out
      have G1 : Hid (goodF (ab c) = true) := g1 (by omega)
      have G2 : Hid (goodF (ab v) = true) := g2 (by omega)
      have G3 : Hid (goodF (ab r) = true) := g3 (by omega)
      clear g1 g2 g3 HG
      go_wp2
      go_loopw [6, 32] (fun _ vi wr => ∃ z : Int, (z = 0 ∨ z = 1 ∨ z = 2) ∧ vi = .int .i64 z ∧ Hid (Up w1 wr) ∧ Hid (1 ≤ z → 1 ≤ E ∧ E ≤ 16384) ∧ Hid (2 ≤ z → 1 ≤ R ∧ R ≤ 256)) (fun _ vi _ => 2 - (intOf vi).toNat)
      case atStart => exact ⟨0, by omega, rfl, Up.refl _, fun h => by omega, fun h => by omega⟩
      case round =>
        obtain ⟨z, hz, rfl, HV, HE, HR⟩ := hrel
        rcases hz with rfl | rfl | rfl
        · go_wp2_with (first
            | (refine wpList_index2 0 #[.int .i64 E, .int .i64 16384] rfl rfl _ _ rfl rfl rfl (by omega) ?_))
          · go_ret
            exact ⟨by rw [check80 (Or.inr (Or.inr (Or.inr (Or.inr (Or.inl (by first | (simp_all; done) | (simp_all; omega)))))))]; rfl, (HU.out.trans HV.out).trans (Up.alloc _ _)⟩
          · go_roundw
            case rel => exact ⟨1, by omega, rfl, HV.out.trans (Up.alloc _ _), fun _ => ⟨by first | (simp_all; done) | (simp_all; omega), by first | (simp_all; done) | (simp_all; omega)⟩, fun h => by omega⟩
            case measure => simp [intOf]
          · go_ret
            exact ⟨by rw [check80 (Or.inr (Or.inr (Or.inr (Or.inl (by first | (simp_all; done) | (simp_all; omega))))))]; rfl, (HU.out.trans HV.out).trans (Up.alloc _ _)⟩
        · go_wp2_with (first
            | (refine wpList_index2 1 #[.int .i64 R, .int .i64 256] rfl rfl _ _ rfl rfl rfl (by omega) ?_))
          · go_ret
            exact ⟨by rw [check80 (Or.inr (Or.inr (Or.inr (Or.inr (Or.inr (Or.inr (by first | (simp_all; done) | (simp_all; omega))))))))]; rfl, (HU.out.trans HV.out).trans (Up.alloc _ _)⟩
          · go_roundw
            case rel => exact ⟨2, by omega, rfl, HV.out.trans (Up.alloc _ _), fun _ => HE.out (by omega), fun _ => ⟨by first | (simp_all; done) | (simp_all; omega), by first | (simp_all; done) | (simp_all; omega)⟩⟩
            case measure => simp [intOf]
          · go_ret
            exact ⟨by rw [check80 (Or.inr (Or.inr (Or.inr (Or.inr (Or.inr (Or.inl (by first | (simp_all; done) | (simp_all; omega))))))))]; rfl, (HU.out.trans HV.out).trans (Up.alloc _ _)⟩
        · obtain ⟨e1, e2⟩ := HE.out (by omega)
          obtain ⟨r1, r2⟩ := HR.out (by omega)
          have c3 := up_cell HV.out b3
          have c4 := up_cell HV.out b4
          have HC : Hid (checkF (ab c) (ab v) (ab r) E R = if E * R > 262144 then 3 else 0) := check_in G1.out G2.out G3.out e1 e2 r1 r2
          have m1 := Int.mul_le_mul e2 r2 (by omega) (by omega)
          have m2 := Int.mul_nonneg (show 0 ≤ E by omega) (show 0 ≤ R by omega)
          go_wp2
          · go_ret
            exact ⟨by rw [HC.out, if_pos (by simp_all)]; rfl, HU.out.trans HV.out⟩
          · go_ret
            exact ⟨by rw [HC.out, if_neg (by simp_all)]; rfl, HU.out.trans HV.out⟩
end Go.Proofs.Ytgalgnopjcpocaa
