/- A line: the sum of taps, each times a sample. -/
import Derived.Test.YtdpogojhpfejjaaPb
namespace Go.Proofs.Ytdpogojhpfejjaa
open Go.ChangeShapes Go.WideShapes Go.ChangeAt Go.RowKit Go.Fl Ieee
attribute [local go_sem] run_store_float run_store_c isSome_set call32 call31 run_neg fold_eq fold_ne fold_lt fold_gt abs_eq

def wgR (tp : Nat → Nat × Nat) (A B : Nat → Option Nat) (j : Nat) : Option Nat := mulR (ab (tp j).1) (ab (tp j).2) (A j) (B j)
def wgI (tp : Nat → Nat × Nat) (A B : Nat → Option Nat) (j : Nat) : Option Nat := mulI (ab (tp j).1) (ab (tp j).2) (A j) (B j)
theorem cr_up {w : World} {c s : Option Nat} {e : Ending} {w' : World} (h : CR w c s e w') : ∃ r i, e = .returned (.complex .f64 r i) ∧ Hid (ab r = c) ∧ Hid (ab i = s) ∧ Hid (Up w w') := h
set_option maxHeartbeats 1000000 in
theorem t16 (g gt m ct : Nat) (c : Array Value) (tp : Nat → Nat × Nat) (A B : Nat → Option Nat) (w : World) (hm : m ≤ 1000) (hct : m + 1 ≤ ct) (hc2 : 2 ≤ ct) (hR : RD w gt 0 (m + 1) tp) (eg : ∀ args w, (callFunc g args).run Try.prog w = .ok (.enter g args) w)
    (hat : ∀ j, j < m + 1 → ∀ w1, Up w w1 → Calls Try.prog g (#[.int .i64 j] ++ c) w1 (CR w1 (A j) (B j))) :
    Calls Try.prog 16 #[.slice (some ⟨gt, 0, none⟩) (m + 1) ct, .func (.func g) #[] c] w (CR w (sumN (wgR tp A B) (m + 1)) (sumN (wgI tp A B) (m + 1))) := by
  have HA : Hid (∀ i, i < m → ∀ w1, Up w w1 → Calls Try.prog g (#[.int .i64 ((i : Int) + 1)] ++ c) w1 (CR w1 (A (i + 1)) (B (i + 1)))) := fun i hi k => hat (i + 1) (by omega) k
  have A0 : Hid (Calls Try.prog g (#[.int .i64 0] ++ c) w.drew (CR w.drew (A 0) (B 0))) := hat 0 (by omega) _ (Up.drew _)
  clear hat
  have HR : Hid (RD w gt 0 (m + 1) tp) := hR
  obtain ⟨x0, y0, T0, c0⟩ : ∃ x y, Hid (tp 0 = (x, y)) ∧ w.cell? ⟨gt, 0, none⟩ = some (.complex .f64 x y) := ⟨_, _, rfl, hR 0 (by omega)⟩
  clear hR
  have h0 : ((m : Int) + 1 == 0) = false := by rw [beq_eq_false_iff_ne]; omega
  have h1 : (0 : Int) < (m : Int) + 1 := by omega
  have h2 : (1 : Int) ≤ (m : Int) + 1 := by omega
  go_enter Try.func16, Try.ntmps16
  go_wp2_with fail
  go_region_held3 (fun W => W.cell? ⟨gt, 0, none⟩ = some (.complex .f64 x0 y0)) (first | go_keep | exact cell_up c0 ((Up.drew _).trans hu)) (first
    | ((with_reducible refine A0.out.mono ?_); rintro e w1 ⟨r, s, rfl, hr, hs, hu⟩)
    | (go_at_call 22; (with_reducible refine (t22 _ _ _ _ _).mono ?_); rintro e w2 ⟨r2, s2, k2, rfl, rfl, hr2, hs2⟩))
  have U2 : Hid (Up w (w1.drewN k2)) := ((Up.drew _).trans hu).trans (Up.drewN _ _)
  have S1 : Hid (ab r2 = sumN (wgR tp A B) (0 + 1)) := by
    show ab r2 = wgR tp A B 0
    rw [hr2.out, wgR, T0.out, hr.out, hs.out]
  have S2 : Hid (ab s2 = sumN (wgI tp A B) (0 + 1)) := by
    show ab s2 = wgI tp A B 0
    rw [hs2.out, wgI, T0.out, hr.out, hs.out]
  clear hr hs hr2 hs2 T0 A0 hu
  generalize w1.drewN k2 = w3 at *
  have e1 : ¬ ct = 1 := by omega
  have e2 : ¬ ct - 1 = 0 := by omega
  have e3 : (1 : Int) ≤ (ct : Int) := by omega
  have e4 : (m : Int) + 1 ≤ (ct : Int) := by omega
  go_wp2
  go_loopw [5, 6, 7, 20] (fun vs _ _ vi wr => ∃ i r s : Nat, i ≤ m ∧ vs = .complex .f64 r s ∧ vi = .int .i64 i ∧ Hid (Up w wr) ∧ Hid (ab r = sumN (wgR tp A B) (i + 1)) ∧ Hid (ab s = sumN (wgI tp A B) (i + 1))) (fun _ _ _ vi _ => m - (intOf vi).toNat)
  case atStart => exact ⟨0, r2, s2, by omega, rfl, rfl, U2, S1, S2⟩
  case round =>
    clear S1 S2 U2
    obtain ⟨i, r, s, hi, rfl, rfl, U, hr, hs⟩ := hrel
    by_cases hlt : i < m
    · obtain ⟨x, y, T1, c1⟩ : ∃ x y, Hid (tp (i + 1) = (x, y)) ∧ wr.cell? ⟨gt, 1 + i, none⟩ = some (.complex .f64 x y) := by
        have h := (HR.out.up U.out) (i + 1) (by omega)
        rw [show 0 + (i + 1) = 1 + i by omega] at h
        exact ⟨_, _, rfl, h⟩
      have C1 := HA.out i hlt wr U.out
      have z1 : (i : Int) < (m : Int) := by omega
      have C2 : Hid (Calls Try.prog g (#[.int .i64 ((i : Int) + 1)] ++ c) wr (CR wr (A (i + 1)) (B (i + 1)))) := C1
      clear C1
      go_wp2_with fail
      (with_reducible refine C2.out.mono ?_)
      rintro e w4 ⟨r4, s4, rfl, hr4, hs4, hu4⟩
      have U4 : Hid (Up wr w4) := hu4
      clear hu4
      go_wp2_with (first
        | (go_at_call 22; (with_reducible refine (t22 _ _ _ _ _).mono ?_); rintro e w5 ⟨r5, s5, k5, rfl, rfl, hr5, hs5⟩)
        | ((with_reducible refine upon_cadd ?_); intro r3 s3 k3 hr3 hs3))
      go_roundw
      case rel =>
        refine ⟨i + 1, r3, s3, by omega, rfl, by go_num, ?_, ?_, ?_⟩
        · first
            | exact (U.out.trans U4.out).trans (Up.drewN _ _)
            | exact ((U.out.trans U4.out).trans (Up.drewN _ _)).trans (Up.drewN _ _)
        · show _ = _
          rw [sumN_step, ← hr.out, hr3.out, hr5.out, wgR, T1.out, hr4.out, hs4.out]
        · show _ = _
          rw [sumN_step, ← hs.out, hs3.out, hs5.out, wgI, T1.out, hr4.out, hs4.out]
      case measure => simp [intOf]; omega
    · obtain rfl : i = m := by omega
      go_wp2
      go_ret
      exact CR.mk hr.out hs.out U.out
end Go.Proofs.Ytdpogojhpfejjaa
