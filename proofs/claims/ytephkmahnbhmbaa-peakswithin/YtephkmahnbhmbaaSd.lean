/- Centre: sums, and the strongest. -/
import Derived.Test.YtephkmahnbhmbaaSc
namespace Go.Proofs.Ytephkmahnbhmbaa
open Go.ChangeShapes Go.WideShapes Go.ChangeAt Go.RowKit Go.Fl Go.Sort
attribute [local go_sem] run_store_float call52 run_neg fold_eq fold_ne fold_lt fold_gt abs_eq
set_option maxRecDepth 20000
def sv3 (s : Spt) : Value := .agg #[.int .i64 s.1, .int .i64 s.2.1, .float .f64 s.2.2]
set_option maxHeartbeats 2000000 in
theorem t41 {fg : Nat} {cb : Array Value} {F : Nat → Option Nat} {w : World} {p : Option Addr} {n cap : Nat} {d : Array Spt} (h : SpV w p n cap d) (h0 : 0 < n) (V : ∀ i, i < n → ∀ w', Up w w' → Calls Try.prog fg (#[sv3 d[i]!] ++ cb) w' (FU w' (F i))) (eg : ∀ args w, (callFunc fg args).run Try.prog w = .ok (.enter fg args) w) :
    Calls Try.prog 41 #[.slice p n cap, .func (.func fg) #[] cb] w (FU w (sumN F n)) := by
  have HV : Hid (∀ i, i < n → ∀ w', Up w w' → Calls Try.prog fg (#[sv3 d[i]!] ++ cb) w' (FU w' (F i))) := V
  have H : Hid (SpV w p n cap d) := h
  have hf := h.few
  have hc := h.cap
  obtain ⟨b, o, rfl, hr⟩ := h.rd h0
  have HR : Hid _ := hr
  obtain ⟨c0, c1, c2⟩ := hr 0 h0
  clear h hr V
  obtain ⟨m, rfl⟩ : ∃ m, n = m + 1 := ⟨n - 1, by omega⟩
  have e1 : ((m + 1 : Nat) : Int) = (m : Int) + 1 := by omega
  obtain ⟨s, hs⟩ : ∃ s, d[0]! = s := ⟨_, rfl⟩
  have C0 : Hid (Calls Try.prog fg (#[sv3 s] ++ cb) w (FU w (F 0))) := by show Calls _ _ _ _ _; rw [← hs]; exact HV.out 0 (by omega) w (Up.refl _)
  rw [hs] at c0 c1 c2
  obtain ⟨s1, s2, s3⟩ := s
  simp only [Nat.zero_mul, Nat.add_zero] at c0 c1 c2
  have C0 : Hid (Calls Try.prog fg (#[.agg #[.int .i64 s1, .int .i64 s2, .float .f64 s3]] ++ cb) w (FU w (F 0))) := C0
  clear hs
  have q1 : (0 : Int) < (m : Int) + 1 := by omega
  have q2 : (1 : Int) ≤ (m : Int) + 1 := by omega
  have q3 : (m : Int) + 1 ≤ (cap : Int) := by omega
  have q4 : m + 1 ≤ cap := hc
  have q5 : m + 1 - 1 = m := by omega
  go_enter Try.func41, Try.ntmps41
  go_wp2_with fail
  with_reducible refine C0.out.mono ?_
  rintro e w1 ⟨r0, rfl, HR0, HU1⟩
  clear C0
  by_cases hm0 : m = 0
  · subst hm0
    go_wp2
    all_goals
      go_loopw [5, 7, 16] (fun v5 _ vi wr => v5 = .float .f64 r0 ∧ vi = .int .i64 0 ∧ wr = w1) (fun _ _ vi _ => 0)
      case atStart => exact ⟨rfl, rfl, rfl⟩
      case round =>
        obtain ⟨rfl, rfl, hw⟩ := hrel
        subst hw
        go_wp2
        go_ret
        exact FU.mk HR0.out HU1.out
  · have hcc : ¬ cap = 1 := by omega
    have hcc2 : ¬ cap ≤ 1 := by omega
    clear hm0 c0 c1 c2
    go_wp2
    go_loopw [5, 7, 16] (fun v5 _ vi wr => ∃ i r : Nat, i ≤ m ∧ vi = .int .i64 i ∧ v5 = .float .f64 r ∧ Hid (ab r = sumN F (i + 1)) ∧ Hid (Up w wr)) (fun _ _ vi _ => m - (intOf vi).toNat)
    case atStart => exact ⟨0, r0, by omega, rfl, rfl, HR0.out, HU1.out⟩
    case round =>
      clear HR0 HU1
      obtain ⟨i, r, hi, rfl, rfl, HR1, HU2⟩ := hrel
      rename World => wr
      by_cases hlt : i < m
      · obtain ⟨k0, k1, k2⟩ := HR.out (i + 1) (by omega)
        obtain ⟨t, ht⟩ : ∃ t, d[i + 1]! = t := ⟨_, rfl⟩
        rw [ht] at k0 k1 k2
        have HT : Hid (d[i + 1]! = t) := ht
        clear ht
        obtain ⟨t1, t2, t3⟩ := t
        have j0 := cell_up ((show o + (i + 1) * 3 = o + 3 + i * 3 by omega) ▸ k0) HU2.out
        have j1 := cell_up ((show o + (i + 1) * 3 = o + 3 + i * 3 by omega) ▸ k1) HU2.out
        have j2 := cell_up ((show o + (i + 1) * 3 = o + 3 + i * 3 by omega) ▸ k2) HU2.out
        simp only at j0 j1 j2
        clear k0 k1 k2
        have y1 : (i : Int) < (m : Int) := by omega
        have C1 : Hid (Calls Try.prog fg (#[.agg #[.int .i64 t1, .int .i64 t2, .float .f64 t3]] ++ cb) (wr.alloc (.cells #[.int .i64 t1, .int .i64 t2, .float .f64 t3] 29)) (FU (wr.alloc (.cells #[.int .i64 t1, .int .i64 t2, .float .f64 t3] 29)) (F (i + 1)))) := by
          have := HV.out (i + 1) (by omega) (wr.alloc (.cells #[.int .i64 t1, .int .i64 t2, .float .f64 t3] 29)) (HU2.out.trans (Up.alloc _ _))
          rw [HT.out] at this; exact this
        go_wp2_with fail
        with_reducible refine C1.out.mono ?_
        rintro e w2 ⟨r1, rfl, HR2, HU3⟩
        clear C1
        go_wp2_with ((with_reducible refine upon_fl (by simp) ?_); intro r3 k3 hr3)
        go_roundw
        case rel => exact ⟨i + 1, r3, by omega, by go_num, rfl, by show _ = _; rw [sumN_step, ← HR1.out, ← HR2.out]; exact hr3.out, (HU2.out.trans (Up.alloc _ _)).trans (HU3.out.trans (Up.drewN _ _))⟩
        case measure => simp [intOf]; omega
      · obtain rfl : i = m := by omega
        go_wp2
        go_ret
        exact FU.mk HR1.out HU2.out
end Go.Proofs.Ytephkmahnbhmbaa
