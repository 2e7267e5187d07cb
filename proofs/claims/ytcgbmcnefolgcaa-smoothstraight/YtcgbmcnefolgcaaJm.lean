/- SmoothStraight: the walk of whole places on a line. -/
import Derived.Test.YtcgbmcnefolgcaaJl
namespace Go.Proofs.Ytcgbmcnefolgcaa
open Go.ChangeShapes Go.WideShapes Go.ChangeAt Go.RowKit Go.Fl Go.Sort
attribute [local go_sem] run_store_float call22 run_neg fold_eq fold_ne fold_lt fold_gt abs_eq

theorem A3.start (w : World) : A3 w w (.slice none 0 0) (.slice none 0 0) (.slice none 0 0) [] [] [] := by
  have h : AB w w (.slice none 0 0) (.slice none 0 0) [] [] := ⟨OR.nil _ _ _ _, OR.nil _ _ _ _, (fun g e => by cases e), Up.refl _⟩
  exact ⟨h, h, h⟩
theorem mul_bds {a c h : Int} {i : Nat} (ha : -1024 < a ∧ a < 1024) (hc : -1024 < c ∧ c < 1024) (hh : -1024 < h ∧ h < 1024) (hi : i ≤ 99) : (-101277 ≤ (i : Int) * h ∧ (i : Int) * h ≤ 101277) ∧ -104652900 ≤ c * (a + (i : Int) * h) ∧ c * (a + (i : Int) * h) ≤ 104652900 := by
  have b1 := bd_mul (i := (i : Int)) (b := 99) (v := h) (V := 1023) (by omega) (by omega) (by omega) (by omega)
  have b2 := bd_mul (i := c) (b := 1023) (v := a + (i : Int) * h) (V := 102300) (by omega) (by omega) (by omega) (by omega)
  omega
set_option maxHeartbeats 8000000 in
set_option maxRecDepth 20000 in
theorem t5ok {w : World} {a b c h : Int} {N H : Nat} (ha : -1024 < a ∧ a < 1024) (hb : -1024 < b ∧ b < 1024) (hc : -1024 < c ∧ c < 1024) (hh : -1024 < h ∧ h < 1024) (z0 : h ≠ 0) (hN : N = 2 * H + 1) (h0 : 0 < H) (hn : N ≤ 99) : Calls Try.prog 5 #[.int .i64 a, .int .i64 b, .int .i64 c, .int .i64 h, .int .i64 (N : Int)] w (TU w) := by
  have HA : Hid ((-1024 < a ∧ a < 1024) ∧ (-1024 < b ∧ b < 1024) ∧ (-1024 < c ∧ c < 1024) ∧ (-1024 < h ∧ h < 1024)) := ⟨ha, hb, hc, hh⟩
  have HN : Hid (N = 2 * H + 1 ∧ 0 < H ∧ N ≤ 99 ∧ h ≠ 0) := ⟨hN, h0, hn, z0⟩
  have a1 := ha.1
  have a2 := ha.2
  have b1 := hb.1
  have b2 := hb.2
  have q0 : (h == 0) = false := beq_false_of_ne z0
  have n1 : ¬ (N : Int) < 3 := by omega
  have n2 : ¬ 99 < (N : Int) := by omega
  have n3 : (N : Int).tmod 2 = 1 := by rw [Int.tmod_eq_emod_of_nonneg (by omega)]; omega
  have n4 : (N : Int) % 2 = 1 := by omega
  clear ha hb hc hh z0 hN h0 hn
  go_enter Try.func5, Try.ntmps5
  go_wp2_with (first
    | (go_at_call 9; (with_reducible refine (t9 _).mono ?_); rintro e w1 ⟨rfl, U1⟩)
    | (go_at_call 21; (with_reducible refine (t21t HA.out.1 _).mono ?_); rintro e w2 ⟨rfl, hw⟩; subst w2)
    | (go_at_call 21; (with_reducible refine (t21t HA.out.2.1 _).mono ?_); rintro e w2 ⟨rfl, hw⟩; subst w2)
    | (go_at_call 21; (with_reducible refine (t21t HA.out.2.2.1 _).mono ?_); rintro e w2 ⟨rfl, hw⟩; subst w2)
    | (go_at_call 21; (with_reducible refine (t21t HA.out.2.2.2 _).mono ?_); rintro e w2 ⟨rfl, hw⟩; subst w2))
  go_loopw [11, 12, 13, 14, 64] (fun vt vx vy _ vi wr => ∃ (i ct cx cy : Nat) (pt px py : Option Addr) (Lt Lx Ly : List Nat), i ≤ N ∧ vt = .slice pt i ct ∧ vx = .slice px i cx ∧ vy = .slice py i cy ∧ vi = .int .i64 i ∧ Hid (A3 w1 wr (.slice pt i ct) (.slice px i cx) (.slice py i cy) Lt Lx Ly) ∧ Hid (RowI Lt i (fun j => a + j * h) ∧ RowI Lx i (fun j => b + c * a + j * (c * h)) ∧ RowN Ly i (fun j => b + c * a + j * (c * h)))) (fun _ _ _ _ vi _ => N - (intOf vi).toNat)
  case atStart => exact ⟨0, 0, 0, 0, none, none, none, [], [], [], by omega, rfl, rfl, rfl, rfl, A3.start _, RowI.nil _, RowI.nil _, RowN.nil _⟩
  case round =>
    obtain ⟨i, ct, cx, cy, pt, px, py, Lt, Lx, Ly, hi, rfl, rfl, rfl, rfl, HO, HR⟩ := hrel
    rename World => wr
    by_cases hlt : i < N
    · have y1 : (i : Int) < (N : Int) := by omega
      have bd := mul_bds (i := i) HA.out.1 HA.out.2.2.1 HA.out.2.2.2 (by have := HN.out.2.2.1; omega)
      obtain ⟨⟨d1, d2⟩, d3, d4⟩ := bd
      have HL : Hid (Lt.length ≤ 2000000 ∧ Lx.length ≤ 2000000 ∧ Ly.length ≤ 2000000) := ⟨by rw [HR.out.1.len]; omega, by rw [HR.out.2.1.len]; omega, by rw [HR.out.2.2.len]; omega⟩
      have HE : Hid (b + c * (a + (i : Int) * h) = b + c * a + (i : Int) * (c * h)) := by show _ = _; grind
      go_wp2_with (first
        | (at_builtin; refine wpList_pushF (b := w1.heap.size) rfl _ _ rfl pt i ct Lt (floatOfInt .f64 (a + (i : Int) * h)) rfl rfl HO.out.ab.a (RowKit.Below.size HO.out.ab.up) HL.out.1 ?_; intro pt' ct' w7 O7 G7 B7; (have HO7 : Hid (A3 w1 w7 (.slice pt' (i + 1) ct') (.slice px i cx) (.slice py i cy) (Lt ++ [floatOfInt .f64 (a + (i : Int) * h)]) Lx Ly) := HO.out.pushA O7 G7 B7); clear O7 G7 B7)
        | (at_builtin; refine wpList_pushF (b := w1.heap.size) rfl _ _ rfl px i cx Lx (floatOfInt .f64 (b + c * (a + (i : Int) * h))) rfl rfl HO7.out.ab.b (RowKit.Below.size HO7.out.ab.up) HL.out.2.1 ?_; intro px' cx' w8 O8 G8 B8; (have HO8 : Hid (A3 w1 w8 (.slice pt' (i + 1) ct') (.slice px' (i + 1) cx') (.slice py i cy) (Lt ++ [floatOfInt .f64 (a + (i : Int) * h)]) (Lx ++ [floatOfInt .f64 (b + c * (a + (i : Int) * h))]) Ly) := HO7.out.pushB O8 G8 B8); clear O8 G8 B8 HO7)
        | (at_builtin; refine wpList_pushF (b := w1.heap.size) rfl _ _ rfl py i cy Ly (Go.Fl.neg (floatOfInt .f64 (b + c * (a + (i : Int) * h)))) rfl rfl HO8.out.ac.b (RowKit.Below.size HO8.out.ab.up) HL.out.2.2 ?_; intro py' cy' w9 O9 G9 B9; (have HO9 : Hid (A3 w1 w9 (.slice pt' (i + 1) ct') (.slice px' (i + 1) cx') (.slice py' (i + 1) cy') (Lt ++ [floatOfInt .f64 (a + (i : Int) * h)]) (Lx ++ [floatOfInt .f64 (b + c * (a + (i : Int) * h))]) (Ly ++ [Go.Fl.neg (floatOfInt .f64 (b + c * (a + (i : Int) * h)))])) := HO8.out.pushC O9 G9 B9); clear O9 G9 B9 HO8))
      go_roundw
      case rel => exact ⟨i + 1, ct', cx', cy', pt', px', py', _, _, _, by omega, rfl, rfl, rfl, by go_num, HO9, HR.out.1.push rfl, HR.out.2.1.push HE.out, HR.out.2.2.push HE.out⟩
      case measure => simp [intOf]; omega
    · obtain rfl : i = N := by omega
      have HS : Hid (Str Lt.toArray Lx.toArray Ly.toArray b c h) := by
        obtain ⟨e1, e2, e3, e4⟩ := HN.out
        subst e1
        obtain ⟨k1, k2, k3, k4⟩ := HA.out
        exact rows_str HR.out.1 HR.out.2.1 HR.out.2.2 e2 e3 (by omega) (by omega) (by omega) (by omega) e4
      have S1 : Hid (SV wr pt i ct Lt.toArray) := or_sv3 HO.out.ab.a HR.out.1.fit
      have S2 : Hid (SV wr px i cx Lx.toArray) := or_sv3 HO.out.ab.b HR.out.2.1.fit
      have S3 : Hid (SV wr py i cy Ly.toArray) := or_sv3 HO.out.ac.b HR.out.2.2.fit
      have W1 : Hid (Up w wr) := U1.out.trans HO.out.ab.up
      clear HO HR
      have T1 : Hid (∀ W, Up wr W → Calls Try.prog 15 #[.slice pt i ct, .slice px i cx] W fun e w' => ∃ A, e = .returned (.tuple #[.float .f64 A, .float .f64 (floatOfInt .f64 c), .int .i64 0]) ∧ Hid (WH (ab A) b) ∧ Hid (Up W w')) := fun W hu => (t15 (S1.out.up hu) (S2.out.up hu)).mono fun e w' ⟨A, s, k1, k2, k3⟩ => by
        rw [HS.out.e1] at k1
        have e2 := k2.out.2
        rw [HS.out.s1] at e2
        have e3 := ab_is e2
        subst e3
        exact ⟨A, k1, (by show WH _ _; rw [k2.out.1]; exact HS.out.a1), k3⟩
      have T2 : Hid (∀ W, Up wr W → Calls Try.prog 15 #[.slice pt i ct, .slice py i cy] W fun e w' => ∃ A S, e = .returned (.tuple #[.float .f64 A, .float .f64 S, .int .i64 0]) ∧ Hid (WH (ab A) (-b) ∧ WH (ab S) (-c)) ∧ Hid (Up W w')) := fun W hu => (t15 (S1.out.up hu) (S3.out.up hu)).mono fun e w' ⟨A, s, k1, k2, k3⟩ => by
        rw [HS.out.e2] at k1
        exact ⟨A, s, k1, (by show WH _ _ ∧ WH _ _; rw [k2.out.1, k2.out.2]; exact ⟨HS.out.a2, HS.out.s2⟩), k3⟩
      obtain ⟨E, hE⟩ : ∃ E : Int, (if h < 0 then 2 else 0) = E := ⟨_, rfl⟩
      have T3 : Hid (∀ W, Up wr W → Calls Try.prog 18 #[.slice pt i ct, .slice px i cx, .float .f64 0] W fun e w' => ∃ p c, e = .returned (.tuple #[.slice p 0 c, .int .i64 E]) ∧ Hid (Up W w')) := fun W hu => (t18 0 (S1.out.up hu) (S2.out.up hu)).mono fun e w' ⟨p, c, k1, _, k3⟩ => by
        rw [HS.out.te, HS.out.td, hE] at k1
        exact ⟨p, c, k1, k3⟩
      have HB : Hid (WH (ab (floatOfInt .f64 b)) b ∧ WH (ab (Go.Fl.neg (floatOfInt .f64 c))) (-c)) := ⟨WH.int (by have := HA.out.2.1; unfold P53; omega) (by have := HA.out.2.1; unfold P53; omega), ab_neg_int (by have := HA.out.2.2.1; unfold P53; omega) (by have := HA.out.2.2.1; unfold P53; omega)⟩
      clear HS S1 S2 S3
      go_upto_region 13 with (first
        | (go_at_call 15; (with_reducible refine (T1.out _ (Up.refl _)).mono ?_); rintro e w4 ⟨A1, rfl, WA1, U4⟩)
        | (go_at_call 15; (with_reducible refine (T2.out _ U4.out).mono ?_); rintro e w5 ⟨A2, S2, rfl, WA2, U5⟩))
      have q1 : eqF (ab A1) (ab (floatOfInt .f64 b)) = true := by rw [WA1.out.eq HB.out.1]; simp
      have q2 : eqF (ab A2) (ab (Go.Fl.neg A1)) = true := by rw [ab_neg, WA2.out.1.eq WA1.out.neg]; simp
      have q3 : eqF (ab S2) (ab (Go.Fl.neg (floatOfInt .f64 c))) = true := by rw [WA2.out.2.eq HB.out.2]; simp
      have V5 : Hid (Up wr w5) := U4.out.trans U5.out
      clear U4 U5 T1 T2
      by_cases hneg : h < 0
      · have hE2 : E = 2 := by rw [← hE, if_pos hneg]
        subst hE2
        clear hE
        go_wp2_with (go_at_call 18; (with_reducible refine (T3.out _ V5.out).mono ?_); rintro e w6 ⟨pl, cl, rfl, U6⟩)
        go_ret
        exact ⟨rfl, W1.out.trans (V5.out.trans U6.out)⟩
      · have hE2 : E = 0 := by rw [← hE, if_neg hneg]
        subst hE2
        clear hE
        go_wp2_with (go_at_call 18; (with_reducible refine (T3.out _ V5.out).mono ?_); rintro e w6 ⟨pl, cl, rfl, U6⟩)
        go_ret
        exact ⟨rfl, W1.out.trans (V5.out.trans U6.out)⟩
theorem t5 {w : World} (a b c h n : Int) : Calls Try.prog 5 #[.int .i64 a, .int .i64 b, .int .i64 c, .int .i64 h, .int .i64 n] w (TU w) := by
  by_cases ha : -1024 < a ∧ a < 1024
  · by_cases hb : -1024 < b ∧ b < 1024
    · by_cases hc : -1024 < c ∧ c < 1024
      · by_cases hh : -1024 < h ∧ h < 1024
        · by_cases z0 : h = 0
          · subst z0; exact t5e ha hb hc
          · by_cases z1 : n < 3
            · exact t5f ha hb hc hh z0 z1
            · by_cases z2 : 99 < n
              · exact t5g ha hb hc hh z0 z1 z2
              · by_cases z3 : n % 2 = 0
                · exact t5i ha hb hc hh z0 z1 z2 z3
                · obtain ⟨N, rfl⟩ : ∃ N : Nat, n = N := ⟨n.toNat, by omega⟩
                  exact t5ok (H := N / 2) ha hb hc hh z0 (by omega) (by omega) (by omega)
        · exact t5d ha hb hc hh
      · exact t5c ha hb hc
    · exact t5b ha hb
  · exact t5a ha
end Go.Proofs.Ytcgbmcnefolgcaa
