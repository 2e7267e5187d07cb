/- SmoothBacks: the walk. -/
import Derived.Test.YtcgbmcnefolgcaaFd
namespace Go.Proofs.Ytcgbmcnefolgcaa
open Go.ChangeShapes Go.WideShapes Go.ChangeAt Go.RowKit Go.Fl Go.Sort
attribute [local go_sem] run_store_float call22 call54 run_neg fold_eq fold_ne fold_lt fold_gt abs_eq

/-- How many states Back tells. -/
def bakN (n : Nat) (S : Nat → Stt) (d : Array Nat) (q : Option Nat) : Nat := if bakE n S d q = 0 then n else 0
theorem SO.block {b : Nat} {w : World} {p : Option Addr} {n cap : Nat} {D : List Stt} (h : SO b w (.slice p n cap) D) (h0 : 0 < n) : ∃ g, p = some ⟨g, 0, none⟩ ∧ b ≤ g ∧ g < w.heap.size := by
  obtain ⟨g, e, k1, k2, _⟩ := h.at (i := 0) (by have := h.len; omega)
  exact ⟨g, e, k1, k2⟩
theorem BaR.form {w w' : World} {n : Nat} {S : Nat → Stt} {d : Array Nat} {q : Option Nat} {e : Ending} (h : BaR w n S d q e w') : ∃ p c D, e = .returned (.tuple #[.slice p (bakN n S d q) c, .int .i64 (bakE n S d q)]) ∧ Hid (SO w.heap.size w' (.slice p (bakN n S d q) c) D) ∧ Hid (∀ j, j < bakN n S d q → (D.getD j Stt.zero).ab = bkN S d q (n - 1) (n - 1 - j)) ∧ Hid (Up w w') := by
  obtain ⟨p, c, D, h1, h2, h3, h4, h5⟩ := h
  have e : D.length = bakN n S d q := h2.out
  rw [e] at h1 h3 h4
  exact ⟨p, c, D, h1, h3, h4, h5⟩
theorem bakN_le {n : Nat} {S : Nat → Stt} {d : Array Nat} {q : Option Nat} : bakN n S d q ≤ 1024 := by
  unfold bakN
  split
  · rename_i h
    exact (bakE_may h).1
  · omega
set_option maxHeartbeats 8000000 in
set_option maxRecDepth 20000 in
theorem t3 {w : World} {p p2 : Option Addr} {n cap m cap2 : Nat} {S : Nat → Stt} {d : Array Nat} (q : Nat) (h : n ≤ 2000000 → SS w p n cap S) (h2 : SV w p2 m cap2 d) : Calls Try.prog 3 #[.slice p n cap, .slice p2 m cap2, .float .f64 q] w (TU w) := by
  by_cases k1 : 1048576 < n
  · have z1 : (1048576 : Int) < (n : Int) := by omega
    clear h h2
    go_enter Try.func3, Try.ntmps3
    go_wp2_with (go_at_call 9; (with_reducible refine (t9 _).mono ?_); rintro e w1 ⟨rfl, U1⟩)
    go_ret
    exact ⟨rfl, U1⟩
  have z1 : ¬ (1048576 : Int) < (n : Int) := by omega
  by_cases k2 : 1048576 < m
  · have z2 : (1048576 : Int) < (m : Int) := by omega
    clear h h2
    go_enter Try.func3, Try.ntmps3
    go_wp2_with (go_at_call 9; (with_reducible refine (t9 _).mono ?_); rintro e w1 ⟨rfl, U1⟩)
    go_ret
    exact ⟨rfl, U1⟩
  have z2 : ¬ (1048576 : Int) < (m : Int) := by omega
  have HS : Hid (SS w p n cap S ∧ SV w p2 m cap2 d) := ⟨h (by omega), h2⟩
  have HN : Hid (n ≤ 1048576 ∧ m ≤ 1048576) := ⟨by omega, by omega⟩
  have HD : Hid (d.size = m) := h2.len
  clear h h2
  have e77 := eq77
  obtain ⟨N, hN⟩ : ∃ N, bakN n S d (ab q) = N := ⟨_, rfl⟩
  obtain ⟨E, hE⟩ : ∃ E, bakE n S d (ab q) = E := ⟨_, rfl⟩
  have CA : Hid (∀ (w : World) p n' cap m' p2 cap2, n' = n → m' = m → SS w p n' cap S → SV w p2 m' cap2 d → Calls Try.prog 11 #[.slice p n' cap, .slice p2 m' cap2, .float .f64 q] w fun e w' => ∃ p c D, e = .returned (.tuple #[.slice p N c, .int .i64 E]) ∧ Hid (SO w.heap.size w' (.slice p N c) D) ∧ Hid (∀ j, j < N → (D.getD j Stt.zero).ab = bkN S d (ab q) (n - 1) (n - 1 - j)) ∧ Hid (Up w w')) := fun w p n' cap m' p2 cap2 e1 e2 h1 h2 => (t11 q h1 h2).mono fun e w' h => by
    subst e1
    have := h.form
    rw [hN, hE] at this
    exact this
  have CB : Hid (∀ (w : World) p n' cap m' p2 cap2, n' = n → m' = m → SS w p n' cap S → SV w p2 m' cap2 d → Calls Try.prog 12 #[.slice p n' cap, .slice p2 m' cap2, .float .f64 q] w fun e w' => ∃ p c D, e = .returned (.tuple #[.slice p N c, .int .i64 E]) ∧ Hid (SO w.heap.size w' (.slice p N c) D) ∧ Hid (∀ j, j < N → (D.getD j Stt.zero).ab = bkN S d (ab q) (n - 1) (n - 1 - j)) ∧ Hid (Up w w')) := fun w p n' cap m' p2 cap2 e1 e2 h1 h2 => (t12 q h1 h2).mono fun e w' h => by
    subst e1
    have := h.form
    rw [hN, hE] at this
    exact this
  have HNL : Hid (N ≤ 1024) := hN ▸ bakN_le
  have zN : (N : Int) ≤ 1024 := by have := HNL.out; omega
  clear hN hE
  go_enter Try.func3, Try.ntmps3
  go_wp2_with (first
    | (at_builtin; refine wpList_app_ss rfl _ _ rfl w.heap.size 0 0 none p n cap [] S rfl rfl (SO.nil _ _) HS.out.1 (by have := HN.out.1; omega) (Nat.le_refl _) ?_; intro p1 c1 w1 hown hgr
       have HO : Hid (SO w.heap.size w1 (.slice p1 n c1) ((List.range n).map S)) := by rw [Nat.zero_add] at hown; exact hown
       have HU : Hid (Up w w1) := grown_up (Up.refl _) hgr (fun j hj => by cases hj)
       clear hown hgr)
    | (at_builtin; refine wpList_app_ss rfl _ _ rfl w.heap.size n c1 p1 (some ⟨w1.heap.size, 0, none⟩) 1 1 ((List.range n).map S) (fun _ => markS) rfl rfl (HO.out.up (Up.alloc _ _)) (ss_mark w1) (by have := HN.out.1; omega) (Nat.le_trans (RowKit.Below.size HU.out) (by simp)) ?_; intro p2' c2 w2 hown hgr
       have HU2 : Hid (Up w w2) := grown_up (HU.out.trans (Up.alloc _ _)) hgr (fun j hj => (HO.out.lt j hj).1)
       obtain ⟨g, hg, _, _⟩ := hown.block (by omega)
       subst hg
       have HW : Hid (OS w.heap.size w2 g n c2 S) := hown
       have hc2 := (HW.out.ss HN.out.1).2
       clear hown hgr)
    | (go_at_call 10; (with_reducible refine (t10 (HS.out.2.up HU2.out) HN.out.2).mono ?_); rintro e w3 ⟨gt, ct, rfl, OT, U3⟩; (have W3 : Hid (Up w w3) := HU2.out.trans U3.out); (have HW3 : Hid (OS w.heap.size w3 g n c2 S) := HW.out.up U3.out))
    | (go_at_call 11; (with_reducible refine (CA.out w3 (some ⟨g, 0, none⟩) n c2 m (some ⟨gt, 0, none⟩) ct rfl rfl (HW3.out.ss HN.out.1).1 (OT.out.sv HD.out HS.out.2.fit).1).mono ?_); rintro e w4 ⟨pa, ca, DA, rfl, OA, VA, U4⟩; (have W4 : Hid (Up w w4) := W3.out.trans U4.out))
    | (go_at_call 12; (with_reducible refine (CB.out w4 p n cap m p2 cap2 rfl rfl (HS.out.1.up W4.out) (HS.out.2.up W4.out)).mono ?_); rintro e w5 ⟨pb, cb, DB, rfl, OB, VB, U5⟩; (have W5 : Hid (Up w w5) := W4.out.trans U5.out); (have OA5 : Hid (SO w3.heap.size w5 (.slice pa N ca) DA) := OA.out.up U5.out); (have V35 : Hid (Up w3 w5) := U4.out.trans U5.out))
    | (go_at_call 13; (with_reducible refine (t13 (OA5.out.ss (Nat.le_trans HNL.out (by omega))) (OB.out.ss (Nat.le_trans HNL.out (by omega))) (fun i hi => (VA.out i hi).trans (VB.out i hi).symm)).mono ?_); rintro e w6 ⟨rfl, U6⟩; (have V36 : Hid (Up w3 w6) := V35.out.trans U6.out))
    | (go_at_call 13; (with_reducible refine (t13 ((HW3.out.up V36.out).ss HN.out.1).1 (HS.out.1.up (W3.out.trans V36.out)) (fun _ _ => rfl)).mono ?_); rintro e w7 ⟨rfl, U7⟩; (have V37 : Hid (Up w3 w7) := V36.out.trans U7.out); (have cm := (HW3.out.up V37.out).mark); (have OA7 : Hid (SO w3.heap.size w7 (.slice pa N ca) DA) := OA5.out.up (U6.out.trans U7.out)); (have hc3 : n + 1 ≤ c2 := hc2))
    | (go_at_call 14; (with_reducible refine (t14 (HS.out.2.up (W3.out.trans V37.out)) (OT.out.up V37.out) HN.out.2).mono ?_); rintro e w8 ⟨rfl, U8⟩; (have V38 : Hid (Up w3 w8) := V37.out.trans U8.out); (have OA8 : Hid (SO w3.heap.size w8 (.slice pa N ca) DA) := OA7.out.up U8.out)))
  clear cm CA CB OA5 OB OA7 VA VB V35 V36 V37 U3 U4 U5 U6 U7 U8 W4 W5 HW HO HU HU2 OA
  go_loopw [13, 84] (fun _ vi wr => ∃ (i : Nat) (D : List Stt), i ≤ N ∧ vi = .int .i64 i ∧ Hid (SO w3.heap.size wr (.slice pa N ca) D) ∧ Hid (Up w3 wr)) (fun _ vi _ => N - (intOf vi).toNat)
  case atStart => exact ⟨0, DA, by omega, rfl, OA8, V38⟩
  case round =>
    clear OA8 V38
    obtain ⟨i, D, hi, rfl, HO, HU⟩ := hrel
    rename World => wr
    by_cases hlt : i < N
    · have hDl := HO.out.len
      obtain ⟨ga, hga, hb1, _, Q5⟩ := HO.out.at (i := i) (by omega)
      subst hga
      obtain ⟨a0, a1, a2, a3, a4⟩ := Q5
      have f0 := HO.out.frz (i * 5)
      have f1 := HO.out.frz (i * 5 + 1)
      have f2 := HO.out.frz (i * 5 + 2)
      have f3 := HO.out.frz (i * 5 + 3)
      have f4 := HO.out.frz (i * 5 + 4)
      obtain ⟨P1, P2⟩ := HO.out.put (i := i) (by omega) ⟨4617315517961601024, 0, 0, 0, 0⟩
      have P1' : Hid (SO w3.heap.size (((((wr.setCell ⟨ga, i * 5, none⟩ (.float .f64 4617315517961601024)).setCell ⟨ga, i * 5 + 1, none⟩ (.float .f64 0)).setCell ⟨ga, i * 5 + 2, none⟩ (.float .f64 0)).setCell ⟨ga, i * 5 + 3, none⟩ (.float .f64 0)).setCell ⟨ga, i * 5 + 4, none⟩ (.float .f64 0)) (.slice (some ⟨ga, 0, none⟩) N ca) (D.set i ⟨4617315517961601024, 0, 0, 0, 0⟩)) := P1
      have P2' : Hid (But ga wr (((((wr.setCell ⟨ga, i * 5, none⟩ (.float .f64 4617315517961601024)).setCell ⟨ga, i * 5 + 1, none⟩ (.float .f64 0)).setCell ⟨ga, i * 5 + 2, none⟩ (.float .f64 0)).setCell ⟨ga, i * 5 + 3, none⟩ (.float .f64 0)).setCell ⟨ga, i * 5 + 4, none⟩ (.float .f64 0))) := P2
      have HB1 : Hid (w3.heap.size ≤ ga) := hb1
      have y1 : (i : Int) < (N : Int) := by omega
      clear P1 P2 hDl hb1
      go_wp2
      go_roundw
      case rel => exact ⟨i + 1, _, by omega, by go_num, P1', P2'.out.up HU.out HB1.out⟩
      case measure => simp [intOf]; omega
    · obtain rfl : i = N := by omega
      have HW9 : Hid (OS w.heap.size wr g n c2 S) := HW3.out.up HU.out
      have W9 : Hid (Up w wr) := W3.out.trans HU.out
      go_wp2_with (first
        | (go_at_call 13; (with_reducible refine (t13 (HW9.out.ss HN.out.1).1 (HS.out.1.up W9.out) (fun _ _ => rfl)).mono ?_); rintro e w10 ⟨rfl, U10⟩)
        | (go_at_call 9; (with_reducible refine (t9 _).mono ?_); rintro e w11 ⟨rfl, U11⟩))
      go_ret
      exact ⟨rfl, W9.out.trans (U10.out.trans U11.out)⟩
end Go.Proofs.Ytcgbmcnefolgcaa
