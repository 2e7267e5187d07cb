/- PlaceCorners. -/
import Derived.Test.YtlgejebgkkmacaaPs
import Derived.Deep.CutRange
namespace Go.Proofs.Ytlgejebgkkmacaa
open Go.ChangeShapes Go.WideShapes Go.ChangeAt Go.RowKit Go.Fl Ieee
attribute [local go_sem] run_store_float run_store_complex call39 call50 run_neg fold_eq fold_ne fold_lt fold_gt abs_eq

theorem t24 (i : Int) (n s : Nat) (w : World) (h1 : 1 ≤ n) (h2 : n ≤ 65536) (hs : i % (n : Int) = s) : Calls Try.prog 24 #[.int .i64 i, .int .i64 n] w fun e w' => e = .returned (.int .i64 s) ∧ w' = w := by
  have hz : (n : Int) ≠ 0 := by omega
  have a1 : -(n : Int) < i.tmod n := Int.lt_tmod_of_pos i (by omega)
  have a2 : i.tmod n < (n : Int) := Int.tmod_lt_of_pos i (by omega)
  have e : (if i.tmod n < 0 then i.tmod n + n else i.tmod n) = (s : Int) := by
    rw [← hs]
    have h := Int.tmod_add_mul_tdiv i (n : Int)
    have h3 : i % (n : Int) = i.tmod n % (n : Int) := by
      rw [show i % (n : Int) = (i.tmod n + (n : Int) * i.tdiv n) % (n : Int) by rw [h], Int.add_mul_emod_self_left]
    rw [h3]
    split
    · rw [← Int.add_emod_right, Int.emod_eq_of_lt (by omega) (by omega)]
    · rw [Int.emod_eq_of_lt (by omega) a2]
  obtain ⟨k, hk⟩ : ∃ k, i.tmod n = k := ⟨_, rfl⟩
  rw [hk] at a1 a2 e
  by_cases hn : k < 0
  · rw [if_pos hn] at e
    go_enter Try.func24, Try.ntmps24
    go_wp2
    go_ret
    exact ⟨rfl, rfl⟩
  · rw [if_neg hn] at e
    go_enter Try.func24, Try.ntmps24
    go_wp2
    go_ret
    exact ⟨rfl, rfl⟩
def lenV : Value → Nat
  | .slice _ n _ => n
  | _ => 0
/-- The first k of a row. -/
def rowL (F : Nat → Nat × Nat) (k : Nat) : List (Nat × Nat) := (List.range k).map F
theorem rowL_push (F : Nat → Nat × Nat) (k : Nat) {y : Nat × Nat} (h : F k = y) : rowL F k ++ [y] = rowL F (k + 1) := map_push F k h
theorem rowL_len (F : Nat → Nat × Nat) (k : Nat) : (rowL F k).length = k := by simp [rowL]
def rndF (f : Nat → Nat × Nat) (n s k : Nat) : Nat × Nat := f ((k + s) % n)
def bckF (f : Nat → Nat × Nat) (n k : Nat) : Nat × Nat := f (n - 1 - k)
set_option maxHeartbeats 8000000 in
set_option maxRecDepth 20000 in
theorem t5ok (b o n cap x y : Nat) (bg i0 j0 : Int) (f : Nat → Nat × Nat) (w : World) (h1 : 1 ≤ n) (h2 : n ≤ 65536) (hcap : n ≤ cap) (HP : Hid (PV w b o n f)) : Calls Try.prog 5 #[.slice (some ⟨b, o, none⟩) n cap, .agg #[.float .f64 x, .float .f64 y], .int .i64 bg, .int .i64 i0, .int .i64 j0] w (TU w) := by
  obtain ⟨s, hs⟩ : ∃ s : Nat, bg % (n : Int) = s := ⟨(bg % (n : Int)).toNat, by have := Int.emod_nonneg bg (show (n : Int) ≠ 0 by omega); omega⟩
  obtain ⟨i, hi⟩ : ∃ i : Nat, i0 % (n : Int) = i := ⟨(i0 % (n : Int)).toNat, by have := Int.emod_nonneg i0 (show (n : Int) ≠ 0 by omega); omega⟩
  obtain ⟨j, hj⟩ : ∃ j : Nat, j0 % (n : Int) = j := ⟨(j0 % (n : Int)).toNat, by have := Int.emod_nonneg j0 (show (n : Int) ≠ 0 by omega); omega⟩
  have hsn : s < n := by have := Int.emod_lt_of_pos bg (show (0 : Int) < n by omega); omega
  have hin : i < n := by have := Int.emod_lt_of_pos i0 (show (0 : Int) < n by omega); omega
  have hjn : j < n := by have := Int.emod_lt_of_pos j0 (show (0 : Int) < n by omega); omega
  have HC1 : Hid (∀ w, Calls Try.prog 24 #[.int .i64 bg, .int .i64 n] w fun e w' => e = .returned (.int .i64 s) ∧ w' = w) := fun w => t24 bg n s w h1 h2 hs
  have HC2 : Hid (∀ w, Calls Try.prog 24 #[.int .i64 i0, .int .i64 n] w fun e w' => e = .returned (.int .i64 i) ∧ w' = w) := fun w => t24 i0 n i w h1 h2 hi
  have HC3 : Hid (∀ w, Calls Try.prog 24 #[.int .i64 j0, .int .i64 n] w fun e w' => e = .returned (.int .i64 j) ∧ w' = w) := fun w => t24 j0 n j w h1 h2 hj
  clear hs hi hj
  obtain ⟨I, WNI⟩ : ∃ I, Hid (winF f n (x, y) = I) := ⟨_, rfl⟩
  have HT0 : Hid (∀ W, Up w W → Calls Try.prog 22 #[.slice (some ⟨b, o, none⟩) n cap, .agg #[.float .f64 x, .float .f64 y]] W (BU W I)) := fun W hu => by rw [← WNI.out]; exact t22 _ n _ _ _ f W (fun _ => ⟨_, _, rfl, HP.out.up hu⟩)
  have z0 : ((n : Int) == 0) = false := by simp; omega
  have z1 : (n : Int) ≤ 65536 := by omega
  go_enter Try.func5, Try.ntmps5
  go_wp2_with (first
    | (go_at_call 21; (with_reducible refine (t21 _).mono ?_); rintro e w1 ⟨rfl, u1⟩; obtain ⟨x0, x1, _, _⟩ := facts2 (kept2 (heap_alloc_last w _) u1.out))
    | (go_at_call 22; (with_reducible refine (HT0.out w1 (Up.trans (Up.alloc _ _) u1.out)).mono ?_); rintro e w2 ⟨rfl, u2⟩; replace u2 : Hid _ := u2))
  have HU2 : Hid (Up w w2) := ((Up.alloc _ _).trans u1.out).trans u2.out
  have HX : Hid (w2.heap[w.heap.size]? = some (.cells #[.float .f64 x, .float .f64 y] 24)) := kept2 (heap_alloc_last w _) (Up.trans u1.out u2.out)
  clear x0 x1 u1 u2
  go_loopw [13, 14, 36] (fun va vb vi wr => ∃ (k : Nat) (p1 : Option Addr) (c1 : Nat) (p2 : Option Addr) (c2 : Nat), k ≤ n ∧ vi = .int .i64 k ∧ va = .slice p1 k c1 ∧ vb = .slice p2 k c2 ∧ Hid (AB w2.heap.size w2 wr (.slice p1 k c1) (.slice p2 k c2) (rowL (rndF f n s) k) (rowL (bckF f n) k))) (fun _ _ vi _ => n - (intOf vi).toNat)
  case atStart => exact ⟨0, none, 0, none, 0, by omega, rfl, rfl, rfl, AB.start w2⟩
  case round =>
    obtain ⟨k, p1, c1, p2, c2, hk, rfl, rfl, rfl, HAB⟩ := hrel
    by_cases hlt : k < n
    · have hkz : (k : Int) < (n : Int) := by omega
      obtain ⟨q, hq⟩ : ∃ q : Nat, (k + s) % n = q := ⟨_, rfl⟩
      have hqn : q < n := by rw [← hq]; exact Nat.mod_lt _ (by omega)
      have hqz : (q : Int) < (n : Int) := by omega
      have hrem : ((k : Int) + s).tmod (n : Int) = (q : Int) := by
        rw [Int.tmod_eq_emod_of_nonneg (by omega), ← hq]; rfl
      obtain ⟨r, hr⟩ : ∃ r : Nat, (n : Int) - 1 - k = r := ⟨n - 1 - k, by omega⟩
      have hrn : r < n := by omega
      have hrz : (r : Int) < (n : Int) := by omega
      obtain ⟨c0, c0'⟩ := HP.out.up (HU2.out.trans HAB.out.up) q hqn
      go_wp2_with (first
        | (go_at_call 24; (with_reducible refine (HC1.out _).mono ?_); rintro e w' ⟨rfl, hw⟩; subst w')
        | (at_builtin; refine wpList_pushA rfl _ _ rfl w2.heap.size p1 k c1 (f q).1 (f q).2 (.slice p2 k c2) _ _ rfl rfl (rowL_len _ _) HAB.out (by omega) ?_))
      intro p3 c3 w3 HAB3
      have HAB4 : Hid (AB w2.heap.size w2 w3 (.slice p3 (k + 1) c3) (.slice p2 k c2) (rowL (rndF f n s) (k + 1)) (rowL (bckF f n) k)) := by
        have := HAB3.out
        rw [rowL_push (rndF f n s) k (show f ((k + s) % n) = ((f q).1, (f q).2) by rw [hq])] at this
        exact this
      clear HAB3 HAB c0 c0'
      obtain ⟨d0, d0'⟩ := HP.out.up (HU2.out.trans HAB4.out.up) r hrn
      go_wp2_with (at_builtin; refine wpList_pushB rfl _ _ rfl w2.heap.size p2 k c2 (f r).1 (f r).2 (.slice p3 (k + 1) c3) _ _ rfl rfl (rowL_len _ _) HAB4.out (by omega) ?_)
      intro p4 c4 w4 HAB5
      have HAB6 : Hid (AB w2.heap.size w2 w4 (.slice p3 (k + 1) c3) (.slice p4 (k + 1) c4) (rowL (rndF f n s) (k + 1)) (rowL (bckF f n) (k + 1))) := by
        have := HAB5.out
        rw [rowL_push (bckF f n) k (show f (n - 1 - k) = ((f r).1, (f r).2) by rw [show n - 1 - k = r by omega])] at this
        exact this
      clear HAB4 HAB5 d0 d0'
      go_wp2
      go_roundw
      case rel => exact ⟨k + 1, p3, c3, p4, c4, by omega, by go_num, rfl, rfl, HAB6⟩
      case measure => simp [intOf]; omega
    · obtain rfl : n = k := by omega
      have HT1 : Hid (∀ W, Up wr W → Calls Try.prog 22 #[.slice p1 n c1, .agg #[.float .f64 x, .float .f64 y]] W (BU W I)) := fun W hu => win_row HAB.out.a hu (by rw [← WNI.out]; exact win_round f n s (x, y))
      have HT2 : Hid (∀ W, Up wr W → Calls Try.prog 22 #[.slice p2 n c2, .agg #[.float .f64 x, .float .f64 y]] W (BU W I)) := fun W hu => win_row HAB.out.b hu (by rw [← WNI.out]; exact win_back f n (x, y))
      have HXr : Hid (wr.heap[w.heap.size]? = some (.cells #[.float .f64 x, .float .f64 y] 24)) := kept2 HX.out HAB.out.up
      obtain ⟨x0, x1, _, _⟩ := facts2 HXr.out
      have HUr : Hid (Up w wr) := HU2.out.trans HAB.out.up
      clear HAB HX HU2
      have hout : Hid (n < 3 ∨ 64 < n → I = false) := fun h => by rw [← WNI.out]; unfold winF; rw [if_pos h]
      by_cases h4 : n < 4 ∨ 64 < n
      · by_cases h3 : n < 3 ∨ 64 < n
        · obtain rfl : I = false := hout.out h3
          rcases h3 with h3 | h3
          · have y4 : (n : Int) < 4 := by omega
            have y3 : ¬ (3 : Int) ≤ n := by omega
            go_wp2_with (first
              | (go_at_call 22; (with_reducible refine (HT1.out _ (Up.refl _)).mono ?_); rintro e w5 ⟨rfl, u5⟩; obtain ⟨x2, x3, _, _⟩ := facts2 (kept2 HXr.out u5); replace u5 : Hid (Up wr w5) := u5) | (go_at_call 22; (with_reducible refine (HT2.out _ u5.out).mono ?_); rintro e w6 ⟨rfl, u6⟩; replace u6 : Hid (Up w5 w6) := u6))
            go_ret
            exact ⟨rfl, Up.trans HUr.out (Up.trans u5.out u6.out)⟩
          · have y4 : ¬ (n : Int) < 4 := by omega
            have y5 : (64 : Int) < n := by omega
            go_wp2_with (first
              | (go_at_call 22; (with_reducible refine (HT1.out _ (Up.refl _)).mono ?_); rintro e w5 ⟨rfl, u5⟩; obtain ⟨x2, x3, _, _⟩ := facts2 (kept2 HXr.out u5); replace u5 : Hid (Up wr w5) := u5) | (go_at_call 22; (with_reducible refine (HT2.out _ u5.out).mono ?_); rintro e w6 ⟨rfl, u6⟩; replace u6 : Hid (Up w5 w6) := u6))
            go_ret
            exact ⟨rfl, Up.trans HUr.out (Up.trans u5.out u6.out)⟩
        · have y4 : (n : Int) < 4 := by omega
          have y3 : (3 : Int) ≤ n := by omega
          have y5 : (n : Int) ≤ 64 := by omega
          go_wp2_with (first
            | (go_at_call 22; (with_reducible refine (HT1.out _ (Up.refl _)).mono ?_); rintro e w5 ⟨rfl, u5⟩; obtain ⟨x2, x3, _, _⟩ := facts2 (kept2 HXr.out u5); replace u5 : Hid (Up wr w5) := u5) | (go_at_call 22; (with_reducible refine (HT2.out _ u5.out).mono ?_); rintro e w6 ⟨rfl, u6⟩; replace u6 : Hid (Up w5 w6) := u6))
          go_ret
          exact ⟨rfl, Up.trans HUr.out (Up.trans u5.out u6.out)⟩
      · have y4 : ¬ (n : Int) < 4 := by omega
        have y5 : (n : Int) ≤ 64 := by omega
        by_cases hij : j < i
        · have yij : (j : Int) < i := by omega
          by_cases hd : i < j + 2
          · have yd : (i : Int) - j < 2 := by omega
            go_wp2_with (first
                  | (go_at_call 22; (with_reducible refine (HT1.out _ (Up.refl _)).mono ?_); rintro e w5 ⟨rfl, u5⟩; obtain ⟨x2, x3, _, _⟩ := facts2 (kept2 HXr.out u5); replace u5 : Hid (Up wr w5) := u5)
                  | (go_at_call 22; (with_reducible refine (HT2.out _ u5.out).mono ?_); rintro e w6 ⟨rfl, u6⟩; replace u6 : Hid (Up w5 w6) := u6)
                  | (go_at_call 24; (with_reducible refine (HC2.out _).mono ?_); rintro e w' ⟨rfl, hw⟩; subst w')
                  | (go_at_call 24; (with_reducible refine (HC3.out _).mono ?_); rintro e w' ⟨rfl, hw⟩; subst w'))
            go_ret
            exact ⟨rfl, Up.trans HUr.out (Up.trans u5.out u6.out)⟩
          · have yd : ¬ (i : Int) - j < 2 := by omega
            by_cases he : j = 0 ∧ i = n - 1
            · have ye : ((j : Int) == 0) = true := by simp; omega
              have yf : ((i : Int) == (n : Int) - 1) = true := by simp; omega
              clear he
              go_wp2_with (first
                  | (go_at_call 22; (with_reducible refine (HT1.out _ (Up.refl _)).mono ?_); rintro e w5 ⟨rfl, u5⟩; obtain ⟨x2, x3, _, _⟩ := facts2 (kept2 HXr.out u5); replace u5 : Hid (Up wr w5) := u5)
                  | (go_at_call 22; (with_reducible refine (HT2.out _ u5.out).mono ?_); rintro e w6 ⟨rfl, u6⟩; replace u6 : Hid (Up w5 w6) := u6)
                  | (go_at_call 24; (with_reducible refine (HC2.out _).mono ?_); rintro e w' ⟨rfl, hw⟩; subst w')
                  | (go_at_call 24; (with_reducible refine (HC3.out _).mono ?_); rintro e w' ⟨rfl, hw⟩; subst w'))
              go_ret
              exact ⟨rfl, Up.trans HUr.out (Up.trans u5.out u6.out)⟩
            · have HE : Hid (¬(j = 0 ∧ i = n - 1)) := he
              obtain ⟨e1, he1⟩ : ∃ e1, ((j : Int) == 0) = e1 := ⟨_, rfl⟩
              have yf : e1 = true → ((i : Int) == (n : Int) - 1) = false := fun h => by rw [h] at he1; simp at he1 ⊢; omega
              clear he
              cases e1
              all_goals
                first | replace yf := yf rfl | clear yf
                go_upto_region 21 with (first
                  | (go_at_call 22; (with_reducible refine (HT1.out _ (Up.refl _)).mono ?_); rintro e w5 ⟨rfl, u5⟩; obtain ⟨x2, x3, _, _⟩ := facts2 (kept2 HXr.out u5); replace u5 : Hid (Up wr w5) := u5)
                  | (go_at_call 22; (with_reducible refine (HT2.out _ u5.out).mono ?_); rintro e w6 ⟨rfl, u6⟩; replace u6 : Hid (Up w5 w6) := u6)
                  | (go_at_call 24; (with_reducible refine (HC2.out _).mono ?_); rintro e w' ⟨rfl, hw⟩; subst w')
                  | (go_at_call 24; (with_reducible refine (HC3.out _).mono ?_); rintro e w' ⟨rfl, hw⟩; subst w'))
                obtain ⟨m1, hm1⟩ : ∃ m1 : Nat, (i : Int) + 1 - j = m1 := ⟨i + 1 - j, by omega⟩
                have hm1' : i + 1 - j = m1 := by omega
                have q1 : (j : Int) ≤ (i : Int) + 1 := by omega
                have q2 : (i : Int) + 1 ≤ cap := by omega
                have HU6 : Hid (Up w w6) := Up.trans HUr.out (Up.trans u5.out u6.out)
                have HX6 : Hid (w6.heap[w.heap.size]? = some (.cells #[.float .f64 x, .float .f64 y] 24)) := kept2 HXr.out (Up.trans u5.out u6.out)
                have HLV : Hid (LV w6 (some ⟨b, o + j * 2, none⟩) m1 (fun k => f (j + k))) := fun _ => ⟨_, _, rfl, fun k hk => by
                  have := HP.out.up HU6.out (j + k) (by omega)
                  rw [show o + j * 2 + k * 2 = o + (j + k) * 2 by omega]
                  exact this⟩
                go_wp2_with (at_builtin; refine wpList_copyA rfl _ _ rfl (some ⟨b, o + j * 2, none⟩) m1 _ (fun k => f (j + k)) rfl rfl HLV.out (by omega) ?_)
                intro p7 c7 w7 HA7
                have HM1 : Hid (i + 1 - j = m1) := hm1'
                obtain ⟨M, hM⟩ : ∃ M : Nat, n - (i - j) = M := ⟨_, rfl⟩
                have HM : Hid (n - (i - j) = M) := hM
                have hMb : M ≤ 65536 := by omega
                have HA : Hid (AB w6.heap.size w6 w7 (.slice p7 m1 c7) (.slice none 0 0) (rowL (fun k => f (j + k)) m1) (rowL (fun k => f ((i + k) % n)) 0)) := HA7
                clear HA7 hM hm1 hm1' q1 q2 HLV u5 u6 HXr HUr x0 x1 x2 x3 HT1 HT2 HC1 HC2 HC3
                go_wp2_with fail
                go_loopw [17, 18] (fun v vk wq => ∃ (m : Nat) (p8 : Option Addr) (c8 : Nat) (kk : Nat), m ≤ M ∧ vk = .int .i64 kk ∧ Hid ((i + m) % n = kk) ∧ v = .slice p8 m c8 ∧ Hid (AB w6.heap.size w6 wq (.slice p7 m1 c7) (.slice p8 m c8) (rowL (fun k => f (j + k)) m1) (rowL (fun k => f ((i + k) % n)) m))) (fun v _ _ => M - lenV v)
                case atStart => exact ⟨0, none, 0, i, by omega, rfl, by show _ = _; rw [Nat.add_zero, Nat.mod_eq_of_lt (by omega)], rfl, HA⟩
                case round =>
                  clear HA
                  obtain ⟨m, p8, c8, kk, hmM, rfl, HK, rfl, HA⟩ := hrel
                  have hkn : kk < n := by rw [← HK.out]; exact Nat.mod_lt _ (by omega)
                  have hkz : (kk : Int) < (n : Int) := by omega
                  by_cases hlt : m < M
                  · have hne : ((kk : Int) != (j : Int)) = true := by
                      have hMo := HM.out
                      have hKo := HK.out
                      have : kk ≠ j := by
                        intro e
                        rw [e] at hKo
                        rcases Nat.lt_or_ge (i + m) n with hh | hh
                        · rw [Nat.mod_eq_of_lt hh] at hKo; omega
                        · rw [Nat.mod_eq_sub_mod hh, Nat.mod_eq_of_lt (by omega)] at hKo; omega
                      simp; omega
                    obtain ⟨c0, c0'⟩ := HP.out.up (HU6.out.trans HA.out.up) kk hkn
                    obtain ⟨kn, hkn'⟩ : ∃ kn : Nat, (kk + 1) % n = kn := ⟨_, rfl⟩
                    have hrem : ((kk : Int) + 1).tmod (n : Int) = (kn : Int) := by
                      rw [Int.tmod_eq_emod_of_nonneg (by omega), ← hkn']; rfl
                    have HKN : Hid ((kk + 1) % n = kn) := hkn'
                    clear hkn'
                    go_wp2_with (at_builtin; refine wpList_pushB rfl _ _ rfl w6.heap.size p8 m c8 (f kk).1 (f kk).2 (.slice p7 m1 c7) _ _ rfl rfl (rowL_len _ _) HA.out (by omega) ?_)
                    intro p9 c9 w9 HA9
                    have HA10 : Hid (AB w6.heap.size w6 w9 (.slice p7 m1 c7) (.slice p9 (m + 1) c9) (rowL (fun k => f (j + k)) m1) (rowL (fun k => f ((i + k) % n)) (m + 1))) := by
                      have := HA9.out
                      rw [rowL_push (fun k => f ((i + k) % n)) m (show f ((i + m) % n) = ((f kk).1, (f kk).2) by rw [HK.out])] at this
                      exact this
                    clear HA HA9 c0 c0'
                    go_wp2
                    go_roundw
                    case rel => exact ⟨m + 1, p9, c9, kn, by omega, by go_num, by show _ = _; rw [← HKN.out, ← HK.out, Nat.mod_add_mod]; rfl, rfl, HA10⟩
                    case measure => simp [lenV]; omega
                  · obtain rfl : M = m := by omega
                    have hk : kk = j := by
                      rw [← HK.out, show i + M = j + n by have := HM.out; omega, Nat.add_mod_right, Nat.mod_eq_of_lt (by omega)]
                    obtain rfl : j = kk := hk.symm
                    have hne : ((j : Int) != (j : Int)) = false := by simp
                    obtain ⟨c0, c0'⟩ := HP.out.up (HU6.out.trans HA.out.up) j hkn
                    go_wp2_with (at_builtin; refine wpList_pushB rfl _ _ rfl w6.heap.size p8 M c8 (f j).1 (f j).2 (.slice p7 m1 c7) _ _ rfl rfl (rowL_len _ _) HA.out (by omega) ?_)
                    intro p9 c9 w9 HA9
                    have HA10 : Hid (AB w6.heap.size w6 w9 (.slice p7 m1 c7) (.slice p9 (M + 1) c9) (rowL (fun k => f (j + k)) m1) (rowL (fun k => f ((i + k) % n)) (M + 1))) := by
                      have := HA9.out
                      rw [rowL_push (fun k => f ((i + k) % n)) M (show f ((i + M) % n) = ((f j).1, (f j).2) by rw [HK.out])] at this
                      exact this
                    obtain ⟨b1, hb1⟩ : ∃ b1, winF (fun k => f (j + k)) m1 (x, y) = b1 := ⟨_, rfl⟩
                    obtain ⟨b2, hb2⟩ : ∃ b2, winF (fun k => f ((i + k) % n)) (M + 1) (x, y) = b2 := ⟨_, rfl⟩
                    have hI : (b1 ^^ b2) = I := by
                      rw [← WNI.out, win_cut f n j i (x, y) (by omega) (by omega) (by omega) (by omega) HE.out, ← hb1, ← hb2, HM.out, show i - j + 1 = m1 by have := HM1.out; omega]
                    have HT3 : Hid (∀ W, Up w9 W → Calls Try.prog 22 #[.slice p7 m1 c7, .agg #[.float .f64 x, .float .f64 y]] W (BU W b1)) := fun W hu => win_row HA10.out.a hu hb1
                    have HT4 : Hid (∀ W, Up w9 W → Calls Try.prog 22 #[.slice p9 (M + 1) c9, .agg #[.float .f64 x, .float .f64 y]] W (BU W b2)) := fun W hu => win_row HA10.out.b hu hb2
                    have HU9 : Hid (Up w w9) := HU6.out.trans HA10.out.up
                    obtain ⟨g0, g1, _, _⟩ := facts2 (kept2 HX6.out HA10.out.up)
                    subst hI
                    clear HA HA9 HA10 c0 c0' hb1 hb2 HM HM1 HK
                    go_upto_region 28 with (fail)
                    refine wp_region_up 9 [cV (.bool (b1 ^^ b2)), cV (.slice p7 m1 c7), cV (.agg #[.float .f64 x, .float .f64 y]), cV (.bool b1), cV (.slice p9 (M + 1) c9), cV (.agg #[.float .f64 x, .float .f64 y]), cV (.bool b2), cV (.bool (b1 != b2)), cV (.bool true)] (by kernel_rfl) (by decide) rfl (by kernel_rfl) (by kernel_rfl) ⟨mV _, mV _, mV _, mV _, mV _, mV _, mV _, mV _, mV _, trivial⟩ ?_
                    intro vals
                    simp only [List.take_succ_cons, List.take_zero, valsN, FillL, Act.put, List.setIfInBounds_toArray, List.set_cons_succ, List.set_cons_zero, Nat.zero_add, Nat.reduceAdd]
                    refine ⟨⟨fun v hu h => ?_, fun v hu h => ?_, fun v hu h => ?_, fun v hu h => ?_, fun v hu h => ?_, fun v hu h => ?_, fun v hu h => ?_, fun v hu h => ?_, fun v hu h => ?_, trivial⟩, fun v hu h => ?_⟩
                    all_goals (have y0 := cell_up g0 hu; have y1 := cell_up g1 hu)
                    · refine UpO.is _ rfl rfl ?_
                      go_simp
                    · refine UpO.is _ rfl rfl ?_
                      go_simp
                    · refine UpO.is _ rfl rfl ?_
                      go_simp
                    · have e1 : vals 1 = .slice p7 m1 c7 := h 1 (by decide) (by kernel_rfl)
                      have e2 : vals 2 = .agg #[.float .f64 x, .float .f64 y] := h 2 (by decide) (by kernel_rfl)
                      refine UpO.call #[.slice p7 m1 c7, .agg #[.float .f64 x, .float .f64 y]] rfl rfl (by rw [e1, e2]; kernel_rfl) (enters Try.func22 (by kernel_rfl) (by kernel_rfl) _ _) ?_
                      exact (HT3.out _ hu).mono bu_cV
                    · refine UpO.is _ rfl rfl ?_
                      go_simp
                    · refine UpO.is _ rfl rfl ?_
                      go_simp
                    · have e4 : vals 4 = .slice p9 (M + 1) c9 := h 4 (by decide) (by kernel_rfl)
                      have e5 : vals 5 = .agg #[.float .f64 x, .float .f64 y] := h 5 (by decide) (by kernel_rfl)
                      refine UpO.call #[.slice p9 (M + 1) c9, .agg #[.float .f64 x, .float .f64 y]] rfl rfl (by rw [e4, e5]; kernel_rfl) (enters Try.func22 (by kernel_rfl) (by kernel_rfl) _ _) ?_
                      exact (HT4.out _ hu).mono bu_cV
                    · have e3 : vals 3 = .bool b1 := h 3 (by decide) (by kernel_rfl)
                      have e6 : vals 6 = .bool b2 := h 6 (by decide) (by kernel_rfl)
                      refine UpO.is _ rfl rfl ?_
                      rw [e3, e6]
                      cases b1 <;> cases b2 <;> go_simp
                    · have e0 : vals 0 = .bool (b1 ^^ b2) := h 0 (by decide) (by kernel_rfl)
                      have e7 : vals 7 = .bool (b1 != b2) := h 7 (by decide) (by kernel_rfl)
                      refine UpO.is _ rfl rfl ?_
                      rw [e0, e7]
                      cases b1 <;> cases b2 <;> go_simp
                    · have e8 : vals 8 = .bool true := h 8 (by decide)
                      rw [e8]
                      simp only [List.drop_succ_cons, List.drop_zero]
                      replace hu : Hid (Up _ _) := hu
                      clear h e8 y0 y1
                      go_wp2
                      go_ret
                      exact ⟨rfl, Up.trans HU9.out hu.out⟩
        · have yij : ¬ (j : Int) < i := by omega
          by_cases hd : j < i + 2
          · have yd : (j : Int) - i < 2 := by omega
            go_wp2_with (first
                  | (go_at_call 22; (with_reducible refine (HT1.out _ (Up.refl _)).mono ?_); rintro e w5 ⟨rfl, u5⟩; obtain ⟨x2, x3, _, _⟩ := facts2 (kept2 HXr.out u5); replace u5 : Hid (Up wr w5) := u5)
                  | (go_at_call 22; (with_reducible refine (HT2.out _ u5.out).mono ?_); rintro e w6 ⟨rfl, u6⟩; replace u6 : Hid (Up w5 w6) := u6)
                  | (go_at_call 24; (with_reducible refine (HC2.out _).mono ?_); rintro e w' ⟨rfl, hw⟩; subst w')
                  | (go_at_call 24; (with_reducible refine (HC3.out _).mono ?_); rintro e w' ⟨rfl, hw⟩; subst w'))
            go_ret
            exact ⟨rfl, Up.trans HUr.out (Up.trans u5.out u6.out)⟩
          · have yd : ¬ (j : Int) - i < 2 := by omega
            by_cases he : i = 0 ∧ j = n - 1
            · have ye : ((i : Int) == 0) = true := by simp; omega
              have yf : ((j : Int) == (n : Int) - 1) = true := by simp; omega
              clear he
              go_wp2_with (first
                  | (go_at_call 22; (with_reducible refine (HT1.out _ (Up.refl _)).mono ?_); rintro e w5 ⟨rfl, u5⟩; obtain ⟨x2, x3, _, _⟩ := facts2 (kept2 HXr.out u5); replace u5 : Hid (Up wr w5) := u5)
                  | (go_at_call 22; (with_reducible refine (HT2.out _ u5.out).mono ?_); rintro e w6 ⟨rfl, u6⟩; replace u6 : Hid (Up w5 w6) := u6)
                  | (go_at_call 24; (with_reducible refine (HC2.out _).mono ?_); rintro e w' ⟨rfl, hw⟩; subst w')
                  | (go_at_call 24; (with_reducible refine (HC3.out _).mono ?_); rintro e w' ⟨rfl, hw⟩; subst w'))
              go_ret
              exact ⟨rfl, Up.trans HUr.out (Up.trans u5.out u6.out)⟩
            · have HE : Hid (¬(i = 0 ∧ j = n - 1)) := he
              obtain ⟨e1, he1⟩ : ∃ e1, ((i : Int) == 0) = e1 := ⟨_, rfl⟩
              have yf : e1 = true → ((j : Int) == (n : Int) - 1) = false := fun h => by rw [h] at he1; simp at he1 ⊢; omega
              clear he
              cases e1
              all_goals
                first | replace yf := yf rfl | clear yf
                go_upto_region 21 with (first
                  | (go_at_call 22; (with_reducible refine (HT1.out _ (Up.refl _)).mono ?_); rintro e w5 ⟨rfl, u5⟩; obtain ⟨x2, x3, _, _⟩ := facts2 (kept2 HXr.out u5); replace u5 : Hid (Up wr w5) := u5)
                  | (go_at_call 22; (with_reducible refine (HT2.out _ u5.out).mono ?_); rintro e w6 ⟨rfl, u6⟩; replace u6 : Hid (Up w5 w6) := u6)
                  | (go_at_call 24; (with_reducible refine (HC2.out _).mono ?_); rintro e w' ⟨rfl, hw⟩; subst w')
                  | (go_at_call 24; (with_reducible refine (HC3.out _).mono ?_); rintro e w' ⟨rfl, hw⟩; subst w'))
                obtain ⟨m1, hm1⟩ : ∃ m1 : Nat, (j : Int) + 1 - i = m1 := ⟨j + 1 - i, by omega⟩
                have hm1' : j + 1 - i = m1 := by omega
                have q1 : (i : Int) ≤ (j : Int) + 1 := by omega
                have q2 : (j : Int) + 1 ≤ cap := by omega
                have HU6 : Hid (Up w w6) := Up.trans HUr.out (Up.trans u5.out u6.out)
                have HX6 : Hid (w6.heap[w.heap.size]? = some (.cells #[.float .f64 x, .float .f64 y] 24)) := kept2 HXr.out (Up.trans u5.out u6.out)
                have HLV : Hid (LV w6 (some ⟨b, o + i * 2, none⟩) m1 (fun k => f (i + k))) := fun _ => ⟨_, _, rfl, fun k hk => by
                  have := HP.out.up HU6.out (i + k) (by omega)
                  rw [show o + i * 2 + k * 2 = o + (i + k) * 2 by omega]
                  exact this⟩
                go_wp2_with (at_builtin; refine wpList_copyA rfl _ _ rfl (some ⟨b, o + i * 2, none⟩) m1 _ (fun k => f (i + k)) rfl rfl HLV.out (by omega) ?_)
                intro p7 c7 w7 HA7
                have HM1 : Hid (j + 1 - i = m1) := hm1'
                obtain ⟨M, hM⟩ : ∃ M : Nat, n - (j - i) = M := ⟨_, rfl⟩
                have HM : Hid (n - (j - i) = M) := hM
                have hMb : M ≤ 65536 := by omega
                have HA : Hid (AB w6.heap.size w6 w7 (.slice p7 m1 c7) (.slice none 0 0) (rowL (fun k => f (i + k)) m1) (rowL (fun k => f ((j + k) % n)) 0)) := HA7
                clear HA7 hM hm1 hm1' q1 q2 HLV u5 u6 HXr HUr x0 x1 x2 x3 HT1 HT2 HC1 HC2 HC3
                go_wp2_with fail
                go_loopw [17, 18] (fun v vk wq => ∃ (m : Nat) (p8 : Option Addr) (c8 : Nat) (kk : Nat), m ≤ M ∧ vk = .int .i64 kk ∧ Hid ((j + m) % n = kk) ∧ v = .slice p8 m c8 ∧ Hid (AB w6.heap.size w6 wq (.slice p7 m1 c7) (.slice p8 m c8) (rowL (fun k => f (i + k)) m1) (rowL (fun k => f ((j + k) % n)) m))) (fun v _ _ => M - lenV v)
                case atStart => exact ⟨0, none, 0, j, by omega, rfl, by show _ = _; rw [Nat.add_zero, Nat.mod_eq_of_lt (by omega)], rfl, HA⟩
                case round =>
                  clear HA
                  obtain ⟨m, p8, c8, kk, hmM, rfl, HK, rfl, HA⟩ := hrel
                  have hkn : kk < n := by rw [← HK.out]; exact Nat.mod_lt _ (by omega)
                  have hkz : (kk : Int) < (n : Int) := by omega
                  by_cases hlt : m < M
                  · have hne : ((kk : Int) != (i : Int)) = true := by
                      have hMo := HM.out
                      have hKo := HK.out
                      have : kk ≠ i := by
                        intro e
                        rw [e] at hKo
                        rcases Nat.lt_or_ge (j + m) n with hh | hh
                        · rw [Nat.mod_eq_of_lt hh] at hKo; omega
                        · rw [Nat.mod_eq_sub_mod hh, Nat.mod_eq_of_lt (by omega)] at hKo; omega
                      simp; omega
                    obtain ⟨c0, c0'⟩ := HP.out.up (HU6.out.trans HA.out.up) kk hkn
                    obtain ⟨kn, hkn'⟩ : ∃ kn : Nat, (kk + 1) % n = kn := ⟨_, rfl⟩
                    have hrem : ((kk : Int) + 1).tmod (n : Int) = (kn : Int) := by
                      rw [Int.tmod_eq_emod_of_nonneg (by omega), ← hkn']; rfl
                    have HKN : Hid ((kk + 1) % n = kn) := hkn'
                    clear hkn'
                    go_wp2_with (at_builtin; refine wpList_pushB rfl _ _ rfl w6.heap.size p8 m c8 (f kk).1 (f kk).2 (.slice p7 m1 c7) _ _ rfl rfl (rowL_len _ _) HA.out (by omega) ?_)
                    intro p9 c9 w9 HA9
                    have HA10 : Hid (AB w6.heap.size w6 w9 (.slice p7 m1 c7) (.slice p9 (m + 1) c9) (rowL (fun k => f (i + k)) m1) (rowL (fun k => f ((j + k) % n)) (m + 1))) := by
                      have := HA9.out
                      rw [rowL_push (fun k => f ((j + k) % n)) m (show f ((j + m) % n) = ((f kk).1, (f kk).2) by rw [HK.out])] at this
                      exact this
                    clear HA HA9 c0 c0'
                    go_wp2
                    go_roundw
                    case rel => exact ⟨m + 1, p9, c9, kn, by omega, by go_num, by show _ = _; rw [← HKN.out, ← HK.out, Nat.mod_add_mod]; rfl, rfl, HA10⟩
                    case measure => simp [lenV]; omega
                  · obtain rfl : M = m := by omega
                    have hk : kk = i := by
                      rw [← HK.out, show j + M = i + n by have := HM.out; omega, Nat.add_mod_right, Nat.mod_eq_of_lt (by omega)]
                    obtain rfl : i = kk := hk.symm
                    have hne : ((i : Int) != (i : Int)) = false := by simp
                    obtain ⟨c0, c0'⟩ := HP.out.up (HU6.out.trans HA.out.up) i hkn
                    go_wp2_with (at_builtin; refine wpList_pushB rfl _ _ rfl w6.heap.size p8 M c8 (f i).1 (f i).2 (.slice p7 m1 c7) _ _ rfl rfl (rowL_len _ _) HA.out (by omega) ?_)
                    intro p9 c9 w9 HA9
                    have HA10 : Hid (AB w6.heap.size w6 w9 (.slice p7 m1 c7) (.slice p9 (M + 1) c9) (rowL (fun k => f (i + k)) m1) (rowL (fun k => f ((j + k) % n)) (M + 1))) := by
                      have := HA9.out
                      rw [rowL_push (fun k => f ((j + k) % n)) M (show f ((j + M) % n) = ((f i).1, (f i).2) by rw [HK.out])] at this
                      exact this
                    obtain ⟨b1, hb1⟩ : ∃ b1, winF (fun k => f (i + k)) m1 (x, y) = b1 := ⟨_, rfl⟩
                    obtain ⟨b2, hb2⟩ : ∃ b2, winF (fun k => f ((j + k) % n)) (M + 1) (x, y) = b2 := ⟨_, rfl⟩
                    have hI : (b1 ^^ b2) = I := by
                      rw [← WNI.out, win_cut f n i j (x, y) (by omega) (by omega) (by omega) (by omega) HE.out, ← hb1, ← hb2, HM.out, show j - i + 1 = m1 by have := HM1.out; omega]
                    have HT3 : Hid (∀ W, Up w9 W → Calls Try.prog 22 #[.slice p7 m1 c7, .agg #[.float .f64 x, .float .f64 y]] W (BU W b1)) := fun W hu => win_row HA10.out.a hu hb1
                    have HT4 : Hid (∀ W, Up w9 W → Calls Try.prog 22 #[.slice p9 (M + 1) c9, .agg #[.float .f64 x, .float .f64 y]] W (BU W b2)) := fun W hu => win_row HA10.out.b hu hb2
                    have HU9 : Hid (Up w w9) := HU6.out.trans HA10.out.up
                    obtain ⟨g0, g1, _, _⟩ := facts2 (kept2 HX6.out HA10.out.up)
                    subst hI
                    clear HA HA9 HA10 c0 c0' hb1 hb2 HM HM1 HK
                    go_upto_region 28 with (fail)
                    refine wp_region_up 9 [cV (.bool (b1 ^^ b2)), cV (.slice p7 m1 c7), cV (.agg #[.float .f64 x, .float .f64 y]), cV (.bool b1), cV (.slice p9 (M + 1) c9), cV (.agg #[.float .f64 x, .float .f64 y]), cV (.bool b2), cV (.bool (b1 != b2)), cV (.bool true)] (by kernel_rfl) (by decide) rfl (by kernel_rfl) (by kernel_rfl) ⟨mV _, mV _, mV _, mV _, mV _, mV _, mV _, mV _, mV _, trivial⟩ ?_
                    intro vals
                    simp only [List.take_succ_cons, List.take_zero, valsN, FillL, Act.put, List.setIfInBounds_toArray, List.set_cons_succ, List.set_cons_zero, Nat.zero_add, Nat.reduceAdd]
                    refine ⟨⟨fun v hu h => ?_, fun v hu h => ?_, fun v hu h => ?_, fun v hu h => ?_, fun v hu h => ?_, fun v hu h => ?_, fun v hu h => ?_, fun v hu h => ?_, fun v hu h => ?_, trivial⟩, fun v hu h => ?_⟩
                    all_goals (have y0 := cell_up g0 hu; have y1 := cell_up g1 hu)
                    · refine UpO.is _ rfl rfl ?_
                      go_simp
                    · refine UpO.is _ rfl rfl ?_
                      go_simp
                    · refine UpO.is _ rfl rfl ?_
                      go_simp
                    · have e1 : vals 1 = .slice p7 m1 c7 := h 1 (by decide) (by kernel_rfl)
                      have e2 : vals 2 = .agg #[.float .f64 x, .float .f64 y] := h 2 (by decide) (by kernel_rfl)
                      refine UpO.call #[.slice p7 m1 c7, .agg #[.float .f64 x, .float .f64 y]] rfl rfl (by rw [e1, e2]; kernel_rfl) (enters Try.func22 (by kernel_rfl) (by kernel_rfl) _ _) ?_
                      exact (HT3.out _ hu).mono bu_cV
                    · refine UpO.is _ rfl rfl ?_
                      go_simp
                    · refine UpO.is _ rfl rfl ?_
                      go_simp
                    · have e4 : vals 4 = .slice p9 (M + 1) c9 := h 4 (by decide) (by kernel_rfl)
                      have e5 : vals 5 = .agg #[.float .f64 x, .float .f64 y] := h 5 (by decide) (by kernel_rfl)
                      refine UpO.call #[.slice p9 (M + 1) c9, .agg #[.float .f64 x, .float .f64 y]] rfl rfl (by rw [e4, e5]; kernel_rfl) (enters Try.func22 (by kernel_rfl) (by kernel_rfl) _ _) ?_
                      exact (HT4.out _ hu).mono bu_cV
                    · have e3 : vals 3 = .bool b1 := h 3 (by decide) (by kernel_rfl)
                      have e6 : vals 6 = .bool b2 := h 6 (by decide) (by kernel_rfl)
                      refine UpO.is _ rfl rfl ?_
                      rw [e3, e6]
                      cases b1 <;> cases b2 <;> go_simp
                    · have e0 : vals 0 = .bool (b1 ^^ b2) := h 0 (by decide) (by kernel_rfl)
                      have e7 : vals 7 = .bool (b1 != b2) := h 7 (by decide) (by kernel_rfl)
                      refine UpO.is _ rfl rfl ?_
                      rw [e0, e7]
                      cases b1 <;> cases b2 <;> go_simp
                    · have e8 : vals 8 = .bool true := h 8 (by decide)
                      rw [e8]
                      simp only [List.drop_succ_cons, List.drop_zero]
                      replace hu : Hid (Up _ _) := hu
                      clear h e8 y0 y1
                      go_wp2
                      go_ret
                      exact ⟨rfl, Up.trans HU9.out hu.out⟩
end Go.Proofs.Ytlgejebgkkmacaa
