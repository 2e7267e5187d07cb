/- The reference's Join. -/
import Derived.Test.YtpahjenfkgcdlaaL
namespace Go.Proofs.Ytpahjenfkgcdlaa
open Go.ChangeShapes Go.WideShapes Go.ChangeAt Go.RowKit

theorem t14b (p q : Option Addr) (n1 n2 c1 c2 : Nat) (r m : Nat → Int) (w : World) (h8 : 8 < min n1 n2) : Calls Try.prog 14 #[.slice p n1 c1, .slice q n2 c2] w fun e w' => e = .returned (.tuple #[.int .i64 (joinT r m n1 n2).1, .int .i64 (joinT r m n1 n2).2.1, .int .i64 (joinT r m n1 n2).2.2]) ∧ Hid (Up w w') := by
  rw [joinT, if_neg (by omega)]
  have h8i : (8 : Int) < ((min n1 n2 : Nat) : Int) := by omega
  have H28 : Hid (∀ w, _) := fun w => t28 p q n1 n2 c1 c2 w
  generalize min n1 n2 = k at *
  go_enter Try.func14, Try.ntmps14
  go_wp2_with (go_at_call 28; (with_reducible refine (H28.out _).mono ?_); rintro e w ⟨rfl, rfl⟩)
  go_ret3
  exact ⟨rfl, Up.refl _⟩
theorem t30q {a m v : Int} {w : World} (hm : 1 ≤ m ∧ m ≤ 4611686018427387904) (h : a % m = v) (n : Nat) : Calls Try.prog 30 #[.int .i64 a, .int .i64 m] (w.drewN n) fun e w' => e = .returned (.int .i64 v) ∧ ∃ k, w' = (w.drewN n).drewN k :=
  (t30 a m hm _).mono fun e w' h' => ⟨by rw [h'.1, h], 0, h'.2⟩
theorem t31q {a b m v : Int} {w : World} (hm : 1 ≤ m) (hm2 : m ≤ 4611686018427387904) (h : a * b % m = v) (n : Nat) : Calls Try.prog 31 #[.int .i64 a, .int .i64 b, .int .i64 m] (w.drewN n) fun e w' => e = .returned (.int .i64 v) ∧ ∃ k, w' = (w.drewN n).drewN k :=
  (t31 a b m hm hm2 _).mono fun e w' h' => ⟨by rw [h'.1, h], 0, h'.2⟩
set_option maxHeartbeats 4000000 in
set_option maxRecDepth 20000 in
theorem t14a (p q : Option Addr) (n1 n2 c1 c2 : Nat) (r m : Nat → Int) (w : World) (h8 : min n1 n2 ≤ 8) (hr : IR w p n1 r) (hm : IR w q n2 m) : Calls Try.prog 14 #[.slice p n1 c1, .slice q n2 c2] w fun e w' => e = .returned (.tuple #[.int .i64 (joinT r m n1 n2).1, .int .i64 (joinT r m n1 n2).2.1, .int .i64 (joinT r m n1 n2).2.2]) ∧ Hid (Up w w') := by
  rw [joinT, if_pos h8]
  have H28 : Hid (∀ w, _) := fun w => t28 p q n1 n2 c1 c2 w
  obtain ⟨k, hk⟩ : ∃ k, min n1 n2 = k := ⟨_, rfl⟩
  have hk1 : k ≤ n1 := by omega
  have hk2 : k ≤ n2 := by omega
  rw [hk] at H28 ⊢
  have HR : Hid (IR w p n1 r) := hr
  have HM : Hid (IR w q n2 m) := hm
  obtain ⟨S, hS⟩ : ∃ S, joinF r m k = S := ⟨_, rfl⟩
  rw [hS]
  have HS : Hid (joinF r m k = S) := hS
  have HK : (k : Int) ≤ 8 := by omega
  clear hS hr hm hk h8
  go_enter Try.func14, Try.ntmps14
  go_wp2_with (go_at_call 28; (with_reducible refine (H28.out _).mono ?_); rintro e w ⟨rfl, rfl⟩)
  go_loopw [8, 4, 5] (fun vi vx va wr => ∃ (i : Nat) (x a : Int), i ≤ k ∧ vi = .int .i64 i ∧ vx = .int .i64 x ∧ va = .int .i64 a ∧ 1 ≤ a ∧ a ≤ 4611686018427387904 ∧ 0 ≤ x ∧ x < a ∧ Hid (joinF r m i = (x, a, 0)) ∧ Hid (Up w wr)) (fun vi _ _ _ => k - (intOf vi).toNat)
  case atStart => exact ⟨0, 0, 1, by omega, rfl, rfl, rfl, by omega, by omega, by omega, by omega, rfl, Up.refl _⟩
  case round =>
    obtain ⟨i, x, a, hi, rfl, rfl, rfl, f1, f2, f3, f4, HI, HU⟩ := hrel
    by_cases hlt : i < k
    · obtain ⟨b1, o1, rfl, cr0⟩ := HR.out i (by omega)
      obtain ⟨b2, o2, rfl, cm0⟩ := HM.out i (by omega)
      have cr := cell_up cr0 HU.out
      have cm := cell_up cm0 HU.out
      clear cr0 cm0
      have HLT : Hid (i < k) := hlt
      have hiz : (i : Int) < (k : Int) := by omega
      have hiz1 : (i : Int) < (n1 : Int) := by omega
      have hiz2 : (i : Int) < (n2 : Int) := by omega
      have hiz0 : (0 : Int) ≤ (i : Int) := by omega
      obtain ⟨ri, hri⟩ : ∃ t, r i = t := ⟨_, rfl⟩
      obtain ⟨mi, hmi⟩ : ∃ t, m i = t := ⟨_, rfl⟩
      rw [hri] at cr
      rw [hmi] at cm
      by_cases hg : 1 ≤ mi ∧ mi ≤ 1099511627776
      · obtain ⟨hg1, hg2⟩ := hg
        have HN : Hid (joinF r m (i + 1) = stepF x a ri mi) := by
          show _ = _
          rw [joinF_next r m i (by rw [HI.out]) (by rw [hmi]; omega), HI.out, hri, hmi]
        have H29 : Hid (∀ w, _) := fun w => t29 a mi (by omega) (by omega) (by omega) (by omega) w
        have HE : Hid (Re x a ri mi (eucl a 1 0 mi 0 1).1 (eucl a 1 0 mi 0 1).2.1 (mi / (eucl a 1 0 mi 0 1).1)) := Re.of f1 ⟨f3, f4⟩ hg1
        have HSF : Hid (stepF x a ri mi = if (ri - x) % (eucl a 1 0 mi 0 1).1 ≠ 0 then (0, 0, 100) else if 4611686018427387904 < a * (mi / (eucl a 1 0 mi 0 1).1) then (0, 0, 3) else ((stepF x a ri mi).1, a * (mi / (eucl a 1 0 mi 0 1).1), 0)) := by
          show _ = _
          unfold stepF
          split
          · rfl
          · split
            · rfl
            · rfl
        generalize eucl a 1 0 mi 0 1 = E at *
        obtain ⟨g, pp, yy⟩ := E
        simp only at H29 HE HSF
        obtain ⟨own, hown⟩ : ∃ own, mi / g = own := ⟨_, rfl⟩
        rw [hown] at HE HSF
        obtain ⟨e1, e2, e3, e4, e5, e6, e7⟩ := HE.out
        have hwant0 := Int.emod_nonneg ri (show mi ≠ 0 by omega)
        have hwant1 := Int.emod_lt_of_pos ri (show 0 < mi by omega)
        have hxm0 := Int.emod_nonneg x (show mi ≠ 0 by omega)
        have hxm1 := Int.emod_lt_of_pos x (show 0 < mi by omega)
        obtain ⟨want, hwant⟩ : ∃ t, ri % mi = t := ⟨_, rfl⟩
        obtain ⟨xm, hxm⟩ : ∃ t, x % mi = t := ⟨_, rfl⟩
        rw [hwant] at hwant0 hwant1 e5 e7
        rw [hxm] at hxm0 hxm1 e5 e7
        have hmi0 : ¬ mi = 0 := by omega
        have hg0 : ¬ g = 0 := by omega
        have hown0 : ¬ own = 0 := by omega
        by_cases hz : (ri - x) % g = 0
        · have e5' : (want - xm) % g = 0 := by rw [e5]; exact hz
          by_cases hl : 4611686018427387904 < a * own
          · have hcmp : 4611686018427387904 / own < a := e6.2 hl
            have HX : Hid (joinF r m (i + 1) = (0, 0, 3)) := by
              show _ = _
              rw [HN.out, HSF.out, if_neg (by omega), if_pos hl]
            clear e7 e6 HE HSF HN hl hz e5
            go_wp2_with (first
              | (go_at_call 29; (with_reducible refine (H29.out _).mono ?_); rintro e wr ⟨rfl, rfl⟩)
              | (go_at_call 30; (with_reducible refine (t30 ri mi (by omega) _).mono ?_); rintro e w1 ⟨rfl, rfl⟩; rw [hwant])
              | (go_at_call 30; (with_reducible refine (t30 x mi (by omega) _).mono ?_); rintro e w1 ⟨rfl, rfl⟩; rw [hxm])
              | (go_at_call 30; (with_reducible refine (t30 (want - xm) g (by omega) _).mono ?_); rintro e w1 ⟨rfl, rfl⟩; rw [e5']))
            go_quiet (first | (go_at_call 30; (with_reducible refine Calls.quiet_of (t30q (a := ri) (m := mi) (v := want) (by omega) hwant _))))
            all_goals (try go_wp2_with (first
              | (go_at_call 30; (with_reducible refine (t30 x mi (by omega) _).mono ?_); rintro e w1 ⟨rfl, rfl⟩; rw [hxm])
              | (go_at_call 30; (with_reducible refine (t30 (want - xm) g (by omega) _).mono ?_); rintro e w1 ⟨rfl, rfl⟩; rw [e5'])))
            go_ret3
            exact ⟨by rw [← HS.out, joinF_end r m (i := i + 1) HLT.out (by rw [HX.out]; decide), HX.out]; rfl, HU.out.trans (Up.drewN _ _)⟩
          · have hcmp : a ≤ 4611686018427387904 / own := by
              rcases Int.lt_or_le (4611686018427387904 / own) a with h | h
              · exact absurd (e6.1 h) hl
              · exact h
            obtain ⟨c, t, n1', n2', n3', n4', n5', n6', n7', n8', n9', n10', n11'⟩ := e7 hz (by omega)
            have HX : Hid (joinF r m (i + 1) = (x + a * t, a * own, 0)) := by
              show _ = _
              rw [HN.out, HSF.out, if_neg (by omega), if_neg hl, ← n9']
            have hP2 : a * own ≤ 4611686018427387904 := by omega
            have hP1 : 1 ≤ a * own := mul_pos1 f1 e3
            obtain ⟨P, hP⟩ : ∃ P, a * own = P := ⟨_, rfl⟩
            rw [hP] at HX hP1 hP2 n5' n7' n8' n11'
            have po0 := Int.emod_nonneg pp (show own ≠ 0 by omega)
            have po1 := Int.emod_lt_of_pos pp (show 0 < own by omega)
            obtain ⟨po, hpo⟩ : ∃ t, pp % own = t := ⟨_, rfl⟩
            rw [hpo] at n2' po0 po1
            have H31 : Hid (∀ w, Calls Try.prog 31 #[.int .i64 a, .int .i64 t, .int .i64 P] w fun e w' => e = .returned (.int .i64 (a * t)) ∧ w' = w) := fun w => by
              have := t31 a t P hP1 hP2 w
              rw [n5'] at this
              exact this
            have H32 : Hid (∀ w, Calls Try.prog 32 #[.int .i64 x, .int .i64 (a * t), .int .i64 P] w fun e w' => e = .returned (.int .i64 (x + a * t)) ∧ w' = w) := fun w => by
              have := t32 x (a * t) P ⟨f3, by omega⟩ ⟨n6', n7'⟩ hP2 w
              rw [n8'] at this
              exact this
            obtain ⟨at', hat⟩ : ∃ z, a * t = z := ⟨_, rfl⟩
            rw [hat] at HX H31 H32 n6' n7' n10' n11'
            have hwr : IntKind.i64.wrap (want - xm) = want - xm := IntWalk.i64_in _ (by omega)
            have hqc : IntKind.i64.wrap ((want - xm).tdiv g) = c := by
              rw [IntWalk.i64_quo' _ _ (by omega)]; exact n1'
            clear e7 e6 HE HSF HN hl hz e5 n5' n8' n9' n1'
            go_wp2_with (first
              | (go_at_call 29; (with_reducible refine (H29.out _).mono ?_); rintro e wr ⟨rfl, rfl⟩))
            go_quiet (first | (go_at_call 30; (with_reducible refine Calls.quiet_of (t30q (a := ri) (m := mi) (v := want) (by omega) hwant _))))
            all_goals (try go_wp2_with (first
              | (go_at_call 30; (with_reducible refine (t30 x mi (by omega) _).mono ?_); rintro e w1 ⟨rfl, rfl⟩; rw [hxm])
              | (go_at_call 30; (with_reducible refine (t30 (want - xm) g (by omega) _).mono ?_); rintro e w1 ⟨rfl, rfl⟩; rw [e5'])))
            rw [hown]
            have cm2 := cell_up cm (Up.drewN wr nq)
            have HUq : Hid (Up w (wr.drewN nq)) := HU.out.trans (Up.drewN _ _)
            generalize wr.drewN nq = wq at *
            clear cr cm
            go_quiet (first
              | (go_at_call 30; (with_reducible refine Calls.quiet_of (t30q (a := x) (m := mi) (v := xm) (by omega) hxm _)))
              | (go_at_call 30; (with_reducible refine Calls.quiet_of (t30q (a := pp) (m := own) (v := po) (by omega) hpo _)))
              | (go_at_call 31; (with_reducible refine Calls.quiet_of (t31q (a := c) (b := po) (m := own) (v := t) e3 (by omega) n2' _))))
            all_goals (try go_wp2_with (first
              | (go_at_call 31; (with_reducible refine (H31.out _).mono ?_); rintro e w1 ⟨rfl, rfl⟩)
              | (go_at_call 32; (with_reducible refine (H32.out _).mono ?_); rintro e w1 ⟨rfl, rfl⟩)))
            go_roundw
            case rel => exact ⟨i + 1, x + at', P, HLT.out, by go_num, rfl, rfl, hP1, hP2, n10', n11', HX, HUq.out.trans (Up.drewN _ _)⟩
            case measure => have := HLT.out; simp [intOf]; omega
        · have HX : Hid (joinF r m (i + 1) = (0, 0, 100)) := by
            show _ = _
            rw [HN.out, HSF.out, if_pos (by omega)]
          obtain ⟨z, hz'⟩ : ∃ z, (want - xm) % g = z := ⟨_, rfl⟩
          have hzb : (z != 0) = true := by
            simp; rw [← hz', e5]; exact hz
          clear e7 e6 HE HSF HN hz e5
          go_wp2_with (first
            | (go_at_call 29; (with_reducible refine (H29.out _).mono ?_); rintro e wr ⟨rfl, rfl⟩))
          go_quiet (first | (go_at_call 30; (with_reducible refine Calls.quiet_of (t30q (a := ri) (m := mi) (v := want) (by omega) hwant _))))
          all_goals (try go_wp2_with (first
            | (go_at_call 30; (with_reducible refine (t30 x mi (by omega) _).mono ?_); rintro e w1 ⟨rfl, rfl⟩; rw [hxm])
            | (go_at_call 30; (with_reducible refine (t30 (want - xm) g (by omega) _).mono ?_); rintro e w1 ⟨rfl, rfl⟩; rw [hz'])))
          go_ret3
          exact ⟨by rw [← HS.out, joinF_end r m (i := i + 1) HLT.out (by rw [HX.out]; decide), HX.out]; rfl, HU.out.trans (Up.drewN _ _)⟩
      · have hg' : mi < 1 ∨ 1099511627776 < mi := by omega
        have HX : Hid (joinF r m (i + 1) = (0, 0, 2)) := joinF_bad r m i (by rw [HI.out]) (by rw [hmi]; exact hg)
        clear hg
        rcases hg' with hg' | hg'
        · go_wp2
          go_ret3
          exact ⟨by rw [← HS.out, joinF_end r m (i := i + 1) HLT.out (by rw [HX.out]; decide), HX.out]; rfl, HU.out⟩
        · go_wp2
          go_ret3
          exact ⟨by rw [← HS.out, joinF_end r m (i := i + 1) HLT.out (by rw [HX.out]; decide), HX.out]; rfl, HU.out⟩
    · obtain rfl : i = k := by omega
      have HS2 : Hid (S = (x, a, 0)) := by show _ = _; rw [← HS.out, HI.out]
      go_wp2
      go_ret3
      exact ⟨by rw [HS2.out]; rfl, HU⟩
theorem t14 (p q : Option Addr) (n1 n2 c1 c2 : Nat) (r m : Nat → Int) (w : World) (hr : IR w p n1 r) (hm : IR w q n2 m) : Calls Try.prog 14 #[.slice p n1 c1, .slice q n2 c2] w fun e w' => e = .returned (.tuple #[.int .i64 (joinT r m n1 n2).1, .int .i64 (joinT r m n1 n2).2.1, .int .i64 (joinT r m n1 n2).2.2]) ∧ Hid (Up w w') := by
  by_cases h : min n1 n2 ≤ 8
  · exact t14a p q n1 n2 c1 c2 r m w h hr hm
  · exact t14b p q n1 n2 c1 c2 r m w (by omega)
end Go.Proofs.Ytpahjenfkgcdlaa
