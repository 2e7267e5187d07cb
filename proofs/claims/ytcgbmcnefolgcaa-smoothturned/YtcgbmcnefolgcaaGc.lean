/- SmoothTurned: the walk. -/
import Derived.Test.YtcgbmcnefolgcaaGb
import Derived.Test.YtcgbmcnefolgcaaEb
namespace Go.Proofs.Ytcgbmcnefolgcaa
open Go.ChangeShapes Go.WideShapes Go.ChangeAt Go.RowKit Go.Fl Go.Sort
attribute [local go_sem] run_store_float call22 call54 run_neg fold_eq fold_ne fold_lt fold_gt abs_eq

theorem ng_of {d : Array Nat} {L : List Nat} (hl : L.length = d.size) (h : ∀ j, j < d.size → L.getD j 0 = Go.Fl.neg d[j]!) : NgL d L.toArray := by
  refine ⟨by simpa using hl, fun i hi => ?_⟩
  rw [← h i hi]
  have : i < L.length := by omega
  simp [this]
theorem ng_fit {d : Array Nat} {L : List Nat} (hF : Fit d) (hl : L.length = d.size) (h : ∀ j, j < d.size → L.getD j 0 = Go.Fl.neg d[j]!) : Fit L.toArray := by
  intro i hi
  have hi' : i < L.length := by simpa using hi
  have e := h i (by omega)
  have : L.toArray[i]! = L.getD i 0 := by simp [hi']
  rw [this, e]
  exact neg_lt (hF i (by omega))
theorem or_sv {b : Nat} {w : World} {p : Option Addr} {n cap : Nat} {L : List Nat} (h : OR fe 24 b w (.slice p n cap) L) (hF : Fit L.toArray) : SV w p n cap L.toArray := by
  have hl := h.len
  refine sv_own (b := b) ?_ (by simpa using hl) hF
  have := h
  unfold OR at this
  rw [hl] at this
  simpa using this
theorem neq27 (x v a b c x' v' a' b' c' : Nat) (w : World) : (binOp .neq 27 (.agg #[.float .f64 x, .float .f64 v, .float .f64 a, .float .f64 b, .float .f64 c]) (.agg #[.float .f64 x', .float .f64 v', .float .f64 a', .float .f64 b', .float .f64 c'])).run Try.prog w = .ok (.bool (!eqS ⟨ab x, ab v, ab a, ab b, ab c⟩ ⟨ab x', ab v', ab a', ab b', ab c'⟩)) w := by
  rw [run_neq_struct, eq_fields27]; rfl
set_option maxHeartbeats 8000000 in
set_option maxRecDepth 20000 in
theorem t6 {w : World} {p p2 p3 p4 : Option Addr} {n cap m cap2 k cap3 l cap4 : Nat} {d d2 : Array Nat} {S : Nat → Stt} {d4 : Array Nat} (a b q : Nat) (h : SV w p n cap d) (h2 : SV w p2 m cap2 d2) (h3 : k ≤ 2000000 → SS w p3 k cap3 S) (h4 : SV w p4 l cap4 d4) : Calls Try.prog 6 #[.slice p n cap, .slice p2 m cap2, .float .f64 a, .float .f64 b, .slice p3 k cap3, .slice p4 l cap4, .float .f64 q] w (TU w) := by
  by_cases kn : 1048576 < n
  · have zn : (1048576 : Int) < (n : Int) := by omega
    clear h h2 h3 h4
    go_enter Try.func6, Try.ntmps6
    go_upto_region 2 with (go_at_call 9; (with_reducible refine (t9 _).mono ?_); rintro e w1 ⟨rfl, U1⟩)
    go_wp2_with (go_at_call 9; (with_reducible refine (t9 _).mono ?_); rintro e w2 ⟨rfl, U2⟩)
    go_ret
    exact ⟨rfl, U1.out.trans U2.out⟩
  have zn : ¬ (1048576 : Int) < (n : Int) := by omega
  by_cases km : 1048576 < m
  · have zm : (1048576 : Int) < (m : Int) := by omega
    clear h h2 h3 h4
    go_enter Try.func6, Try.ntmps6
    go_upto_region 2 with (go_at_call 9; (with_reducible refine (t9 _).mono ?_); rintro e w1 ⟨rfl, U1⟩)
    go_wp2_with (go_at_call 9; (with_reducible refine (t9 _).mono ?_); rintro e w2 ⟨rfl, U2⟩)
    go_ret
    exact ⟨rfl, U1.out.trans U2.out⟩
  have zm : ¬ (1048576 : Int) < (m : Int) := by omega
  by_cases kk : 1048576 < k
  · have zk : (1048576 : Int) < (k : Int) := by omega
    clear h h2 h3 h4
    go_enter Try.func6, Try.ntmps6
    go_upto_region 2 with (go_at_call 9; (with_reducible refine (t9 _).mono ?_); rintro e w1 ⟨rfl, U1⟩)
    go_wp2_with (go_at_call 9; (with_reducible refine (t9 _).mono ?_); rintro e w2 ⟨rfl, U2⟩)
    go_ret
    exact ⟨rfl, U1.out.trans U2.out⟩
  have zk : ¬ (1048576 : Int) < (k : Int) := by omega
  have HS : Hid (SV w p n cap d ∧ SV w p2 m cap2 d2 ∧ SS w p3 k cap3 S ∧ SV w p4 l cap4 d4) := ⟨h, h2, h3 (by omega), h4⟩
  have HD : Hid (d.size = n ∧ d2.size = m) := ⟨h.len, h2.len⟩
  have HN : Hid (n ≤ 1048576 ∧ m ≤ 1048576 ∧ k ≤ 1048576) := ⟨by omega, by omega, by omega⟩
  have y0 : (m : Int) ≤ 1048576 := by omega
  clear h h2 h3 h4
  go_enter Try.func6, Try.ntmps6
  go_wp2_with (go_at_call 9; (with_reducible refine (t9 _).mono ?_); rintro e w1 ⟨rfl, U1⟩)
  go_loopw [15, 17, 48] (fun vy _ vi wr => ∃ (i c : Nat) (pr : Option Addr) (L : List Nat), i ≤ m ∧ vy = .slice pr i c ∧ vi = .int .i64 i ∧ Hid (OR fe 24 w1.heap.size wr (.slice pr i c) L) ∧ Hid (∀ j, j < i → L.getD j 0 = Go.Fl.neg d2[j]!) ∧ Hid (Up w1 wr)) (fun _ _ vi _ => m - (intOf vi).toNat)
  case atStart => exact ⟨0, 0, none, [], by omega, rfl, rfl, OR.nil _ _ _ _, fun j hj => by omega, Up.refl _⟩
  case round =>
    obtain ⟨i, c, pr, L, hi, rfl, rfl, HO, HV, HU⟩ := hrel
    rename World => wr
    by_cases hlt : i < m
    · obtain ⟨bb, oo, hp, hr⟩ := HS.out.2.1.rd (by omega)
      subst hp
      have c0 := cell_up (hr i (by have := HD.out.2; omega)) (U1.out.trans HU.out)
      obtain ⟨x, hx⟩ : ∃ x, d2[i]! = x := ⟨_, rfl⟩
      rw [hx] at c0
      have HX : Hid (d2[i]! = x) := hx
      have y1 : (i : Int) < (m : Int) := by omega
      have hlen := HO.out.len
      have HLL : Hid (L.length ≤ 2000000 ∧ L.length = i) := ⟨by omega, hlen⟩
      clear hr hx hlen
      go_wp2_with (at_builtin; refine wpList_pushF (b := w1.heap.size) rfl _ _ rfl pr i c L (Go.Fl.neg x) rfl rfl HO.out (RowKit.Below.size HU.out) HLL.out.1 ?_; intro pr' c' w7 O7 G7 B7; (have HO7 : Hid (OR fe 24 w1.heap.size w7 (.slice pr' (i + 1) c') (L ++ [Go.Fl.neg x])) := O7); (have HU7 : Hid (Up w1 w7) := RowKit.Below.grown (HU.out.al _) G7 (RowKit.Below.size (HU.out.al _)) (fun j hj => (HO.out.lt j hj).1)); clear O7 G7 B7)
      go_roundw
      case rel =>
        refine ⟨i + 1, c', pr', _, by omega, rfl, by go_num, HO7, fun j hj => ?_, HU7⟩
        by_cases e : j < i
        · rw [getD_app_lt (by rw [HLL.out.2]; exact e)]; exact HV.out j e
        · obtain rfl : j = i := by omega
          rw [getD_app_eq HLL.out.2, HX.out]
      case measure => simp [intOf]; omega
    · obtain rfl : i = m := by omega
      have hll := HO.out.len
      have HNG : Hid (NgL d2 L.toArray) := ng_of (by rw [HD.out.2]; exact hll) (fun j hj => HV.out j (by rw [← HD.out.2]; exact hj))
      have HY : Hid (SV wr pr i c L.toArray) := or_sv HO.out (ng_fit HS.out.2.1.fit (by rw [HD.out.2]; exact hll) (fun j hj => HV.out j (by rw [← HD.out.2]; exact hj)))
      have W1 : Hid (Up w wr) := U1.out.trans HU.out
      clear HO HV hll
      obtain ⟨C, hC⟩ : ∃ C, turD d d2 (ab a) = C := ⟨_, rfl⟩
      obtain ⟨E1, hE1⟩ : ∃ E, turE d d2 (ab a) = E := ⟨_, rfl⟩
      obtain ⟨D, hDD⟩ : ∃ C, turD d d2 (ab b) = C := ⟨_, rfl⟩
      obtain ⟨E2, hE2⟩ : ∃ E, turE d d2 (ab b) = E := ⟨_, rfl⟩
      obtain ⟨cn, hcn⟩ : ∃ cn, C.length = cn := ⟨_, rfl⟩
      obtain ⟨dn, hdn⟩ : ∃ cn, D.length = cn := ⟨_, rfl⟩
      have hlc : cn ≤ 1000000 ∧ dn ≤ 1000000 := by
        rw [← hcn, ← hC, ← hdn, ← hDD]
        exact ⟨Nat.le_trans (turD_len _ _ _) (by decide), Nat.le_trans (turD_len _ _ _) (by decide)⟩
      have T1 : Hid (∀ W, Up w W → Calls Try.prog 18 #[.slice p n cap, .slice p2 i cap2, .float .f64 a] W fun e w' => ∃ p c, e = .returned (.tuple #[.slice p cn c, .int .i64 E1]) ∧ Hid (IV w' p cn C) ∧ Hid (Up W w')) := fun W hu => (t18 a (HS.out.1.up hu) (HS.out.2.1.up hu)).mono fun e w' ⟨p, c, h1, h2, h3⟩ => by
        rw [hC, hcn] at h1 h2
        rw [hE1] at h1
        exact ⟨p, c, h1, OR.iv h2.out, h3⟩
      have T2 : Hid (∀ W, Up wr W → Calls Try.prog 18 #[.slice p n cap, .slice pr i c, .float .f64 a] W fun e w' => ∃ p c, e = .returned (.tuple #[.slice p cn c, .int .i64 E1]) ∧ Hid (IV w' p cn C) ∧ Hid (Up W w')) := fun W hu => (t18 a (HS.out.1.up (W1.out.trans hu)) (HY.out.up hu)).mono fun e w' ⟨p, c, h1, h2, h3⟩ => by
        rw [HNG.out.told, hC, hcn] at h1 h2
        rw [HNG.out.err, hE1] at h1
        exact ⟨p, c, h1, OR.iv h2.out, h3⟩
      have T3 : Hid (∀ W, Up w W → Calls Try.prog 18 #[.slice p n cap, .slice p2 i cap2, .float .f64 b] W fun e w' => ∃ p c, e = .returned (.tuple #[.slice p dn c, .int .i64 E2]) ∧ Hid (IV w' p dn D) ∧ Hid (Up W w')) := fun W hu => (t18 b (HS.out.1.up hu) (HS.out.2.1.up hu)).mono fun e w' ⟨p, c, h1, h2, h3⟩ => by
        rw [hDD, hdn] at h1 h2
        rw [hE2] at h1
        exact ⟨p, c, h1, OR.iv h2.out, h3⟩
      have HCn : Hid (cn ≤ 1000000 ∧ C.length = cn ∧ D.length = dn) := ⟨hlc.1, hcn, hdn⟩
      have HSo : Hid (List.Pairwise (· < ·) C ∧ List.Pairwise (· < ·) D) := by rw [← hC, ← hDD]; exact ⟨told_sorted _ _ _, told_sorted _ _ _⟩
      have HIn : Hid ((ltF (ab a) (ab b) || eqF (ab a) (ab b)) = true → E1 = 0 → E2 = 0 ∧ In C D 0 0) := fun q1 q2 => by
        rw [← hE1] at q2
        rw [← hE2, ← hC, ← hDD]
        exact ⟨err_more q1 q2, In.start (told_more q1 q2)⟩
      have yc : (cn : Int) ≤ 1000000 := by omega
      have yd : (dn : Int) ≤ 1000000 := by omega
      clear hC hE1 hDD hE2 hcn hdn hlc HNG HY
      go_upto_region 14 with (first
        | (go_at_call 18; (with_reducible refine (T1.out _ W1.out).mono ?_); rintro e w2 ⟨pc, cc, rfl, IC, U2⟩)
        | (go_at_call 18; (with_reducible refine (T2.out _ U2.out).mono ?_); rintro e w3 ⟨pd, cd, rfl, ID, U3⟩; (have IC3 : Hid (IV w3 pc cn C) := IC.out.up U3.out); (have V3 : Hid (Up wr w3) := U2.out.trans U3.out))
        | (go_at_call 20; (with_reducible refine (t20 IC3.out ID.out HCn.out.1).mono ?_); rintro e w4 ⟨rfl, m4, hw4⟩; (have V4 : Hid (Up wr w4) := hw4 ▸ V3.out.dr _); (have IC4 : Hid (IV w4 pc cn C) := hw4 ▸ IC3.out.up (Up.drewN _ _)); clear hw4)
        | (go_at_call 18; (with_reducible refine (T3.out _ (W1.out.trans V4.out)).mono ?_); rintro e w5 ⟨pe, ce, rfl, IE, U5⟩; (have V5 : Hid (Up wr w5) := V4.out.trans U5.out); (have IC5 : Hid (IV w5 pc cn C) := IC4.out.up U5.out)))
      have W5 : Hid (Up w w5) := W1.out.trans V5.out
      clear IC ID IC3 IC4 V3 V4 V5 U2 U3 U5 T1 T2 T3 W1
      have BK1 : Hid (bakE k S d4 (ab q) ≠ 0 → ∀ W, Up w W → Calls Try.prog 11 #[.slice p3 k cap3, .slice p4 l cap4, .float .f64 q] W fun e w' => ∃ p c E, e = .returned (.tuple #[.slice p 0 c, .int .i64 E]) ∧ (E == 0) = false ∧ Hid (Up W w')) := fun hB W hu => (t11 q (HS.out.2.2.1.up hu) (HS.out.2.2.2.up hu)).mono fun e w' h => by
        obtain ⟨p, c, L, h1, _, _, h4⟩ := h.form
        have e0 : bakN k S d4 (ab q) = 0 := if_neg hB
        rw [e0] at h1
        exact ⟨p, c, _, h1, beq_false_of_ne hB, h4⟩
      have BK0 : Hid (bakE k S d4 (ab q) = 0 → ∀ W, Up w W → Calls Try.prog 11 #[.slice p3 k cap3, .slice p4 l cap4, .float .f64 q] W fun e w' => ∃ p c L, e = .returned (.tuple #[.slice p k c, .int .i64 0]) ∧ Hid (SO W.heap.size w' (.slice p k c) L) ∧ Hid ((∀ j, j < k → mayF (L.getD j Stt.zero).ab = true) ∧ (0 < k → (L.getD (k - 1) Stt.zero).ab = (S (k - 1)).ab)) ∧ Hid (Up W w')) := fun hB W hu => (t11 q (HS.out.2.2.1.up hu) (HS.out.2.2.2.up hu)).mono fun e w' h => by
        obtain ⟨p, c, L, h1, h2, h3, h4⟩ := h.form
        have e0 : bakN k S d4 (ab q) = k := if_pos hB
        rw [e0] at h1 h2 h3
        rw [hB] at h1
        refine ⟨p, c, L, h1, h2, ⟨fun j hj => ?_, fun h0 => ?_⟩, h4⟩
        · rw [h3.out j hj]
          exact bk_may (fun i hi => (bakE_may hB).2.2.2.1 i (by omega)) _
        · rw [h3.out (k - 1) (by omega), Nat.sub_self]; rfl
      have HMay : Hid (bakE k S d4 (ab q) = 0 → ∀ i, i < k → mayF (S i).ab = true) := fun hB => (bakE_may hB).2.2.2.1
      cases hle : (ltF (ab a) (ab b) || eqF (ab a) (ab b)) with
      | false =>
        by_cases hB : bakE k S d4 (ab q) = 0
        · have HT := BK0.out hB w5 W5.out
          have HM := HMay.out hB
          by_cases h0 : k = 0
          · subst h0
            go_upto_region 29 with (go_at_call 11; (with_reducible refine HT.mono ?_); rintro e w6 ⟨pz, cz, L, rfl, HO, HA, U6⟩)
            have zz : ((0 : Int) != (0 : Int)) = false := rfl
            go_quiet (fail)
            go_wp2
            go_loopw [27, 169] (fun _ vi wr => vi = .int .i64 0 ∧ Hid (Up w6 wr)) (fun _ vi _ => 0)
            case atStart => exact ⟨rfl, Up.drewN _ _⟩
            case round =>
              obtain ⟨rfl, HU⟩ := hrel
              rename World => wt
              go_wp2
              go_ret
              exact ⟨rfl, W5.out.trans (U6.out.trans HU.out)⟩
          · obtain ⟨bb, oo, hp, hr⟩ := HS.out.2.2.1.rd (by omega)
            subst hp
            have C := (hr (k - 1) (by omega)).up W5.out
            have HM1 := HM (k - 1) (by omega)
            go_upto_region 29 with (go_at_call 11; (with_reducible refine HT.mono ?_); rintro e w6 ⟨pz, cz, L, rfl, HO, HA, U6⟩)
            have hll := HO.out.len
            obtain ⟨g, hg, _, _, D⟩ := HO.out.at (i := k - 1) (by omega)
            subst hg
            replace C := C.up U6.out
            have heq : (L.getD (k - 1) Stt.zero).ab = (S (k - 1)).ab := HA.out.2 (by omega)
            have HMA : Hid (∀ j, j < k → mayF (L.getD j Stt.zero).ab = true) := HA.out.1
            clear HA
            generalize S (k - 1) = s at *
            generalize L.getD (k - 1) Stt.zero = s' at *
            obtain ⟨x, v, aa, b', c⟩ := s
            obtain ⟨nx, nv, na, nb, nc⟩ := s'
            have hne : ∀ w, (binOp .neq 27 (.agg #[.float .f64 nx, .float .f64 nv, .float .f64 na, .float .f64 nb, .float .f64 nc]) (.agg #[.float .f64 x, .float .f64 v, .float .f64 aa, .float .f64 b', .float .f64 c])).run Try.prog w = .ok (.bool false) w := fun w => by
              rw [neq27]
              have e2 : (S5.mk (ab nx) (ab nv) (ab na) (ab nb) (ab nc)) = ⟨ab x, ab v, ab aa, ab b', ab c⟩ := heq
              rw [e2, eqS_may rfl HM1]; rfl
            obtain ⟨c0, c1, c2, c3, c4⟩ := C
            obtain ⟨m0, m1, m2, m3, m4⟩ := D
            obtain ⟨ko, hko⟩ : ∃ ko, k - 1 = ko := ⟨_, rfl⟩
            rw [hko] at c0 c1 c2 c3 c4 m0 m1 m2 m3 m4
            have ek : (k : Int) - 1 = (ko : Int) := by omega
            have zz : ((k : Int) != (k : Int)) = false := by simp
            have z3 : (0 : Int) < (k : Int) := by omega
            have z4 : (k : Int) ≤ 1048576 := by omega
            have z5 : (ko : Int) < (k : Int) := by omega
            have hd : decide (0 < k) = true := decide_eq_true (by omega)
            clear heq hr HM HT hll HM1 hko h0
            go_quiet (fail)
            go_wp2
            clear ek zz z3 z5 hd hne c0 c1 c2 c3 c4 m0 m1 m2 m3 m4
            go_loopw [27, 169] (fun _ vi wr => ∃ i : Nat, i ≤ k ∧ vi = .int .i64 i ∧ Hid (Up w6 wr)) (fun _ vi _ => k - (intOf vi).toNat)
            case atStart => exact ⟨0, by omega, rfl, Up.drewN _ _⟩
            case round =>
              obtain ⟨i', hi', rfl, HU⟩ := hrel
              rename World => wt
              by_cases hlt' : i' < k
              · obtain ⟨g', hg', _, _, D⟩ := HO.out.at (i := i') (by have := HO.out.len; omega)
                simp only [Option.some.injEq, Addr.mk.injEq] at hg'
                obtain ⟨rfl, _, _⟩ := hg'
                have hmm := HMA.out i' hlt'
                replace D := D.up HU.out
                generalize L.getD i' Stt.zero = s' at *
                obtain ⟨nx, nv, na, nb, nc⟩ := s'
                have hmm' : mayF ⟨ab nx, ab nv, ab na, ab nb, ab nc⟩ = true := hmm
                have y9 : (i' : Int) < (k : Int) := by omega
                obtain ⟨m0, m1, m2, m3, m4⟩ := D
                simp only at m0 m1 m2 m3 m4
                clear hmm
                go_wp2_with (go_at_call 23; (with_reducible refine (t23 nx nv na nb nc _).mono ?_); rintro e w8 ⟨rfl, U8⟩; rw [hmm'])
                go_roundw
                case rel => exact ⟨i' + 1, by omega, by go_num, HU.out.trans U8.out⟩
                case measure => simp [intOf]; omega
              · obtain rfl : i' = k := by omega
                go_wp2
                go_ret
                exact ⟨rfl, W5.out.trans (U6.out.trans HU.out)⟩
        · have HT := BK1.out hB w5 W5.out
          go_wp2_with (go_at_call 11; (with_reducible refine HT.mono ?_); rintro e w6 ⟨pz, cz, E, rfl, e0, U6⟩)
          go_ret
          exact ⟨rfl, W5.out.trans U6.out⟩

      | true =>
        cases he : (E1 == 0) with
        | false =>
          by_cases hB : bakE k S d4 (ab q) = 0
          · have HT := BK0.out hB w5 W5.out
            have HM := HMay.out hB
            by_cases h0 : k = 0
            · subst h0
              go_upto_region 29 with (go_at_call 11; (with_reducible refine HT.mono ?_); rintro e w6 ⟨pz, cz, L, rfl, HO, HA, U6⟩)
              have zz : ((0 : Int) != (0 : Int)) = false := rfl
              go_quiet (fail)
              go_wp2
              go_loopw [27, 169] (fun _ vi wr => vi = .int .i64 0 ∧ Hid (Up w6 wr)) (fun _ vi _ => 0)
              case atStart => exact ⟨rfl, Up.drewN _ _⟩
              case round =>
                obtain ⟨rfl, HU⟩ := hrel
                rename World => wt
                go_wp2
                go_ret
                exact ⟨rfl, W5.out.trans (U6.out.trans HU.out)⟩
            · obtain ⟨bb, oo, hp, hr⟩ := HS.out.2.2.1.rd (by omega)
              subst hp
              have C := (hr (k - 1) (by omega)).up W5.out
              have HM1 := HM (k - 1) (by omega)
              go_upto_region 29 with (go_at_call 11; (with_reducible refine HT.mono ?_); rintro e w6 ⟨pz, cz, L, rfl, HO, HA, U6⟩)
              have hll := HO.out.len
              obtain ⟨g, hg, _, _, D⟩ := HO.out.at (i := k - 1) (by omega)
              subst hg
              replace C := C.up U6.out
              have heq : (L.getD (k - 1) Stt.zero).ab = (S (k - 1)).ab := HA.out.2 (by omega)
              have HMA : Hid (∀ j, j < k → mayF (L.getD j Stt.zero).ab = true) := HA.out.1
              clear HA
              generalize S (k - 1) = s at *
              generalize L.getD (k - 1) Stt.zero = s' at *
              obtain ⟨x, v, aa, b', c⟩ := s
              obtain ⟨nx, nv, na, nb, nc⟩ := s'
              have hne : ∀ w, (binOp .neq 27 (.agg #[.float .f64 nx, .float .f64 nv, .float .f64 na, .float .f64 nb, .float .f64 nc]) (.agg #[.float .f64 x, .float .f64 v, .float .f64 aa, .float .f64 b', .float .f64 c])).run Try.prog w = .ok (.bool false) w := fun w => by
                rw [neq27]
                have e2 : (S5.mk (ab nx) (ab nv) (ab na) (ab nb) (ab nc)) = ⟨ab x, ab v, ab aa, ab b', ab c⟩ := heq
                rw [e2, eqS_may rfl HM1]; rfl
              obtain ⟨c0, c1, c2, c3, c4⟩ := C
              obtain ⟨m0, m1, m2, m3, m4⟩ := D
              obtain ⟨ko, hko⟩ : ∃ ko, k - 1 = ko := ⟨_, rfl⟩
              rw [hko] at c0 c1 c2 c3 c4 m0 m1 m2 m3 m4
              have ek : (k : Int) - 1 = (ko : Int) := by omega
              have zz : ((k : Int) != (k : Int)) = false := by simp
              have z3 : (0 : Int) < (k : Int) := by omega
              have z4 : (k : Int) ≤ 1048576 := by omega
              have z5 : (ko : Int) < (k : Int) := by omega
              have hd : decide (0 < k) = true := decide_eq_true (by omega)
              clear heq hr HM HT hll HM1 hko h0
              go_quiet (fail)
              go_wp2
              clear ek zz z3 z5 hd hne c0 c1 c2 c3 c4 m0 m1 m2 m3 m4
              go_loopw [27, 169] (fun _ vi wr => ∃ i : Nat, i ≤ k ∧ vi = .int .i64 i ∧ Hid (Up w6 wr)) (fun _ vi _ => k - (intOf vi).toNat)
              case atStart => exact ⟨0, by omega, rfl, Up.drewN _ _⟩
              case round =>
                obtain ⟨i', hi', rfl, HU⟩ := hrel
                rename World => wt
                by_cases hlt' : i' < k
                · obtain ⟨g', hg', _, _, D⟩ := HO.out.at (i := i') (by have := HO.out.len; omega)
                  simp only [Option.some.injEq, Addr.mk.injEq] at hg'
                  obtain ⟨rfl, _, _⟩ := hg'
                  have hmm := HMA.out i' hlt'
                  replace D := D.up HU.out
                  generalize L.getD i' Stt.zero = s' at *
                  obtain ⟨nx, nv, na, nb, nc⟩ := s'
                  have hmm' : mayF ⟨ab nx, ab nv, ab na, ab nb, ab nc⟩ = true := hmm
                  have y9 : (i' : Int) < (k : Int) := by omega
                  obtain ⟨m0, m1, m2, m3, m4⟩ := D
                  simp only at m0 m1 m2 m3 m4
                  clear hmm
                  go_wp2_with (go_at_call 23; (with_reducible refine (t23 nx nv na nb nc _).mono ?_); rintro e w8 ⟨rfl, U8⟩; rw [hmm'])
                  go_roundw
                  case rel => exact ⟨i' + 1, by omega, by go_num, HU.out.trans U8.out⟩
                  case measure => simp [intOf]; omega
                · obtain rfl : i' = k := by omega
                  go_wp2
                  go_ret
                  exact ⟨rfl, W5.out.trans (U6.out.trans HU.out)⟩
          · have HT := BK1.out hB w5 W5.out
            go_wp2_with (go_at_call 11; (with_reducible refine HT.mono ?_); rintro e w6 ⟨pz, cz, E, rfl, e0, U6⟩)
            go_ret
            exact ⟨rfl, W5.out.trans U6.out⟩

        | true =>
          obtain rfl : E1 = 0 := by simpa using he
          obtain ⟨q1, q2⟩ := HIn.out hle rfl
          subst q1
          have HI0 : Hid (In C D 0 0) := q2
          clear q2 HIn
          go_wp2
          go_loopw [22, 24, 97] (fun vk _ vj wr => ∃ (ki j : Nat), ki ≤ cn ∧ j ≤ dn ∧ vk = .int .i64 ki ∧ vj = .int .i64 j ∧ Hid (In C D ki j) ∧ Hid (Up w5 wr)) (fun _ _ vj _ => dn - (intOf vj).toNat)
          case atStart => exact ⟨0, 0, by omega, by omega, rfl, rfl, HI0, Up.refl _⟩
          case round =>
            obtain ⟨ki, j, hki, hj, rfl, rfl, HI, HU'⟩ := hrel
            rename World => wo
            by_cases hjd : j < dn
            · obtain ⟨pp, g1, g2, g3⟩ := HI.out j (Nat.le_refl _) (by rw [HCn.out.2.2]; exact hjd)
              rw [HCn.out.2.1] at g2
              have HI1 : Hid (In C D pp (j + 1)) := In.next HSo.out.1 HSo.out.2 HI.out (by rw [HCn.out.2.1]; exact g2) g3
              obtain ⟨be, oe, hpe, hre⟩ := IE.out.rd (by omega)
              obtain ⟨bc, oc, hpc, hrc⟩ := IC5.out.rd (by omega)
              subst hpe
              subst hpc
              have cj := cell_up (hre j hjd) HU'.out
              rw [← g3] at cj
              have HRC : Hid (∀ i, i < cn → w5.cell? ⟨bc, oc + i, none⟩ = some (.int .i64 (C.getD i 0 : Nat))) := hrc
              have HL : Hid (∀ i, i < pp → C.getD i 0 < C.getD pp 0) := fun i hi => getD_lt HSo.out.1 hi (by rw [HCn.out.2.1]; exact g2)
              have HP := HRC.out pp g2
              obtain ⟨y, hy⟩ : ∃ y, C.getD pp 0 = y := ⟨_, rfl⟩
              rw [hy] at cj HL HP
              have HPP : Hid (w5.cell? ⟨bc, oc + pp, none⟩ = some (.int .i64 (y : Nat))) := HP
              have y5 : (j : Int) < (dn : Int) := by omega
              have y6 : (pp : Int) < (cn : Int) := by omega
              clear hre hrc g3 hy HP
              go_wp2
              go_loopw [22] (fun vk wr => ∃ ki : Nat, ki ≤ pp ∧ vk = .int .i64 ki ∧ Hid (Up w5 wr)) (fun vk _ => pp - (intOf vk).toNat)
              case atStart => exact ⟨ki, g1, rfl, HU'⟩
              case round =>
                obtain ⟨kj, hkj, rfl, HU2⟩ := hrel
                rename World => wq
                by_cases hk2 : kj < pp
                · have cz := cell_up (HRC.out kj (by omega)) HU2.out
                  have hzy := HL.out kj hk2
                  generalize C.getD kj 0 = z at *
                  have y7 : (kj : Int) < (cn : Int) := by omega
                  have y8 : (z : Int) < (y : Int) := by omega
                  clear hzy
                  go_wp2
                  go_roundw
                  case rel => exact ⟨kj + 1, by omega, by go_num, HU2⟩
                  case measure => simp [intOf]; omega
                · obtain rfl : kj = pp := by omega
                  have cz := cell_up HPP.out HU2.out
                  have y8 : ¬ ((y : Int) < (y : Int)) := by omega
                  have y9 : ((y : Int) != (y : Int)) = false := by simp
                  have y10 : ((kj : Int) == (cn : Int)) = false := beq_false_of_ne (by omega)
                  go_wp2
                  go_roundw
                  case rel => exact ⟨kj, j + 1, by omega, by omega, rfl, by go_num, HI1, HU2⟩
                  case measure => simp [intOf]; omega
            · obtain rfl : j = dn := by omega
              have W6 : Hid (Up w wo) := W5.out.trans HU'.out
              by_cases hB : bakE k S d4 (ab q) = 0
              · have HT := BK0.out hB wo W6.out
                have HM := HMay.out hB
                by_cases h0 : k = 0
                · subst h0
                  go_upto_region 29 with (go_at_call 11; (with_reducible refine HT.mono ?_); rintro e w6 ⟨pz, cz, L, rfl, HO, HA, U6⟩)
                  have zz : ((0 : Int) != (0 : Int)) = false := rfl
                  go_quiet (fail)
                  go_wp2
                  go_loopw [27, 169] (fun _ vi wr => vi = .int .i64 0 ∧ Hid (Up w6 wr)) (fun _ vi _ => 0)
                  case atStart => exact ⟨rfl, Up.drewN _ _⟩
                  case round =>
                    obtain ⟨rfl, HU⟩ := hrel
                    rename World => wt
                    go_wp2
                    go_ret
                    exact ⟨rfl, W6.out.trans (U6.out.trans HU.out)⟩
                · obtain ⟨bb, oo, hp, hr⟩ := HS.out.2.2.1.rd (by omega)
                  subst hp
                  have C := (hr (k - 1) (by omega)).up W6.out
                  have HM1 := HM (k - 1) (by omega)
                  go_upto_region 29 with (go_at_call 11; (with_reducible refine HT.mono ?_); rintro e w6 ⟨pz, cz, L, rfl, HO, HA, U6⟩)
                  have hll := HO.out.len
                  obtain ⟨g, hg, _, _, D⟩ := HO.out.at (i := k - 1) (by omega)
                  subst hg
                  replace C := C.up U6.out
                  have heq : (L.getD (k - 1) Stt.zero).ab = (S (k - 1)).ab := HA.out.2 (by omega)
                  have HMA : Hid (∀ j, j < k → mayF (L.getD j Stt.zero).ab = true) := HA.out.1
                  clear HA
                  generalize S (k - 1) = s at *
                  generalize L.getD (k - 1) Stt.zero = s' at *
                  obtain ⟨x, v, aa, b', c⟩ := s
                  obtain ⟨nx, nv, na, nb, nc⟩ := s'
                  have hne : ∀ w, (binOp .neq 27 (.agg #[.float .f64 nx, .float .f64 nv, .float .f64 na, .float .f64 nb, .float .f64 nc]) (.agg #[.float .f64 x, .float .f64 v, .float .f64 aa, .float .f64 b', .float .f64 c])).run Try.prog w = .ok (.bool false) w := fun w => by
                    rw [neq27]
                    have e2 : (S5.mk (ab nx) (ab nv) (ab na) (ab nb) (ab nc)) = ⟨ab x, ab v, ab aa, ab b', ab c⟩ := heq
                    rw [e2, eqS_may rfl HM1]; rfl
                  obtain ⟨c0, c1, c2, c3, c4⟩ := C
                  obtain ⟨m0, m1, m2, m3, m4⟩ := D
                  obtain ⟨ko, hko⟩ : ∃ ko, k - 1 = ko := ⟨_, rfl⟩
                  rw [hko] at c0 c1 c2 c3 c4 m0 m1 m2 m3 m4
                  have ek : (k : Int) - 1 = (ko : Int) := by omega
                  have zz : ((k : Int) != (k : Int)) = false := by simp
                  have z3 : (0 : Int) < (k : Int) := by omega
                  have z4 : (k : Int) ≤ 1048576 := by omega
                  have z5 : (ko : Int) < (k : Int) := by omega
                  have hd : decide (0 < k) = true := decide_eq_true (by omega)
                  clear heq hr HM HT hll HM1 hko h0
                  go_quiet (fail)
                  go_wp2
                  clear ek zz z3 z5 hd hne c0 c1 c2 c3 c4 m0 m1 m2 m3 m4
                  go_loopw [27, 169] (fun _ vi wr => ∃ i : Nat, i ≤ k ∧ vi = .int .i64 i ∧ Hid (Up w6 wr)) (fun _ vi _ => k - (intOf vi).toNat)
                  case atStart => exact ⟨0, by omega, rfl, Up.drewN _ _⟩
                  case round =>
                    obtain ⟨i', hi', rfl, HU⟩ := hrel
                    rename World => wt
                    by_cases hlt' : i' < k
                    · obtain ⟨g', hg', _, _, D⟩ := HO.out.at (i := i') (by have := HO.out.len; omega)
                      simp only [Option.some.injEq, Addr.mk.injEq] at hg'
                      obtain ⟨rfl, _, _⟩ := hg'
                      have hmm := HMA.out i' hlt'
                      replace D := D.up HU.out
                      generalize L.getD i' Stt.zero = s' at *
                      obtain ⟨nx, nv, na, nb, nc⟩ := s'
                      have hmm' : mayF ⟨ab nx, ab nv, ab na, ab nb, ab nc⟩ = true := hmm
                      have y9 : (i' : Int) < (k : Int) := by omega
                      obtain ⟨m0, m1, m2, m3, m4⟩ := D
                      simp only at m0 m1 m2 m3 m4
                      clear hmm
                      go_wp2_with (go_at_call 23; (with_reducible refine (t23 nx nv na nb nc _).mono ?_); rintro e w8 ⟨rfl, U8⟩; rw [hmm'])
                      go_roundw
                      case rel => exact ⟨i' + 1, by omega, by go_num, HU.out.trans U8.out⟩
                      case measure => simp [intOf]; omega
                    · obtain rfl : i' = k := by omega
                      go_wp2
                      go_ret
                      exact ⟨rfl, W6.out.trans (U6.out.trans HU.out)⟩
              · have HT := BK1.out hB wo W6.out
                go_wp2_with (go_at_call 11; (with_reducible refine HT.mono ?_); rintro e w6 ⟨pz, cz, E, rfl, e0, U6⟩)
                go_ret
                exact ⟨rfl, W6.out.trans U6.out⟩
end Go.Proofs.Ytcgbmcnefolgcaa
