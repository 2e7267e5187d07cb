/- PlanShares: the walk. -/
import Derived.Test.YtjklaemhfhakhaaHb
import Derived.Deep.CutBlock
namespace Go.Proofs.Ytjklaemhfhakhaa
open Go.ChangeShapes Go.WideShapes Go.ChangeAt Go.RowKit

theorem TL.take {w : World} {p : Option Addr} {n cap m : Nat} {T : Nat → Tk} (h : TL w p n cap T) (hm : m ≤ n) : TL w p m cap T := ⟨Nat.le_trans hm h.cap, fun h0 => by
  obtain ⟨b, o, e, k⟩ := h.rd (by omega)
  exact ⟨b, o, e, fun i hi => k i (by omega)⟩⟩
set_option maxRecDepth 200000 in
set_option maxHeartbeats 16000000 in
theorem t7 {w : World} {p : Option Addr} {n cap : Nat} {T0 : Nat → Tk} (h : TL w p n cap T0) (hn : n ≤ 1152921504606846976) : Calls Try.prog 7 #[.slice p n cap] w (VU w (.bool true)) := by
  have C20 : Hid (Calls Try.prog 20 #[.slice p n cap, .int .i64 7] w (FewR w n 7)) := t20 h hn (by omega) (by omega)
  obtain ⟨M, hM⟩ : ∃ M, min n 12 = M := ⟨_, rfl⟩
  have M12 : M ≤ 12 := by omega
  unfold FewR at C20
  rw [hM] at C20
  clear h hn hM
  go_enter Try.func7, Try.ntmps7
  go_upto_if 20 with (go_at_call 20; (with_reducible refine C20.out.mono ?_); rintro e w1 ⟨q, c, T, rfl, HT, HMay, HU1⟩)
  go_cut [3] from 21 to 22 (fun v3 wx => ∃ (N : Nat), N ≤ 5 ∧ v3 = .slice q N c ∧ Hid (TL wx q N c T) ∧ Hid (∀ i, i < N → MayT (T i).e (T i).l ∧ (T i).e ≤ 7) ∧ Hid (Up w wx))
  case first =>
    by_cases h5 : 5 < M
    · have z1 : (5 : Int) < (M : Int) := by omega
      have z2 := HT.out.cap
      have z3 : 5 ≤ c := by omega
      have z4 : (5 : Int) ≤ (c : Int) := by omega
      go_wp2_with fail
      go_meet
      case rel => exact ⟨5, by omega, rfl, HT.out.take (by omega), fun i hi => HMay.out i (by omega), HU1⟩
    · have z1 : ¬ (5 : Int) < (M : Int) := by omega
      go_wp2_with fail
      go_meet
      case rel => exact ⟨M, by omega, rfl, HT, HMay, HU1⟩
  case rest =>
    obtain ⟨N, hN, rfl, HTL, HM, HUc⟩ := hcut
    rename World => wc
    clear HT HMay HU1 C20
    have HN5 : Hid (N ≤ 5) := hN
    obtain ⟨a, d, hlo, hd, ha⟩ := load_ok hN HM.out
    obtain ⟨hd1, hL1, -⟩ := light_new (fun i hi => (HM.out i hi).1) hlo
    have HLO : Hid (loadN (fun i => (T i).e.toNat) (fun i => (T i).l.toNat) N = some (a, d)) := hlo
    obtain ⟨s1, s2, s3⟩ := share_all HM.out
    have hrun : ∀ {w2 : World} {L : Ly}, PU w2 L N (newP T) → Calls Try.prog 18 #[.pointer (some ⟨L.bp, 0, none⟩), .int .i64 420] w2 (UntR w2 L N 420 (newP T)) := fun hp => by
      have := t18 hp.pw hp.ok hp.pb (by omega) 420 (by omega)
      rwa [show min (420 : Int) 1152921504606846976 = 420 by decide] at this
    unfold UntR at hrun
    obtain ⟨⟨D, p'⟩, hU⟩ : ∃ u, untilN N 420 65536 (newP T) = u := ⟨_, rfl⟩
    rw [hU] at s1 s2 s3 hrun
    simp only at s1 s2 s3 hrun
    have HC0 : Hid (Chn 0 D 420) := s1
    have HLAST : Hid (∀ i, i < N → (p'.c i).last.e = (T i).e ∧ (p'.c i).last.l = (T i).l) := s2
    have HCN : Hid (a ≤ d → ∀ i, i < N → ∀ q : Nat, ((q : Int) + 1) * (T i).e ≤ 420 → cntA D i (q * (T i).e) (T i).e.toNat = (T i).l) := fun k => s3 (hL1 k)
    have HRUN : Hid (∀ {w2 : World} {L : Ly}, PU w2 L N (newP T) → Calls Try.prog 18 #[.pointer (some ⟨L.bp, 0, none⟩), .int .i64 420] w2 (fun e w' => ∃ pp c L', e = .returned (.slice pp D.length c) ∧ Hid (SO w2.heap.size w' (.slice pp D.length c) D) ∧ Hid (PW w' L' N p') ∧ Hid (PB N p') ∧ Hid (Kept N w2 w' L L'))) := hrun
    clear hlo hL1 s1 s2 s3 hrun hU
    go_upto_region 7 with (go_at_call 10; (with_reducible refine (t10m HTL.out (by omega) (fun i hi => (HM.out i hi).1)).mono ?_); rintro e w2 ⟨L, rfl, HP, HOwn, HU2⟩)
    go_upto_region 8 with (go_at_call 18; (with_reducible refine (HRUN.out HP.out).mono ?_); rintro e w5 ⟨pp, c2, L2, rfl, HSO, HPW, HPB, HK⟩)
    have HU5 : Hid (Up wc w5) := HK.out.upw HU2.out HOwn.out
    have HBP : Hid (L2.bp = L.bp) := HK.out.bp
    have C21 : Hid (Calls Try.prog 21 #[.slice pp D.length c2, .int .i64 420] w5 (TicR w5 420 D)) := t21 HSO.out (E := 420) (by omega) HC0.out
    have HSL : Hid (0 < D.length → ∃ g, pp = some ⟨g, 0, none⟩ ∧ ∀ i, i < D.length → SlAt w5 g (i * 4) (D.getD i Sl.zero)) := by
      intro h0
      obtain ⟨g, e1, _, _, e4⟩ := HSO.out.sl h0
      exact ⟨g, e1, e4⟩
    have hln := HC0.out.len
    clear HSO HK HP HOwn HRUN HU2
    generalize D.length = ln at *
    go_upto_region 11 with (go_at_call 21; (with_reducible refine C21.out.mono ?_); rintro e w6 ⟨g, rfl, HTK⟩)
    have HU6 : Hid (Up wc w6) := HU5.out.trans HTK.out.up
    have C13 : Hid (Calls Try.prog 13 #[.pointer (some ⟨L.bp, 0, none⟩)] w6 (VU w6 (.tuple #[.int .i64 (a : Int), .int .i64 (d : Int)]))) := by
      have := t13 (HPW.out.up HTK.out.up) HPB.out (fun i => (T i).e.toNat) (fun i => (T i).l.toNat) (fun i hi => by
        obtain ⟨k1, k2⟩ := HLAST.out i hi
        rw [k1, k2]
        exact ((HM.out i hi).1).nat) (by omega)
      rw [HLO.out, HBP.out] at this
      exact this
    go_wp2_with fail
    go_loopw [9] (fun v9 wr => ∃ j : Nat, j ≤ ln ∧ v9 = .int .i64 j ∧ wr = w6) (fun v9 _ => ln - (intOf v9).toNat)
    case atStart => exact ⟨0, by omega, rfl, rfl⟩
    case round =>
      obtain ⟨j, hj, rfl, hw6⟩ := hrel
      subst hw6
      by_cases hjl : j < ln
      · have b1 : (j : Int) < (ln : Int) := by omega
        have y1 : (0 : Int) ≤ (j : Int) := by omega
        obtain ⟨gs, hpp, hs⟩ := HSL.out (by omega)
        obtain ⟨-, -, -, x3⟩ := (hs j hjl).up HTK.out.up
        clear hs
        generalize (D.getD j Sl.zero).l = lt at *
        subst hpp
        cases lt with
        | false =>
          go_wp2_with fail
          go_roundw
          case rel => exact ⟨j + 1, by omega, by go_num, by first | rfl | trivial⟩
          case measure => simp [intOf]; omega
        | true =>
          go_wp2_with (go_at_call 9; (with_reducible refine (t9 _).mono ?_); rintro e w8 ⟨rfl, HU8⟩)
          go_ret
          exact ⟨rfl, HUc.out.trans (HU6.out.trans HU8.out)⟩
      · have b1 : ¬ (j : Int) < (ln : Int) := by omega
        by_cases had : d < a
        · have d1 : (d : Int) < (a : Int) := by omega
          go_wp2_with (first
            | (go_at_call 13; (with_reducible refine C13.out.mono ?_); rintro e w7 ⟨rfl, HU7⟩)
            | (go_at_call 9; (with_reducible refine (t9 _).mono ?_); rintro e w8 ⟨rfl, HU8⟩))
          go_ret
          exact ⟨rfl, HUc.out.trans (HU6.out.trans (HU7.out.trans HU8.out))⟩
        · have d1 : ¬ (d : Int) < (a : Int) := by omega
          have HCT := HCN.out (by omega)
          replace HCT : Hid (∀ i, i < N → ∀ q : Nat, ((q : Int) + 1) * (T i).e ≤ 420 → cntA D i (q * (T i).e) (T i).e.toNat = (T i).l) := HCT
          go_wp2_with (go_at_call 13; (with_reducible refine C13.out.mono ?_); rintro e w7 ⟨rfl, HU7⟩)
          have HT7 : Hid (TL w7 q N c T) := HTL.out.up (HU6.out.trans HU7.out)
          have HK7 : Hid (TK w5 g 420 (fun k => tkA D (k : Int)) w7) := HTK.out.upp HU7.out
          have HUZ : Hid (Up w w7) := HUc.out.trans (HU6.out.trans HU7.out)
          clear HTL C13 C21 HTK HPW HPB HSL HU5 HU6 HLAST HCN HLO HC0 d1 had b1 hd1 hd ha hln
          go_loopw [12, 13, 14, 15] (fun v12 _ _ _ wr => ∃ t : Nat, t ≤ N ∧ v12 = .int .i64 t ∧ wr = w7) (fun v12 _ _ _ _ => N - (intOf v12).toNat)
          case atStart => exact ⟨0, by omega, rfl, rfl⟩
          case round =>
            obtain ⟨t, ht, rfl, hw7⟩ := hrel
            rename World => wr
            subst wr
            by_cases htN : t < N
            · have b1 : (t : Int) < (N : Int) := by omega
              have y1 : (0 : Int) ≤ (t : Int) := by omega
              obtain ⟨gt, ot, hq, hr⟩ := HT7.out.rd (by omega)
              obtain ⟨x0, x1, -⟩ := hr t htN
              obtain ⟨⟨m1, m2, m3⟩, m4⟩ := HM.out t htN
              have hcn := HCT.out t htN
              clear hr
              generalize T t = tk at *
              obtain ⟨e, l, r⟩ := tk
              simp only at x0 x1 m1 m2 m3 m4 hcn
              obtain ⟨m, hm⟩ := dvd420 (e := e) (by omega) m4
              obtain ⟨en, rfl⟩ : ∃ en : Nat, e = en := ⟨e.toNat, by omega⟩
              simp only [Int.toNat_natCast] at hcn
              have HCN : Hid (∀ q : Nat, ((q : Int) + 1) * (en : Int) ≤ 420 → cntA D t (q * (en : Int)) en = l) := hcn
              have HM0 : Hid ((420 : Int) = en * m) := hm
              subst hq
              clear hcn hm
              have e1 : 1 ≤ en := by omega
              have e7 : en ≤ 7 := by omega
              go_wp2_with fail
              go_loopw [13, 14, 15] (fun v13 _ _ wr => ∃ fr q : Nat, fr ≤ 420 ∧ v13 = .int .i64 fr ∧ Hid (fr = q * en) ∧ wr = w7) (fun v13 _ _ _ => 420 - (intOf v13).toNat)
              case atStart => exact ⟨0, 0, by omega, rfl, by show 0 = 0 * en; omega, rfl⟩
              case round =>
                obtain ⟨fr, q, hfr, rfl, HQ, hw8⟩ := hrel
                rename World => wr
                subst wr
                have y2 : (0 : Int) ≤ (fr : Int) := by omega
                by_cases hfe : fr < 420
                · have b2 : (fr : Int) < 420 := by omega
                  have hq1 : ((q : Int) + 1) * (en : Int) ≤ 420 := by
                    have h1 := HQ.out
                    have h2 := HM0.out
                    have h3 : (fr : Int) = (q : Int) * (en : Int) := by rw [h1]; simp
                    have h4 : (q : Int) * (en : Int) < m * (en : Int) := by
                      have : m * (en : Int) = en * m := Int.mul_comm _ _
                      omega
                    have h5 := Int.lt_of_mul_lt_mul_right h4 (by omega)
                    have h6 := Int.mul_le_mul_of_nonneg_right (show (q : Int) + 1 ≤ m by omega) (show (0 : Int) ≤ (en : Int) by omega)
                    have : m * (en : Int) = en * m := Int.mul_comm _ _
                    omega
                  have hq2 : fr + en ≤ 420 := by
                    have h1 := HQ.out
                    have h3 : (fr : Int) = (q : Int) * (en : Int) := by rw [h1]; simp
                    have h4 : ((q : Int) + 1) * (en : Int) = (q : Int) * (en : Int) + en := by grind
                    omega
                  have HC1 : Hid (cntA D t (fr : Int) en = l) := by
                    have h3 : (fr : Int) = (q : Int) * (en : Int) := by rw [HQ.out]; simp
                    rw [h3]
                    exact HCN.out q hq1
                  have HQ1 : Hid (fr + en = (q + 1) * en) := by rw [HQ.out]; show q * en + en = (q + 1) * en; grind
                  clear hq1
                  go_wp2_with fail
                  go_loopw [14, 15] (fun v14 v15 wr => ∃ (k : Nat) (h : Int), k ≤ en ∧ v15 = .int .i64 ((fr + k : Nat) : Int) ∧ v14 = .int .i64 h ∧ 0 ≤ h ∧ h ≤ k ∧ Hid (h = cntA D t (fr : Int) k) ∧ wr = w7) (fun _ v15 _ => fr + en - (intOf v15).toNat)
                  case atStart => exact ⟨0, 0, by omega, rfl, rfl, by omega, by omega, rfl, rfl⟩
                  case round =>
                    obtain ⟨k, h, hk, rfl, rfl, h0, hhk, HH, hw9⟩ := hrel
                    rename World => wr
                    subst wr
                    obtain ⟨kk, hkk⟩ : ∃ kk, fr + k = kk := ⟨_, rfl⟩
                    rw [hkk]
                    have y3 : (0 : Int) ≤ (kk : Int) := by omega
                    by_cases hke : k < en
                    · have b3 : (kk : Int) < (fr : Int) + (en : Int) := by omega
                      have b4 : (kk : Int) < 420 := by omega
                      have cc := HK7.out.c kk (by omega)
                      have HTV : Hid (tkA D ((fr : Int) + (k : Int)) = tkA D (kk : Int)) := by rw [← hkk]; show tkA D _ = tkA D ((fr + k : Nat) : Int); simp
                      generalize tkA D (kk : Int) = tv at *
                      have hsucc : cntA D t (fr : Int) (k + 1) = cntA D t (fr : Int) k + if tkA D ((fr : Int) + (k : Int)) = (t : Int) then 1 else 0 := rfl
                      rw [HTV.out, ← HH.out] at hsucc
                      by_cases htv : tv = (t : Int)
                      · rw [if_pos htv] at hsucc
                        have HS1 : Hid (h + 1 = cntA D t (fr : Int) (k + 1)) := hsucc.symm
                        have d1 : (tv == (t : Int)) = true := by simp [htv]
                        clear hsucc htv
                        go_wp2_with fail
                        go_roundw
                        case rel => exact ⟨k + 1, h + 1, by omega, by go_num, rfl, by omega, by omega, HS1, by first | rfl | trivial⟩
                        case measure => simp [intOf]; omega
                      · rw [if_neg htv, Int.add_zero] at hsucc
                        have HS1 : Hid (h = cntA D t (fr : Int) (k + 1)) := hsucc.symm
                        have d1 : (tv == (t : Int)) = false := by simp [htv]
                        clear hsucc htv
                        go_wp2_with fail
                        go_roundw
                        case rel => exact ⟨k + 1, h, by omega, by go_num, rfl, by omega, by omega, HS1, by first | rfl | trivial⟩
                        case measure => simp [intOf]; omega
                    · have b3 : ¬ (kk : Int) < (fr : Int) + (en : Int) := by omega
                      have hkn : k = en := by omega
                      have hhl : h = l := by rw [HH.out, hkn, HC1.out]
                      subst hhl
                      go_wp2_with fail
                      go_roundw
                      case rel => exact ⟨fr + en, q + 1, by omega, by go_num, HQ1, by first | rfl | trivial⟩
                      case measure => simp [intOf]; omega
                · have b2 : ¬ (fr : Int) < 420 := by omega
                  go_wp2_with fail
                  go_roundw
                  case rel => exact ⟨t + 1, by omega, by go_num, by first | rfl | trivial⟩
                  case measure => simp [intOf]; omega
            · have b1 : ¬ (t : Int) < (N : Int) := by omega
              go_wp2_with (go_at_call 9; (with_reducible refine (t9 _).mono ?_); rintro e w8 ⟨rfl, HU8⟩)
              go_ret
              exact ⟨rfl, HUZ.out.trans HU8.out⟩
end Go.Proofs.Ytjklaemhfhakhaa
