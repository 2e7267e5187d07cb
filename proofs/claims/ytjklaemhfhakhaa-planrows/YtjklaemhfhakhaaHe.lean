/- PlanRows: the walk. -/
import Derived.Test.YtjklaemhfhakhaaHd
import Derived.Deep.CutBlock
namespace Go.Proofs.Ytjklaemhfhakhaa
open Go.ChangeShapes Go.WideShapes Go.ChangeAt Go.RowKit

set_option maxRecDepth 200000 in
set_option maxHeartbeats 16000000 in
theorem t6 {w : World} {p : Option Addr} {n cap : Nat} {T0 : Nat → Tk} (h : TL w p n cap T0) (hn : n ≤ 1152921504606846976) {ps : Option Addr} {ns cs : Nat} {z : Nat → Int} (hs : IL .u8 w ps ns cs z) {x : Int} (hx : 0 ≤ x ∧ x ≤ 65535) : Calls Try.prog 6 #[.slice p n cap, .slice ps ns cs, .int .u16 x] w (VU w (.bool true)) := by
  have C20 : Hid (Calls Try.prog 20 #[.slice p n cap, .int .i64 60] w (FewR w n 60)) := t20 h hn (by omega) (by omega)
  obtain ⟨N, hN⟩ : ∃ N, min n 12 = N := ⟨_, rfl⟩
  have N12 : N ≤ 12 := by omega
  unfold FewR at C20
  rw [hN] at C20
  have HSL : Hid (IL .u8 w ps ns cs z) := hs
  have fns := hs.few
  clear h hn hN hs
  obtain ⟨r6, hr6⟩ : ∃ r6, x.tmod 600 = r6 := ⟨_, rfl⟩
  have hr7 : x % 600 = r6 := by rw [← hr6, Int.tmod_eq_emod_of_nonneg hx.1]
  have hr8 : 0 ≤ r6 ∧ r6 < 600 := by omega
  obtain ⟨la, hla⟩ : ∃ la : Nat, r6 + 1 = (la : Int) := ⟨(r6 + 1).toNat, by omega⟩
  have hla2 : 1 ≤ la ∧ la ≤ 600 := by omega
  obtain ⟨hx1, hx2⟩ := hx
  obtain ⟨hr9, hr10⟩ := hr8
  go_enter Try.func6, Try.ntmps6
  go_upto_region 4 with (first
    | (go_at_call 20; (with_reducible refine C20.out.mono ?_); rintro e w1 ⟨q, c, T, rfl, HT, HMay, HU1⟩)
    | (go_at_call 10; (with_reducible refine (t10m HT.out (Nat.le_trans N12 (by omega)) (fun i hi => (HMay.out i hi).1)).mono ?_); rintro e w4 ⟨L1, rfl, HP1, HOwn1, HU4⟩))
  have HT4 : Hid (TL w4 q N c T) := HT.out.up HU4.out
  go_upto_region 7 with (go_at_call 10; (with_reducible refine (t10m HT4.out (Nat.le_trans N12 (by omega)) (fun i hi => (HMay.out i hi).1)).mono ?_); rintro e w5 ⟨L2, rfl, HP2, HOwn2, HU5⟩)
  clear hr6 hr7 hla hx1 hx2 hr9 hr10
  have HMT : Hid (∀ i, i < N → MayT (T i).e (T i).l) := fun i hi => (HMay.out i hi).1
  have HLA : Hid (1 ≤ la ∧ la ≤ 600) := hla2
  have hrun : Calls Try.prog 18 #[.pointer (some ⟨L1.bp, 0, none⟩), .int .i64 la] w5 (UntR w5 L1 N la (newP T)) := by
    have := t18 (HP1.out.pw.up HU5.out) HP1.out.ok HP1.out.pb (by omega) (la : Int) (by omega)
    rwa [show min (la : Int) 1152921504606846976 = la by omega] at this
  unfold UntR at hrun
  have hq0 : QR N T la (untilN N la 65536 (newP T)).1 (newP T) [] := QR.start HMT.out (by omega)
  have hw : Chn 0 (untilN N la 65536 (newP T)).1 la ∧ (untilN N la 65536 (newP T)).2.now = la ∧ ∀ s ∈ (untilN N la 65536 (newP T)).1, 0 ≤ s.t ∧ s.t < N := by
    have z0 : (newP T).now = 0 := rfl
    obtain ⟨i1, i2, i3, i4, i5, i6⟩ := hq0.si.until (tick := la) (by omega) 65536 (newP T) (by rw [z0]; omega) (by rw [z0]; omega)
    rw [z0] at i3
    exact ⟨i3, i2, i4⟩
  obtain ⟨⟨W, pf⟩, hU⟩ : ∃ u, untilN N la 65536 (newP T) = u := ⟨_, rfl⟩
  rw [hU] at hrun hq0 hw
  simp only at hrun hq0 hw
  have C18 : Hid (Calls Try.prog 18 #[.pointer (some ⟨L1.bp, 0, none⟩), .int .i64 la] w5 (fun e w' => ∃ pp c L', e = .returned (.slice pp W.length c) ∧ Hid (SO w5.heap.size w' (.slice pp W.length c) W) ∧ Hid (PW w' L' N pf) ∧ Hid (PB N pf) ∧ Hid (Kept N w5 w' L1 L'))) := hrun
  have HQ0 : Hid (QR N T la W (newP T) []) := hq0
  have HW : Hid (Chn 0 W la ∧ pf.now = la ∧ ∀ s ∈ W, 0 ≤ s.t ∧ s.t < N) := hw
  clear hrun hq0 hw hU
  go_upto_region 8 with (go_at_call 18; (with_reducible refine C18.out.mono ?_); rintro e w6 ⟨pp, c6, L3, rfl, HSO, HPW, HPB, HK⟩)
  have HSR0 : Hid (SR N T la W w4.heap.size w5.heap.size w6 L2.bp (.slice none 0 0) [] (newP T) w6) := by
    have hlt : ∀ b, L1.Own N b → b < w4.heap.size := fun b hb => HP1.out.pw.own_lt hb
    refine ⟨⟨L2, ⟨HP2.out.pw.kp HK.out.kp (fun b hb hq => ?_), HP2.out.ok, HP2.out.pb⟩, rfl, fun b hb => ⟨HOwn2.out b hb, HP2.out.pw.own_lt hb⟩⟩, SO.nil _ _, ⟨HK.out.kp.size, Nat.le_refl _⟩, Kp.refl _ _, HQ0.out⟩
    have := hlt b hq
    have := HOwn2.out b hb
    omega
  have HU6 : Hid (Up w w6) := HK.out.upw (HU1.out.trans (HU4.out.trans HU5.out)) (fun b hb => Nat.le_trans HU1.out.size (HOwn1.out b hb))
  have HPF : Hid (PU w6 L3 N pf ∧ L3.bp = L1.bp ∧ ∀ b, L3.Own N b → b < w4.heap.size) := ⟨⟨HPW.out, HK.out.ok, HPB.out⟩, HK.out.bp, fun b hb => HP1.out.pw.own_lt (HK.out.own b hb)⟩
  have HLO : Hid (w.heap.size ≤ w4.heap.size) := (HU1.out.trans HU4.out).size
  have HSO6 : Hid (SO w5.heap.size w6 (.slice pp W.length c6) W) := HSO
  clear HSO HPW HPB HK HP1 HP2 HOwn1 HOwn2 HU1 HU4 HU5 C18 C20 HT HT4 HMay HMT HQ0
  generalize w4.heap.size = lo at *
  generalize w5.heap.size = B at *
  generalize L1.bp = bp1 at *
  generalize L2.bp = bp2 at *
  go_upto_block 0 with fail
  go_cut [14, 15, 16] from 56 to 81 (fun v14 _ _ wx => ∃ (ln cap : Nat) (pz : Option Addr) (D : List Sl) (p : Pl), v14 = .slice pz ln cap ∧ ln ≤ 1000 ∧ Hid (SR N T la W lo B w6 bp2 (.slice pz ln cap) D p wx))
  case first =>
    go_wp2_with fail
    go_loopw [14, 15, 16] (fun v14 v15 v16 wr => ∃ (k ln cap : Nat) (at' : Int) (pz : Option Addr) (D : List Sl) (p : Pl), k ≤ ns ∧ ln ≤ 1000 ∧ v16 = .int .i64 k ∧ v15 = .int .i64 at' ∧ v14 = .slice pz ln cap ∧ Hid (p.now = at') ∧ Hid (SR N T la W lo B w6 bp2 (.slice pz ln cap) D p wr)) (fun _ _ v16 _ => ns - (intOf v16).toNat)
    case atStart => exact ⟨0, 0, 0, 0, none, [], newP T, by omega, by omega, rfl, rfl, rfl, rfl, HSR0⟩
    case round =>
      clear HSR0
      obtain ⟨k, ln, cap, at', pz, D, p', hk, hln, rfl, rfl, rfl, HNOW, HSR⟩ := hrel
      rename World => wr
      have y0 : (0 : Int) ≤ (k : Int) := by omega
      have hnb := HSR.out.qs.now
      rw [HNOW.out] at hnb
      by_cases hkn : k < ns
      · have b1 : (k : Int) < (ns : Int) := by omega
        by_cases hal : at' < (la : Int)
        · have b2 : at' < (la : Int) := hal
          obtain ⟨gb, o, hpp, hr⟩ := HSL.out.rd (by omega)
          have hc := cell_up (hr k hkn) HU6.out
          have lgb := World.block_lt_of_cell? w _ (hr k hkn)
          simp only at lgb
          have c0 := HSR.out.kp.cell (by have := HLO.out; show ¬ (lo ≤ gb ∧ gb < B); omega) hc
          have yw := u8_wf (HSL.out.wf k hkn)
          generalize z k = y at *
          subst hpp
          clear hr hc lgb
          obtain ⟨r4, hr4⟩ : ∃ r4, y.tmod 40 = r4 := ⟨_, rfl⟩
          have hr5 : y % 40 = r4 := by rw [← hr4, Int.tmod_eq_emod_of_nonneg yw.1]
          obtain ⟨r40, r41⟩ : 0 ≤ r4 ∧ r4 < 40 := by omega
          obtain ⟨yw1, yw2⟩ := yw
          have HLA1 := HLA.out
          have C18 : ∀ x, Hid (at' ≤ x → x ≤ (la : Int) → Calls Try.prog 18 #[.pointer (some ⟨bp2, 0, none⟩), .int .i64 x] wr (fun e w' => ∃ qq len c2 S p2, e = .returned (.slice qq len c2) ∧ Hid (SX N T la W lo B w6 bp2 (.slice pz ln cap) (.slice qq len c2) D S p2 w') ∧ Hid (p2.now = x) ∧ Hid (ln + len ≤ 1000) ∧ Hid (x = la → ∀ y, tkA (D ++ S) y = tkA W y))) := fun x u v => HSR.out.at18 N12 (by omega) (by rw [HNOW.out]; exact u) v
          go_wp2_with (first
            | (go_at_call 18; (with_reducible refine ((C18 _).out (by omega) (by omega)).mono ?_); rintro e w8 ⟨qq, len, c2, S, p2, rfl, HSX, HNX, HLX, -⟩)
            | (at_builtin; (with_reducible refine wpList_app_so rfl _ _ rfl w6.heap.size w6.heap.size ln cap pz qq len c2 D S rfl rfl HSX.out.so HSX.out.so2 (by have := HLX.out; omega) HSX.out.bse.2 ?_); intro p5 c5 w9 HS9 HG9))
          all_goals
            go_roundw
            case rel => exact ⟨k + 1, ln + len, c5, _, p5, D ++ S, p2, by omega, HLX.out, by go_num, rfl, rfl, HNX, HSX.out.app HS9 HG9⟩
            case measure => simp [intOf]; omega
        · have b2 : ¬ at' < (la : Int) := hal
          go_wp2_with fail
          go_meet
          case rel => exact ⟨ln, cap, pz, D, p', rfl, hln, HSR⟩
      · have b1 : ¬ (k : Int) < (ns : Int) := by omega
        go_wp2_with fail
        go_meet
        case rel => exact ⟨ln, cap, pz, D, p', rfl, hln, HSR⟩
  case rest =>
    clear HSR0
    obtain ⟨ln, cap, pz, D, p', rfl, hln, HSR⟩ := hcut
    rename World => wr
    have hnb := HSR.out.qs.now
    have HLA1 := HLA.out
    have C18 : Hid (Calls Try.prog 18 #[.pointer (some ⟨bp2, 0, none⟩), .int .i64 la] wr (fun e w' => ∃ qq len c2 S p2, e = .returned (.slice qq len c2) ∧ Hid (SX N T la W lo B w6 bp2 (.slice pz ln cap) (.slice qq len c2) D S p2 w') ∧ Hid (p2.now = la) ∧ Hid (ln + len ≤ 1000) ∧ Hid ((la : Int) = la → ∀ y, tkA (D ++ S) y = tkA W y))) := HSR.out.at18 N12 (by omega) hnb.2 (Int.le_refl _)
    clear hnb
    go_upto_region 16 with (first
      | (go_at_call 18; (with_reducible refine C18.out.mono ?_); rintro e w8 ⟨qq, len, c2, S, p2, rfl, HSX, HNX, HLX, HEQ⟩)
      | (at_builtin; (with_reducible refine wpList_app_so rfl _ _ rfl w6.heap.size w6.heap.size ln cap pz qq len c2 D S rfl rfl HSX.out.so HSX.out.so2 (by have := HLX.out; omega) HSX.out.bse.2 ?_); intro p5 c5 w9 HS9 HG9))
    have HSF0 := HSX.out.app HS9 HG9
    have HTE := HEQ.out (by first | rfl | trivial)
    generalize D ++ S = DD at *
    have HLM := HLX.out
    generalize ln + len = m at *
    have HSF : Hid (SR N T la W lo B w6 bp2 (.slice p5 m c5) DD p2 w9) := HSF0
    have HTS : Hid (∀ y, tkA DD y = tkA W y) := HTE
    clear HSF0 HTE HEQ HS9 HG9 HSX HSR C18
    have HSOW : Hid (SO B w9 (.slice pp W.length c6) W) := HSO6.out.kp HSF.out.kp (fun r hr => by
      have := (World.ownsRow.lt HSO6.out r hr).1
      show ¬ (lo ≤ r ∧ r < B)
      omega)
    have HU9 : Hid (Up w w9) := by
      have k1 : Kp (fun b => b < w.heap.size) w w9 := (Kp.of_up HU6.out).two HSF.out.kp (fun b hb _ => by have := HLO.out; show ¬ (lo ≤ b ∧ b < B); omega)
      exact k1.up fun b hb => hb
    have HPF9 : Hid (PW w9 L3 N pf ∧ L3.bp = bp1) := by
      obtain ⟨k1, k2, k3⟩ := HPF.out
      exact ⟨k1.pw.kp HSF.out.kp (fun b hb => by have := k3 b hb; show ¬ (lo ≤ b ∧ b < B); omega), k2⟩
    obtain ⟨HC1, HC2, HC3⟩ := HW.out
    have HLW : Hid (W.length ≤ la) := by have := HC1.len; show W.length ≤ la; omega
    have HW3 : Hid (∀ s ∈ W, 0 ≤ s.t ∧ s.t < N) := HC3
    have HSW : Hid (0 < W.length → ∃ g, pp = some ⟨g, 0, none⟩ ∧ ∀ i, i < W.length → SlAt w9 g (i * 4) (W.getD i Sl.zero)) := by
      intro h0
      obtain ⟨g, e1, _, _, e4⟩ := HSOW.out.sl h0
      exact ⟨g, e1, e4⟩
    have HWD : Hid (∀ i, i < W.length → W.getD i Sl.zero ∈ W) := fun i hi => by
      rw [List.getD_eq_getElem?_getD, List.getElem?_eq_getElem hi]
      exact List.getElem_mem hi
    have C21a : Hid (Calls Try.prog 21 #[.slice pp W.length c6, .int .i64 la] w9 (TicR w9 la W)) := t21 HSOW.out (E := la) (by omega) HC1
    have HCD : Hid (Chn 0 DD la) := by have := HSF.out.qs.ch; rwa [HNX.out] at this
    have HNF : Hid (pf.now = la) := HC2
    clear HC1 HC2 HC3 HSOW HPF
    have hlw := HLW.out
    generalize W.length = lw at *
    go_upto_region 17 with (go_at_call 21; (with_reducible refine C21a.out.mono ?_); rintro e w10 ⟨g1, rfl, HTK1⟩)
    have C21b : Hid (Calls Try.prog 21 #[.slice p5 m c5, .int .i64 la] w10 (TicR w10 la DD)) := t21 (HSF.out.so.up HTK1.out.up) (E := la) (by omega) HCD.out
    go_upto_region 18 with (go_at_call 21; (with_reducible refine C21b.out.mono ?_); rintro e w11 ⟨g2, rfl, HTK2⟩)
    have HUa : Hid (Up w9 w11) := HTK1.out.up.trans HTK2.out.up
    have C15p : Hid (Calls Try.prog 15 #[.pointer (some ⟨bp1, 0, none⟩)] w11 (fun e w' => e = .returned (.int .i64 la) ∧ w' = w11)) := by
      obtain ⟨k1, k2⟩ := HPF9.out
      have := t15 (k1.up HUa.out)
      rw [k2, HNF.out] at this
      exact this
    have C15q : Hid (Calls Try.prog 15 #[.pointer (some ⟨bp2, 0, none⟩)] w11 (fun e w' => e = .returned (.int .i64 la) ∧ w' = w11)) := by
      obtain ⟨Lq, k1, k2, k3⟩ := HSF.out.pl
      have := t15 (k1.pw.up HUa.out)
      rw [k2, HNX.out] at this
      exact this
    have HK1 : Hid (TK w9 g1 la (fun k => tkA W (k : Int)) w11) := HTK1.out.upp HTK2.out.up
    have HK2 : Hid (TK w10 g2 la (fun k => tkA W (k : Int)) w11) := HTK2.out.congr (fun k _ => HTS.out _)
    have HU11 : Hid (Up w w11) := HU9.out.trans HUa.out
    clear C21a C21b HTK1 HTK2 HTS HSF HPF9 HNX HNF HCD
    go_wp2_with (first
      | (go_at_call 15; (with_reducible refine C15p.out.mono ?_); rintro e w12 ⟨rfl, hw12⟩; subst w12)
      | (go_at_call 15; (with_reducible refine C15q.out.mono ?_); rintro e w12 ⟨rfl, hw12⟩; subst w12))
    clear C15p C15q
    go_loopw [21] (fun v21 wr => ∃ j : Nat, j ≤ la ∧ v21 = .int .i64 j ∧ Hid (Up w11 wr)) (fun v21 _ => la - (intOf v21).toNat)
    case atStart => exact ⟨0, by omega, rfl, Up.refl _⟩
    case round =>
      obtain ⟨j, hj, rfl, HUV⟩ := hrel
      rename World => wv
      have y0 : (0 : Int) ≤ (j : Int) := by omega
      by_cases hjl : j < la
      · have b1 : (j : Int) < (la : Int) := by omega
        have c1 := cell_up (HK1.out.c j hjl) HUV.out
        have c2 := cell_up (HK2.out.c j hjl) HUV.out
        generalize tkA W (j : Int) = tv at *
        go_upto_region 23 with fail
        go_quiet (fail)
        go_wp2_with fail
        go_roundw
        case rel => exact ⟨j + 1, by omega, by go_num, HUV.out.trans (Up.drewN _ _)⟩
        case measure => simp [intOf]; omega
      · have b1 : ¬ (j : Int) < (la : Int) := by omega
        go_wp2_with fail
        go_loopw [22] (fun v22 wr => ∃ i : Nat, 1 ≤ i ∧ i ≤ lw + 1 ∧ v22 = .int .i64 i ∧ Hid (Up w11 wr)) (fun v22 _ => lw + 1 - (intOf v22).toNat)
        case atStart => exact ⟨1, by omega, by omega, rfl, HUV⟩
        case round =>
          clear HUV
          obtain ⟨i, hi1, hi2, rfl, HUV⟩ := hrel
          rename World => wx
          have y1 : (0 : Int) ≤ (i : Int) := by omega
          by_cases hil : i < lw
          · have b2 : (i : Int) < (lw : Int) := by omega
            obtain ⟨gw, hpp, hsl⟩ := HSW.out (by omega)
            obtain ⟨x0, -, -, -⟩ := (hsl i hil).up (HUa.out.trans HUV.out)
            have hts := HW3.out _ (HWD.out i hil)
            generalize W.getD i Sl.zero = s at *
            obtain ⟨st, sf, se, sl⟩ := s
            simp only at x0 hts
            have d1 : ¬ st < 0 := by omega
            have d2 : ¬ (N : Int) ≤ st := by omega
            subst hpp
            clear hts
            go_wp2_with fail
            go_roundw
            case rel => exact ⟨i + 1, by omega, by omega, by go_num, HUV⟩
            case measure => simp [intOf]; omega
          · have b2 : ¬ (i : Int) < (lw : Int) := by omega
            go_wp2_with (go_at_call 9; (with_reducible refine (t9 _).mono ?_); rintro e w13 ⟨rfl, HU13⟩)
            go_ret
            exact ⟨rfl, HU11.out.trans (HUV.out.trans HU13.out)⟩
end Go.Proofs.Ytjklaemhfhakhaa
