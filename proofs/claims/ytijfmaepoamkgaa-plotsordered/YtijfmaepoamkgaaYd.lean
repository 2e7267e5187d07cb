/- PlotsOrdered, walked. -/
import Derived.Test.YtijfmaepoamkgaaYc
import Derived.BigQuiet
namespace Go.Proofs.Ytijfmaepoamkgaa
open Go.ChangeShapes Go.WideShapes Go.ChangeAt Go.RowKit Go.Fl Go.Sort
attribute [local go_sem] run_store_float call53 run_neg fold_eq fold_ne fold_lt fold_gt abs_eq

set_option maxRecDepth 20000 in
set_option maxHeartbeats 8000000 in
theorem t8 {w : World} {p : Option Addr} {n cap : Nat} {by_ : Int} {P : Nat → Plt} (hc : n ≤ cap) (hV : n ≤ 200 → PV w p n cap P) : Calls Try.prog 8 #[.slice p n cap, .int .i64 by_] w fun e w' => e = .returned (.bool true) ∧ Hid (Up w w') := by
  by_cases hn : n ≤ 200
  case neg =>
    have hn2 : (200 : Int) < n := by omega
    clear hV hc
    go_enter Try.func8, Try.ntmps8
    go_wp2_with (go_at_call 12; (with_reducible refine (t12 _).mono ?_); rintro e w9 ⟨rfl, HU9⟩)
    go_ret
    exact ⟨rfl, HU9⟩
  have HV : Hid (PV w p n cap P) := hV hn
  have hn2 : ¬ (200 : Int) < n := by omega
  clear hV
  obtain ⟨i3, hi3, hz0, hz1, hz2⟩ := info_parts info3
  obtain ⟨i28, hi28, y0, y1, y2⟩ := info_parts info28
  have CO : Hid (Calls Try.prog 17 #[.slice p n cap] w (OrdR w P n)) := t17 HV.out
  go_enter Try.func8, Try.ntmps8
  go_wp2_with (first
    | (go_at_call 17; (with_reducible refine CO.out.mono ?_); rintro e w1 ⟨po, co, o, rfl, HO⟩)
    | (refine wpList_make_full _ rfl _ _ 45 rfl 0 3 i3 (.int .i64 0) 1 Try.underlying45 hi3 hz0 hz1 .i64 .i64 _ _ n rfl rfl rfl rfl (by rw [hz2]; omega) (by unfold maxLen; omega) (by omega) ?_; intro w2 hown hgr
       have HL : Hid (L1 w w2 w1.heap.size n o po co (.slice none 0 0) P 0 0 (List.replicate n 0)) := L1.start HO.out.2.2 HO.out.2.1 rfl hown hgr
       clear hown hgr))
  clear CO
  generalize w1.heap.size = g at *
  have HIO : Hid (InOrd P n o) := HO.out.1
  clear HO
  have hol : o.length = n := HIO.out.length
  have HOL : Hid (o.length = n) := hol
  clear hol
  go_loopw [4, 7, 8] (fun _ v7 v8 wr => ∃ (i : Nat) (q : Option Addr) (c : Nat) (H : List Nat), i ≤ n ∧ v7 = .slice q i c ∧ v8 = .int .i64 i ∧ Hid (L1 w wr g n o po co (.slice q i c) P i i H)) (fun _ _ v8 _ => n - (intOf v8).toNat)
  case atStart => exact ⟨0, none, 0, List.replicate n 0, by omega, rfl, rfl, HL⟩
  case round =>
    clear HL
    obtain ⟨i, q, c, H, hi, rfl, rfl, HL⟩ := hrel
    rename World => wr
    by_cases hlt : i < n
    · obtain ⟨og, hog⟩ : ∃ g, po = some ⟨g, 0, none⟩ := by
        obtain ⟨p', c', e1, e2⟩ := OR.form HL.out.ord
        simp only [Value.slice.injEq] at e1
        rw [e1.1]
        exact e2 (by have := HOL.out; omega)
      subst hog
      have hio : i < o.length := by rw [HOL.out]; exact hlt
      have c1 := OR.cell HL.out.ord hio
      have kn := HIO.out.at hlt
      have hnk : ∀ j, j < i → o[j]! ≠ o[i]! := fun j hj => HIO.out.ne hj hlt
      have hprev : ∀ m, i = m + 1 → rk (P o[m]!) ≤ rk (P o[i]!) := fun m hm => HIO.out.le (by omega) (by omega) hlt
      have hpm : ∀ m, i = m + 1 → o[m]! < n := fun m hm => HIO.out.at (by omega)
      have HPv : Hid (∀ m, i = m + 1 → rk (P o[m]!) ≤ rk (P o[i]!)) := hprev
      generalize hk : o[i]! = k at *
      have hH0 := HL.out.hH k kn
      have hnot : k ∉ o.take i := by
        intro hm
        obtain ⟨j, hj, e⟩ := List.getElem_of_mem hm
        have hj2 : j < i := by simp at hj; omega
        refine hnk j hj2 ?_
        rw [getElem!_pos o j (by omega)]
        simpa using e
      rw [if_neg hnot] at hH0
      have hHl := OR.len HL.out.had
      have c2 := OR.cell HL.out.had (i := k) (by omega)
      rw [hH0] at c2
      have fz := OR.frz HL.out.had k
      unfold nv at c1 c2
      have HN : Hid (L1 w (wr.setCell ⟨g, k, none⟩ (.int .i64 1)) g n o (some ⟨og, 0, none⟩) co (.slice q i c) P (i + 1) i (H.set k 1)) := HL.out.put HIO.out hlt hk
      have c3 := OR.cell HN.out.ord hio
      rw [hk] at c3
      unfold nv at c3
      obtain ⟨b, off, rfl, hP⟩ := HV.out.rd (by omega)
      have HP : Hid (∀ i, i < n → P5 w b (off + i * 5) (P i)) := hP
      obtain ⟨a0, a1, a2, a3, a4⟩ := (hP k kn).up HN.out.up
      have hsl : ((o.take i).map P).length = i := by rw [List.length_map, List.length_take]; omega
      have HOw : Hid ((wr.setCell ⟨g, k, none⟩ (.int .i64 1)).ownsRow (g + 1) 28 5 (.slice q i c) i (fl5 ((o.take i).map P))) := by
        have := HN.out.srt
        unfold PO at this
        rwa [hsl] at this
      have HK : Hid (o[i]! = k) := hk
      have HSL : Hid (((o.take i).map P).length = i) := hsl
      have hgb : g + 1 ≤ (wr.setCell ⟨g, k, none⟩ (.int .i64 1)).heap.size := by have := (OR.at_ HN.out.had).2; omega
      have kn2 : (k : Int) < n := by omega
      have hgb2 : g + 1 ≤ wr.heap.size := by have := (OR.at_ HL.out.had).2; omega
      have hk0 : ¬ (k : Int) < 0 := by omega
      have HIo : Hid (i < o.length) := hio
      have HF5 : Hid (∀ (j : Nat) (u : Value), (pL (P k))[j]? = some u → ((wr.setCell ⟨g, k, none⟩ (.int .i64 1)).alloc (.cells #[.float .f64 (P k).r, .float .f64 (P k).s, .float .f64 (P k).p, .float .f64 (P k).b, .float .f64 (P k).t] 28)).cell? ((⟨wr.heap.size, 0, none⟩ : Addr).add j) = some u) := fun j u hu => by
        have := five_new (wr.setCell ⟨g, k, none⟩ (.int .i64 1)) (P k) 28 j u hu
        rwa [show (wr.setCell ⟨g, k, none⟩ (.int .i64 1)).heap.size = wr.heap.size by simp] at this
      clear hP hsl hk hio hnot hnk hH0 hHl hprev hpm
      go_wp2_with (first | (at_builtin; refine wpList_append_own _ rfl _ _ 44 rfl (g + 1) 28 i28 (.agg #[.float .f64 0, .float .f64 0, .float .f64 0, .float .f64 0, .float .f64 0]) 5 40 Try.underlying44 hi28 y0 y1 y2 rfl (by decide) _ _ _ rfl (HOw.out.alloc _) ⟨wr.heap.size, 0, none⟩ 1 1 (pL (P k)) rfl rfl HF5.out (five_one _) (by unfold maxLen; omega) (by omega) (by simp; omega) ?_; intro v4 w4 hown4 hgrow4 hnil4; (obtain ⟨q4, c4, hv4, -⟩ := own_form hown4); subst hv4; (have HN4 : Hid (L1 w w4 g n o (some ⟨og, 0, none⟩) co (.slice q4 (i + 1) c4) P (i + 1) (i + 1) (H.set k 1)) := HN.out.app HIo.out HK.out (Up.alloc _ _) (by rw [HSL.out]; exact hown4) hgrow4); clear hown4 hgrow4 hnil4))
      rcases Nat.eq_zero_or_pos i with hi0 | hpos
      · have h3 : decide ((0 : Int) < (i : Int)) = false := by simp; omega
        have h3' : decide (0 < i) = false := by simp; omega
        have h3n : ¬ (0 : Int) < (i : Int) := by omega
        clear hi0
        go_quiet (fail)
        all_goals (try go_wp2)
        go_roundw
        case rel => exact ⟨i + 1, _, _, H.set k 1, by omega, rfl, by go_num, HN4.out.upon (Up.drewN _ _)⟩
        case measure => simp [intOf]; omega
      · obtain ⟨m, hm⟩ : ∃ m, i = m + 1 := ⟨i - 1, by omega⟩
        have hm1 : (i : Int) - 1 = (m : Int) := by omega
        have h3 : decide ((0 : Int) < (i : Int)) = true := by simp; omega
        have h3' : decide (0 < i) = true := by simp; omega
        have hml : (m : Int) < (i + 1 : Nat) := by omega
        have hil : (i : Int) < (i + 1 : Nat) := by omega
        have hle := HPv.out m hm
        have hkm : o[m]! < n := HIO.out.at (by omega)
        have hol := HOL.out
        have hkk := HK.out
        obtain ⟨gs, hgs, _, _, s5⟩ := HN4.out.srt.at (i := i) (by rw [List.length_map, List.length_take]; omega)
        subst hgs
        obtain ⟨gs', hgs', _, _, s6⟩ := HN4.out.srt.at (i := m) (by rw [List.length_map, List.length_take]; omega)
        simp only [Option.some.injEq, Addr.mk.injEq] at hgs'
        obtain ⟨rfl, -, -⟩ := hgs'
        rw [map_getD (by rw [List.length_take]; omega), take_at (by omega), hkk] at s5
        rw [map_getD (by rw [List.length_take]; omega), take_at (by omega)] at s6
        generalize hk' : o[m]! = k' at *
        obtain ⟨hgt, hnn⟩ := fall_le (HV.out.fit k' hkm).p (HV.out.fit k kn).p (rk_fall (HV.out.fit k' hkm) (HV.out.fit k kn) hle)
        have l1 := s5.c2
        have l2 := s6.c2
        clear s5 s6 hle hk' hkk hm hpos hol
        cases hN : isN (P k').p
        · have h4 : gtF (ab (P k).p) (ab (P k').p) = false := hgt
          have h5 : eqF (ab (P k').p) (ab (P k').p) = true := by rw [eqF_self, hN]; rfl
          generalize (P k).p = kp at *
          generalize (P k').p = kq at *
          clear hN hgt hnn
          go_quiet (fail)
          all_goals (try go_wp2)
          go_roundw
          case rel => exact ⟨i + 1, _, _, H.set k 1, by omega, rfl, by go_num, HN4.out.upon (Up.drewN _ _)⟩
          case measure => simp [intOf]; omega
        · have h4 : gtF (ab (P k).p) (ab (P k').p) = false := hgt
          have h5 : eqF (ab (P k').p) (ab (P k').p) = false := by rw [eqF_self, hN]; rfl
          have h6 : eqF (ab (P k).p) (ab (P k).p) = false := by rw [eqF_self, hnn hN]; rfl
          generalize (P k).p = kp at *
          generalize (P k').p = kq at *
          clear hN hgt hnn
          go_quiet (fail)
          all_goals (try go_wp2)
          go_roundw
          case rel => exact ⟨i + 1, _, _, H.set k 1, by omega, rfl, by go_num, HN4.out.upon (Up.drewN _ _)⟩
          case measure => simp [intOf]; omega
    · obtain rfl : i = n := by omega
      have HS : Hid (PV wr q i c (fun j => P o[j]!)) := HL.out.sorted HIO.out (by omega) HV.out.fit
      have HUw : Hid (Up w wr) := HL.out.up
      have CO2 : Hid (Calls Try.prog 17 #[.slice q i c] wr (OrdR wr (fun j => P o[j]!) i)) := t17 HS.out
      go_wp2_with (go_at_call 17; (with_reducible refine CO2.out.mono ?_); rintro e w3 ⟨pa, ca, oa, rfl, HA⟩)
      have HAe : Hid (oa = List.range i) := HA.out.1.uniq (HIO.out.again (by omega))
      have HA2 : Hid (OPl 0 w3 (.slice pa i ca) (List.range i)) := by
        have h := OR.base (b' := 0) HA.out.2.1 (Nat.zero_le _)
        rw [HAe.out] at h
        exact h
      have HU3 : Hid (Up w w3) := HUw.out.trans HA.out.2.2
      have HS3 : Hid (PV w3 q i c (fun j => P o[j]!)) := HS.out.up HA.out.2.2
      clear CO2 HS HL HA HAe
      go_loopw [4, 10] (fun _ v10 wx => ∃ j : Nat, j ≤ i ∧ v10 = .int .i64 j ∧ Hid (Up w3 wx)) (fun _ v10 _ => i - (intOf v10).toNat)
      case atStart => exact ⟨0, by omega, rfl, Up.refl _⟩
      case round =>
        obtain ⟨j, hj, rfl, HX⟩ := hrel
        rename World => wx
        by_cases hlj : j < i
        · obtain ⟨ag, hag⟩ : ∃ g, pa = some ⟨g, 0, none⟩ := by
            obtain ⟨p', c', e1, e2⟩ := OR.form HA2.out
            simp only [Value.slice.injEq] at e1
            rw [e1.1]
            exact e2 (by simp; omega)
          subst hag
          have z0 := OR.cell (OR.up HA2.out HX.out) (i := j) (by simpa using hlj)
          rw [range_at hlj] at z0
          unfold nv at z0
          have hji : (j : Int) < i := by omega
          go_wp2
          go_roundw
          case rel => exact ⟨j + 1, by omega, by go_num, HX⟩
          case measure => simp [intOf]; omega
        · go_wp2_with fail
          obtain rfl : j = i := by omega
          obtain ⟨cc, hcc⟩ : ∃ cc, cc = (by_.tmod j + j).toNat % j := ⟨_, rfl⟩
          have HC : Hid (∀ m, m < j → ((((m : Int) + by_.tmod j) + j).tmod j) = (((m + cc) % j : Nat) : Int)) := fun m hm => by rw [hcc]; exact turn_at hm hn
          have HCl : Hid (0 < j → cc ≤ j) := fun h => by rw [hcc]; exact Nat.le_of_lt (Nat.mod_lt _ h)
          clear hcc
          have HUx : Hid (Up w wx) := HU3.out.trans HX.out
          have HSx : Hid (PV wx q j c (fun j => P o[j]!)) := HS3.out.up HX.out
          clear HA2 HS3 HU3 HX
          go_loopw [11, 12] (fun v11 v12 wy => ∃ (m : Nat) (q3 : Option Addr) (c3 : Nat), m ≤ j ∧ v11 = .slice q3 m c3 ∧ v12 = .int .i64 m ∧ Hid (L3 wx wy (.slice q3 m c3) (fun k => P ((k + cc) % j)) m)) (fun _ v12 _ => j - (intOf v12).toNat)
          case atStart => exact ⟨0, none, 0, by omega, rfl, rfl, Up.refl _, by simpa using PO.nil _ _⟩
          case round =>
            obtain ⟨m, q3, c3, hm, rfl, rfl, HT⟩ := hrel
            rename World => wy
            by_cases hlm : m < j
            · obtain ⟨b, off, rfl, hP⟩ := HV.out.rd (by omega)
              have hkn : (m + cc) % j < j := Nat.mod_lt _ (by omega)
              have hcm := HC.out m hlm
              obtain ⟨a0, a1, a2, a3, a4⟩ := (hP _ hkn).up (HUx.out.trans HT.out.up)
              have HSL : Hid (((List.range m).map fun k => P ((k + cc) % j)).length = m) := by show _ = _; simp
              have HOw : Hid (wy.ownsRow wx.heap.size 28 5 (.slice q3 m c3) m (fl5 ((List.range m).map fun k => P ((k + cc) % j)))) := by
                have := HT.out.row
                unfold PO at this
                rwa [HSL.out] at this
              have hw1 : wx.heap.size ≤ wy.heap.size := HT.out.up.size
              have HP : Hid (∀ i, i < j → P5 w b (off + i * 5) (P i)) := hP
              clear hP
              obtain ⟨t1, t2⟩ := tmod_in (b := by_) (n := j) (by omega)
              have hj0 : ¬ (j : Int) = 0 := by omega
              have hml : (m : Int) < j := by omega
              generalize hke : (m + cc) % j = k at *
              have HKe : Hid ((m + cc) % j = k) := hke
              clear hke
              have hkn2 : (k : Int) < j := by omega
              go_wp2_with (first | (at_builtin; refine wpList_append_own _ rfl _ _ 44 rfl wx.heap.size 28 i28 (.agg #[.float .f64 0, .float .f64 0, .float .f64 0, .float .f64 0, .float .f64 0]) 5 40 Try.underlying44 hi28 y0 y1 y2 rfl (by decide) _ _ _ rfl (HOw.out.alloc _) ⟨wy.heap.size, 0, none⟩ 1 1 (pL (P k)) rfl rfl (five_new _ _ _) (five_one _) (by unfold maxLen; omega) (by omega) (by simp; omega) ?_; intro v4 w4 hown4 hgrow4 hnil4; (obtain ⟨q4, c4, hv4, -⟩ := own_form hown4); subst hv4; (have HN4 : Hid (L3 wx w4 (.slice q4 (m + 1) c4) (fun k => P ((k + cc) % j)) (m + 1)) := HT.out.app (Up.alloc _ _) (by show World.ownsRow _ _ _ _ _ _ (_ ++ pL (P ((m + cc) % j))); rw [HSL.out, HKe.out]; exact hown4) hgrow4); clear hown4 hgrow4 hnil4))
              go_roundw
              case rel => exact ⟨m + 1, _, _, by omega, rfl, by go_num, HN4⟩
              case measure => simp [intOf]; omega
            · obtain rfl : m = j := by omega
              have HTf : Hid (∀ k, k < m → (P ((k + cc) % m)).Fit) := fun k hk => HV.out.fit _ (Nat.mod_lt _ (by omega))
              have HTv : Hid (PV wy q3 m c3 (fun k => P ((k + cc) % m))) := HT.out.turned (by omega) HTf.out
              have CO3 : Hid (Calls Try.prog 17 #[.slice q3 m c3] wy (OrdR wy (fun k => P ((k + cc) % m)) m)) := t17 HTv.out
              have HUy : Hid (Up wx wy) := HT.out.up
              clear HT
              go_wp2_with (go_at_call 17; (with_reducible refine CO3.out.mono ?_); rintro e w6 ⟨pt, ct, ot, rfl, HB⟩)
              have HU6 : Hid (Up w w6) := HUx.out.trans (HUy.out.trans HB.out.2.2)
              have HS6 : Hid (PV w6 q m c (fun j => P o[j]!)) := HSx.out.up (HUy.out.trans HB.out.2.2)
              have HT6 : Hid (PV w6 q3 m c3 (fun k => P ((k + cc) % m))) := HTv.out.up HB.out.2.2
              have HB2 : Hid (OPl 0 w6 (.slice pt m ct) ot) := OR.base HB.out.2.1 (Nat.zero_le _)
              have HBi : Hid (InOrd (fun k => P ((k + cc) % m)) m ot) := HB.out.1
              clear CO3 HB HTv HSx HUx HUy
              go_loopw [4, 14] (fun _ v14 wz => ∃ j : Nat, j ≤ m ∧ v14 = .int .i64 j ∧ Hid (Up w6 wz)) (fun _ v14 _ => m - (intOf v14).toNat)
              case atStart => exact ⟨0, by omega, rfl, Up.refl _⟩
              case round =>
                obtain ⟨j, hj, rfl, HZ⟩ := hrel
                rename World => wz
                by_cases hlj : j < m
                · obtain ⟨tg, htg⟩ : ∃ g, pt = some ⟨g, 0, none⟩ := by
                    obtain ⟨p', c', e1, e2⟩ := OR.form HB2.out
                    simp only [Value.slice.injEq] at e1
                    rw [e1.1]
                    exact e2 (by rw [HBi.out.length]; omega)
                  subst htg
                  have z0 := OR.cell (OR.up HB2.out HZ.out) (i := j) (by rw [HBi.out.length]; exact hlj)
                  have kn := HBi.out.at hlj
                  have hrk := turned_same (HCl.out (by omega)) HIO.out HBi.out (by omega) hlj
                  generalize ot[j]! = k at *
                  unfold nv at z0
                  obtain ⟨hb, ho, rfl, hPt⟩ := HT6.out.rd (by omega)
                  obtain ⟨sb, so, rfl, hPs⟩ := HS6.out.rd (by omega)
                  have h5 := (hPt k kn).up HZ.out
                  have h6 := (hPs j hlj).up HZ.out
                  have f5 := HTf.out k kn
                  have f6 := HV.out.fit _ (HIO.out.at hlj)
                  generalize P ((k + cc) % m) = d at *
                  generalize P o[j]! = e5 at *
                  have C25 : Hid (∀ W, Calls Try.prog 25 #[.agg #[.float .f64 d.r, .float .f64 d.s, .float .f64 d.p, .float .f64 d.b, .float .f64 d.t], .agg #[.float .f64 e5.r, .float .f64 e5.s, .float .f64 e5.p, .float .f64 e5.b, .float .f64 e5.t]] W fun e w' => e = .returned (.bool true) ∧ Hid (Up W w')) := fun W => t25 hrk f5 f6 W
                  have HSS : Hid (wz.drew.cell? ⟨tg, j, none⟩ = some (.int .i64 k) ∧ P5 wz.drew hb (ho + k * 5) d ∧ P5 wz.drew sb (so + j * 5) e5) := ⟨cell_up z0 (Up.drew _), h5.up (Up.drew _), h6.up (Up.drew _)⟩
                  have kn2 : (k : Int) < m := by omega
                  have hk0 : ¬ (k : Int) < 0 := by omega
                  have hkm : ¬ (m : Int) ≤ k := by omega
                  have hjm : (j : Int) < m := by omega
                  clear z0 h5 h6 hrk f5 f6 hPt hPs
                  go_wp2_with fail
                  refine wp_region_shut 26 [(0, none), (1, none), (2, none), (3, some false), (4, none), (5, none), (6, none), (7, none), (8, none), (9, some false), (10, none), (11, none), (12, none), (13, none), (14, none), (15, none), (16, none), (17, none), (18, none), (19, some false), (20, none), (21, some false), (22, none), (23, none), (24, none), (25, some false)] (fun w' => w'.cell? ⟨tg, j, none⟩ = some (.int .i64 k) ∧ P5 w' hb (ho + k * 5) d ∧ P5 w' sb (so + j * 5) e5) (by kernel_rfl) (by decide) rfl (by kernel_rfl) (fun _ _ d _ _ h => by cases d <;> exact h) HSS.out ?_
                  refine OrdS.looks (.slice (some ⟨tg, 0, none⟩) m ct) (some 181) _ rfl rfl (Or.inl ⟨by kernel_rfl, fun w' hS => ?_⟩) ?_
                  · go_simp
                  refine OrdS.looks (.int .i64 j) (some 182) _ rfl rfl (Or.inl ⟨by kernel_rfl, fun w' hS => ?_⟩) ?_
                  · go_simp
                  refine OrdS.looks (.pointer (some ⟨tg, j, none⟩)) (some 183) _ rfl rfl (Or.inl ⟨by kernel_rfl, fun w' hS => ?_⟩) ?_
                  · go_simp
                  refine OrdS.reads (.int .i64 k) (some 184) _ rfl rfl (Or.inl ⟨by kernel_rfl, fun w' hS => ?_⟩) ?_
                  · obtain ⟨z0, ⟨a0, a1, a2, a3, a4⟩, ⟨b0, b1, b2, b3, b4⟩⟩ := hS
                    go_simp
                  refine OrdS.looks (.bool false) (some 185) _ rfl rfl (Or.inl ⟨by kernel_rfl, fun w' hS => ?_⟩) ?_
                  · go_simp
                  refine OrdS.looks (.bool false) (some 186) _ rfl rfl (Or.inl ⟨by kernel_rfl, fun w' hS => ?_⟩) ?_
                  · go_simp
                  simp only [Act.put, List.setIfInBounds_toArray, List.set_cons_succ, List.set_cons_zero]
                  refine OrdS.looks (.slice (some ⟨tg, 0, none⟩) m ct) (some 187) _ rfl rfl (Or.inl ⟨by kernel_rfl, fun w' hS => ?_⟩) ?_
                  · go_simp
                  refine OrdS.looks (.int .i64 j) (some 188) _ rfl rfl (Or.inl ⟨by kernel_rfl, fun w' hS => ?_⟩) ?_
                  · go_simp
                  refine OrdS.looks (.pointer (some ⟨tg, j, none⟩)) (some 189) _ rfl rfl (Or.inl ⟨by kernel_rfl, fun w' hS => ?_⟩) ?_
                  · go_simp
                  refine OrdS.reads (.int .i64 k) (some 190) _ rfl rfl (Or.inl ⟨by kernel_rfl, fun w' hS => ?_⟩) ?_
                  · obtain ⟨z0, ⟨a0, a1, a2, a3, a4⟩, ⟨b0, b1, b2, b3, b4⟩⟩ := hS
                    go_simp
                  refine OrdS.looks (.slice p m cap) (some 191) _ rfl rfl (Or.inl ⟨by kernel_rfl, fun w' hS => ?_⟩) ?_
                  · go_simp
                  refine OrdS.looks (.int .i64 m) (some 192) _ rfl rfl (Or.inl ⟨by kernel_rfl, fun w' hS => ?_⟩) ?_
                  · go_simp
                  refine OrdS.looks (.bool false) (some 193) _ rfl rfl (Or.inl ⟨by kernel_rfl, fun w' hS => ?_⟩) ?_
                  · go_simp
                  refine OrdS.looks (.bool false) (some 194) _ rfl rfl (Or.inl ⟨by kernel_rfl, fun w' hS => ?_⟩) ?_
                  · go_simp
                  refine OrdS.looks (.bool false) (some 195) _ rfl rfl (Or.inl ⟨by kernel_rfl, fun w' hS => ?_⟩) ?_
                  · go_simp
                  simp only [Act.put, List.setIfInBounds_toArray, List.set_cons_succ, List.set_cons_zero]
                  refine OrdS.looks (.slice (some ⟨hb, ho, none⟩) m c3) (some 196) _ rfl rfl (Or.inl ⟨by kernel_rfl, fun w' hS => ?_⟩) ?_
                  · go_simp
                  refine OrdS.looks (.slice (some ⟨tg, 0, none⟩) m ct) (some 197) _ rfl rfl (Or.inl ⟨by kernel_rfl, fun w' hS => ?_⟩) ?_
                  · go_simp
                  refine OrdS.looks (.int .i64 j) (some 198) _ rfl rfl (Or.inl ⟨by kernel_rfl, fun w' hS => ?_⟩) ?_
                  · go_simp
                  refine OrdS.looks (.pointer (some ⟨tg, j, none⟩)) (some 199) _ rfl rfl (Or.inl ⟨by kernel_rfl, fun w' hS => ?_⟩) ?_
                  · go_simp
                  refine OrdS.reads (.int .i64 k) (some 200) _ rfl rfl (Or.inl ⟨by kernel_rfl, fun w' hS => ?_⟩) ?_
                  · obtain ⟨z0, ⟨a0, a1, a2, a3, a4⟩, ⟨b0, b1, b2, b3, b4⟩⟩ := hS
                    go_simp
                  refine OrdS.looks (.pointer (some ⟨hb, ho + k * 5, none⟩)) (some 201) _ rfl rfl (Or.inl ⟨by kernel_rfl, fun w' hS => ?_⟩) ?_
                  · go_simp
                  refine OrdS.reads (.agg #[.float .f64 d.r, .float .f64 d.s, .float .f64 d.p, .float .f64 d.b, .float .f64 d.t]) (some 202) _ rfl rfl (Or.inl ⟨by kernel_rfl, fun w' hS => ?_⟩) ?_
                  · obtain ⟨z0, ⟨a0, a1, a2, a3, a4⟩, ⟨b0, b1, b2, b3, b4⟩⟩ := hS
                    go_simp
                  refine OrdS.looks (.slice (some ⟨sb, so, none⟩) m c) (some 203) _ rfl rfl (Or.inl ⟨by kernel_rfl, fun w' hS => ?_⟩) ?_
                  · go_simp
                  refine OrdS.looks (.int .i64 j) (some 204) _ rfl rfl (Or.inl ⟨by kernel_rfl, fun w' hS => ?_⟩) ?_
                  · go_simp
                  refine OrdS.looks (.pointer (some ⟨sb, so + j * 5, none⟩)) (some 205) _ rfl rfl (Or.inl ⟨by kernel_rfl, fun w' hS => ?_⟩) ?_
                  · go_simp
                  refine OrdS.reads (.agg #[.float .f64 e5.r, .float .f64 e5.s, .float .f64 e5.p, .float .f64 e5.b, .float .f64 e5.t]) (some 206) _ rfl rfl (Or.inl ⟨by kernel_rfl, fun w' hS => ?_⟩) ?_
                  · obtain ⟨z0, ⟨a0, a1, a2, a3, a4⟩, ⟨b0, b1, b2, b3, b4⟩⟩ := hS
                    go_simp
                  refine OrdS.ends ?_
                  simp only [List.drop_succ_cons, List.drop_zero, Act.put, List.setIfInBounds_toArray]
                  go_wp2_with (go_at_call 25; (with_reducible refine (C25.out _).mono ?_); rintro e w7 ⟨rfl, HU7⟩)
                  go_roundw
                  case rel => exact ⟨j + 1, by omega, by go_num, HZ.out.trans ((Up.drew _).trans HU7.out)⟩
                  case measure => simp [intOf]; omega
                · obtain rfl : j = m := by omega
                  go_wp2_with (go_at_call 12; (with_reducible refine (t12 _).mono ?_); rintro e w9 ⟨rfl, HU9⟩)
                  go_ret
                  exact ⟨rfl, HU6.out.trans (HZ.out.trans HU9.out)⟩
end Go.Proofs.Ytijfmaepoamkgaa
