/- TopUnfolded, walked. -/
import Derived.Test.YtijfmaepoamkgabVb
import Derived.Deep.CutRange
import Derived.BigQuiet
namespace Go.Proofs.Ytijfmaepoamkgab
open Go.ChangeShapes Go.WideShapes Go.ChangeAt Go.RowKit Go.Fl Go.Sort

set_option maxRecDepth 20000 in
set_option maxHeartbeats 8000000 in
theorem t4 (x0 : Int) (ev mo ot : List Int) (pe pm po : Option Addr) (ce cm co : Nat) (off0 : Int) (w : World) (hev : Fo.IR w pe ev.length (fun i => ev[i]!)) (hmo : Fo.IR w pm mo.length (fun i => mo[i]!)) (hot : Fo.IR w po ot.length (fun i => ot[i]!)) : Calls Try.prog 4 #[.int .i64 x0, .slice pe ev.length ce, .slice pm mo.length cm, .slice po ot.length co, .int .i64 off0] w fun e w' => e = .returned (.bool true) ∧ Hid (Up w w') := by
  have HEv : Hid (Fo.IR w pe ev.length (fun i => ev[i]!)) := hev
  have HMo : Hid (Fo.IR w pm mo.length (fun i => mo[i]!)) := hmo
  have HOt : Hid (Fo.IR w po ot.length (fun i => ot[i]!)) := hot
  clear hev hmo hot
  obtain ⟨i0, hi0, hz0, hz1, hz2⟩ := info_parts info24
  obtain ⟨j0, hj0, hy0, hy1, hy2⟩ := info_parts Fo.info2
  obtain ⟨l0, hl0, hx0, hx1, hx2⟩ := info_parts info39
  have o1 := Int.emod_nonneg off0 (show (4 : Int) ≠ 0 by omega)
  have o2 := Int.emod_lt_of_pos off0 (show (0 : Int) < 4 by omega)
  have x1 := Int.emod_nonneg x0 (show (65536 : Int) ≠ 0 by omega)
  have x2 := Int.emod_lt_of_pos x0 (show (0 : Int) < 65536 by omega)
  have S1 : Hid (∀ w, Calls Try.prog 10 #[.int .i64 off0, .int .i64 4] w fun e w' => e = .returned (.int .i64 (off0 % 4 + 1)) ∧ w' = w) := fun w => t10 _ _ (by omega) w
  have S2 : Hid (∀ w, Calls Try.prog 10 #[.int .i64 x0, .int .i64 65536] w fun e w' => e = .returned (.int .i64 (x0 % 65536 + 1)) ∧ w' = w) := fun w => t10 _ _ (by omega) w
  generalize off0 % 4 = off at *
  obtain ⟨X, hX⟩ : ∃ X : Nat, x0 % 65536 = X := ⟨(x0 % 65536).toNat, by omega⟩
  have HX : Hid (X < 65536) := by show X < 65536; omega
  rw [hX] at S2 x1 x2
  go_enter Try.func4, Try.ntmps4
  go_wp2_with (first
    | (go_at_call 10; (with_reducible refine (S1.out _).mono ?_); rintro e w' ⟨rfl, hw⟩; subst w')
    | (go_at_call 10; (with_reducible refine (S2.out _).mono ?_); rintro e w' ⟨rfl, hw⟩; subst w'))
  obtain ⟨n, hn⟩ : ∃ n, min ev.length 8 = n := ⟨_, rfl⟩
  have HN : Hid (n = min ev.length 8) := hn.symm
  clear hn hX S1 S2 x1 x2
  generalize hB : (fun i => bg (vE ev i)) = B
  have HB : Hid (∀ i, B i = bg (vE ev i)) := fun i => by rw [← hB]
  clear hB
  generalize hC : vC ev mo ot off X = C
  have HC : Hid (∀ i, C i = [(X : Int) % vE ev i + vM mo off i] ++ if i < ot.length then [ot[i]! % 1000 + 1] else []) := fun i => by rw [← hC]; rfl
  have HCC : Hid (vC ev mo ot off X = C) := hC
  clear hC
  go_loopw [11, 12, 13, 14, 15] (fun v11 v12 v13 v14 vi wr => ∃ (i : Nat) (qb qc qr qm : Option Addr) (cb cc cr cn : Nat) (gf cf : Nat → Nat), i ≤ n ∧ vi = .int .i64 i ∧ v11 = .slice qb i cb ∧ v12 = .slice qc i cc ∧ v13 = .slice qr i cr ∧ v14 = .slice qm i cn ∧ Hid (UG w wr i i i i (.slice qb i cb) (.slice qc i cc) (.slice qr i cr) (.slice qm i cn) B C (fun j => (X : Int) % vE ev j) (vE ev) gf cf)) (fun _ _ _ _ vi _ => n - (intOf vi).toNat)
  case atStart => exact ⟨0, none, none, none, none, 0, 0, 0, 0, _, _, by omega, rfl, rfl, rfl, rfl, rfl, UG.start w B C _ _⟩
  case round =>
    obtain ⟨i, qb, qc, qr, qm, cb, cc, cr, cn, gf, cf, hi, rfl, rfl, rfl, rfl, rfl, HI⟩ := hrel
    rename World => wr
    by_cases hlt : i < n
    · have hie : i < ev.length := by have := HN.out; omega
      have hi8 : (i : Int) < 8 := by have := HN.out; omega
      have hie' : (i : Int) < ev.length := by omega
      obtain ⟨eb, eo, rfl, ec⟩ := (ir_up HEv.out HI.out.up) i hie
      simp only at ec
      have hE := vE_in ev i
      have SE : Hid (∀ w, Calls Try.prog 10 #[.int .i64 ev[i]!, .int .i64 1000] w fun e w' => e = .returned (.int .i64 (vE ev i)) ∧ w' = w) := fun w => t10 _ _ (by omega) w
      have HBi : Hid (B i = bg (vE ev i)) := HB.out i
      have HCi : Hid (C i = [(X : Int) % vE ev i + vM mo off i] ++ if i < ot.length then [ot[i]! % 1000 + 1] else []) := HC.out i
      have HRi : Hid ((fun j => (X : Int) % vE ev j) i = (X : Int) % vE ev i) := rfl
      have HMi : Hid (vE ev i = vE ev i) := rfl
      generalize ev[i]! = evi at *
      generalize hEE : vE ev i = E at SE HBi HCi hE HRi
      have HEE : Hid (vE ev i = E) := hEE
      clear hEE HMi
      go_upto_if 51 with (go_at_call 10; (with_reducible refine (SE.out _).mono ?_); rintro e w' ⟨rfl, hw⟩; subst w')
      go_cut [17] from 33 to 99 (fun s17 wx => s17 = .int .i64 (vM mo off i) ∧ wx = wr)
      case first =>
        by_cases him : i < mo.length
        · obtain ⟨mb, mo', rfl, mc⟩ := (ir_up HMo.out HI.out.up) i him
          simp only at mc
          have him' : (i : Int) < mo.length := by omega
          have HU : Hid (vM mo off i = mo[i]! % (2 * off + 1) - off) := by show _ = _; unfold vM; rw [if_pos him]
          have q3 := Int.emod_nonneg mo[i]! (show 2 * off + 1 ≠ 0 by omega)
          have q4 := Int.emod_lt_of_pos mo[i]! (show (0 : Int) < 2 * off + 1 by omega)
          generalize mo[i]! = moi at *
          have CM : Hid (∀ w, Calls Try.prog 10 #[.int .i64 moi, .int .i64 (2 * off + 1)] w fun e w' => e = .returned (.int .i64 (moi % (2 * off + 1) + 1)) ∧ w' = w) := fun w => t10 _ _ (by omega) w
          generalize hmm : moi % (2 * off + 1) = mm at *
          go_wp2_with (go_at_call 10; (with_reducible refine (CM.out _).mono ?_); rintro e w' ⟨rfl, hw⟩; subst w')
          go_meet
          case rel => exact ⟨by rw [HU.out], rfl⟩
        · have HU : Hid (vM mo off i = 0) := by show _ = _; unfold vM; rw [if_neg him]
          have him' : ¬ (i : Int) < mo.length := by omega
          go_wp2
          go_meet
          case rel => exact ⟨by rw [HU.out], rfl⟩
      case rest =>
        obtain ⟨rfl, hwc⟩ := hcut
        subst hwc
        rename World => w1
        have HMv : Hid (-off ≤ vM mo off i ∧ vM mo off i ≤ off) := vM_in mo (by omega) i
        generalize vM mo off i = mv at *
        have hmv := HMv.out
        have q5 := Int.emod_nonneg (X : Int) (show E ≠ 0 by omega)
        have q6 := Int.emod_lt_of_pos (X : Int) (show (0 : Int) < E by omega)
        have q7 : (X : Int).tmod E = (X : Int) % E := Int.tmod_eq_emod_of_nonneg (by omega)
        obtain ⟨xe, hxe⟩ : ∃ xe, (X : Int) % E = xe := ⟨_, rfl⟩
        rw [hxe] at q5 q6 q7 HCi HRi
        clear hxe
        have HW0 : Hid (w.heap.size ≤ w1.heap.size) := HI.out.up.size
        go_upto_if 72 with fail
        go_cut [18] from 33 to 99 (fun s18 wx => ∃ g k cap, s18 = .slice (some ⟨g, 0, none⟩) k cap ∧ Hid (FC w1 wx g k cap (C i)))
        case first =>
          have HF : Hid (FC w1 (w1.alloc (.cells #[.int .i64 (xe + mv)] 2)) w1.heap.size 1 1 [xe + mv]) := FC.new _ _
          generalize w1.alloc (.cells #[.int .i64 (xe + mv)] 2) = wy at *
          by_cases hio : i < ot.length
          · obtain ⟨ob, oo, rfl, oc⟩ := (ir_up HOt.out (HI.out.up.trans HF.out.2)) i hio
            simp only at oc
            have hio' : (i : Int) < ot.length := by omega
            have HC2 : Hid (C i = [xe + mv] ++ [ot[i]! % 1000 + 1]) := by show _ = _; rw [HCi.out, if_pos hio]
            generalize ot[i]! = oi at *
            have CO : Hid (∀ w, Calls Try.prog 10 #[.int .i64 oi, .int .i64 1000] w fun e w' => e = .returned (.int .i64 (oi % 1000 + 1)) ∧ w' = w) := fun w => t10 _ _ (by omega) w
            generalize oi % 1000 + 1 = oz at *
            have hsz : w1.heap.size ≤ wy.heap.size := HF.out.2.size
            go_wp2_with (first
              | (go_at_call 10; (with_reducible refine (CO.out _).mono ?_); rintro e w' ⟨rfl, hw⟩; subst w')
              | (at_builtin; refine wpList_append_own_at _ rfl _ _ 36 rfl w1.heap.size 2 j0 (.int .i64 0) 1 8 Try.underlying36 hj0 hy0 hy1 hy2 rfl (by decide) _ _ _ rfl (HF.out.1.alloc _) ⟨wy.heap.size, 0, none⟩ 1 1 [.int .i64 oz] rfl rfl (Fo.one_new _ _ _) (Fo.one_one _) (by unfold maxLen; omega) (by omega) (by simp; omega) ?_; intro v5 w5 hown5 hgrow5 hnil5 hat5; (obtain ⟨p5, c5, hv5, hp5⟩ := own_form hown5); subst hv5; (obtain ⟨g5, hg5⟩ := hp5 (by omega)); subst hg5; (have HT5 : Hid (FC w1 w5 g5 2 c5 (C i)) := ⟨by rw [HC2.out, List.map_append]; exact hown5, grown_up (HF.out.2.trans (Up.alloc _ _)) hgrow5 (fun j hj => (World.ownsRow.lt HF.out.1 j hj).1)⟩); clear hown5 hgrow5 hnil5 hat5))
            go_meet
            case rel => exact ⟨g5, 2, c5, rfl, HT5⟩
          · have hio' : ¬ (i : Int) < ot.length := by omega
            have HC2 : Hid (C i = [xe + mv]) := by show _ = _; rw [HCi.out, if_neg hio]; rfl
            go_wp2
            go_meet
            case rel => exact ⟨_, 1, 1, rfl, by rw [HC2.out]; exact HF.out⟩
        case rest =>
          obtain ⟨g, k, cap, rfl, HFC⟩ := hcut
          rename World => wx
          have HIx : Hid (UG w wx i i i i (.slice qb i cb) (.slice qc i cc) (.slice qr i cr) (.slice qm i cn) B C (fun j => (X : Int) % vE ev j) (vE ev) gf cf) := HI.out.upon HFC.out.2
          have HAp : Hid ((Value.slice qc i cc).ownBlock ≠ some g ∧ (Value.slice qr i cr).ownBlock ≠ some g ∧ (Value.slice qm i cn).ownBlock ≠ some g) := ⟨row_apart HFC.out.1 HI.out.ll.own, row_apart HFC.out.1 HI.out.rr, row_apart HFC.out.1 HI.out.mm⟩
          have HRw : Hid (wx.ownsRow w1.heap.size 2 1 (.slice (some ⟨g, 0, none⟩) k cap) k ((C i).map (Value.int .i64))) := HFC.out.1
          have CB : Hid (∀ w, Calls Try.prog 11 #[.int .i64 E, .int .i64 1] w fun en w' => en = .returned (.agg #[.float .f64 4607182418800017408, .float .f64 4602678819172646912, .float .f64 4652007308841189376, .int .i64 E, .int .i64 1]) ∧ Hid (Gr w w')) := fun w => t11 E w
          have hwx : w.heap.size ≤ wx.heap.size := HIx.out.up.size
          clear HFC
          go_wp2_with (first
            | (go_at_call 11; (with_reducible refine (CB.out _).mono ?_); rintro e w2 ⟨rfl, HG⟩; (have HI2 : Hid (UG w w2 i i i i (.slice qb i cb) (.slice qc i cc) (.slice qr i cr) (.slice qm i cn) B C (fun j => (X : Int) % vE ev j) (vE ev) gf cf) := HIx.out.upon HG.out.up); (have HR2 : Hid (w2.ownsRow w1.heap.size 2 1 (.slice (some ⟨g, 0, none⟩) k cap) k ((C i).map (Value.int .i64))) := owns_up HRw.out HG.out.up); (have hw2 : w.heap.size ≤ w2.heap.size := HI2.out.up.size); clear HG)
            | (at_builtin; refine wpList_append_own_at _ rfl _ _ 34 rfl w.heap.size 38 i0 (.agg #[.float .f64 0, .float .f64 0, .float .f64 0, .int .i64 0, .int .i64 0]) 5 40 Try.underlying34 hi0 hz0 hz1 hz2 rfl (by decide) _ _ _ rfl (HI2.out.bts.alloc _) ⟨w2.heap.size, 0, none⟩ 1 1 (bL (bg E)) rfl rfl (beat_new w2 (bg E) 38) (beat_one _) (by unfold maxLen; omega) (by omega) (by simp; omega) ?_; intro v4 w4 hown4 hgrow4 hnil4 hat4; (obtain ⟨p4, c4, hv4, -⟩ := own_form hown4); subst hv4; (have HU4 : Hid (UG w w4 (i + 1) i i i (.slice p4 (i + 1) c4) (.slice qc i cc) (.slice qr i cr) (.slice qm i cn) B C (fun j => (X : Int) % vE ev j) (vE ev) gf cf) := HI2.out.beat (Up.alloc _ (.cells #[.float .f64 4607182418800017408, .float .f64 4602678819172646912, .float .f64 4652007308841189376, .int .i64 E, .int .i64 1] 38)) (by rw [HBi.out]; exact hown4) hgrow4); (have HR4 : Hid (w4.ownsRow w1.heap.size 2 1 (.slice (some ⟨g, 0, none⟩) k cap) k ((C i).map (Value.int .i64))) := owns_grown (owns_up HR2.out (Up.alloc _ _)) hgrow4 (fun g' hg' => kinds_apart HI2.out.bts HR2.out (by decide) hg')); (have hs4 : w.heap.size ≤ w4.heap.size := HU4.out.up.size); clear hown4 hgrow4 hnil4 hat4)
            | (at_builtin; refine wpList_append_own_at _ rfl _ _ 35 rfl w.heap.size 36 l0 (.slice none 0 0) 1 24 Try.underlying35 hl0 hx0 hx1 hx2 rfl (by decide) _ _ _ rfl (HU4.out.ll.own.alloc _) ⟨w4.heap.size, 0, none⟩ 1 1 [.slice (some ⟨g, 0, none⟩) k cap] rfl rfl (one_newS _ _ _) (one_oneS _ _ _) (by unfold maxLen; omega) (by omega) (by simp; omega) ?_; intro v6 w6 hown6 hgrow6 hnil6 hat6; (obtain ⟨p6, c6, hv6, -⟩ := own_form hown6); subst hv6; (obtain ⟨gf', cf', hu6⟩ : ∃ gf' cf', UG w w6 (i + 1) (i + 1) i i (.slice p4 (i + 1) c4) (.slice p6 (i + 1) c6) (.slice qr i cr) (.slice qm i cn) B C (fun j => (X : Int) % vE ev j) (vE ev) gf' cf' := HU4.out.list (Up.alloc _ _) (Nat.le_trans HW0.out (row_facts HR4.out).1) (row_facts HR4.out).2.1 (row_facts HR4.out).2.2.1 HAp.out.1 HAp.out.2.1 HAp.out.2.2 (row_facts HR4.out).2.2.2.2 (by rw [(row_facts HR4.out).2.2.2.1]; exact hown6) hgrow6 hat6); (have HU6 : Hid (UG w w6 (i + 1) (i + 1) i i (.slice p4 (i + 1) c4) (.slice p6 (i + 1) c6) (.slice qr i cr) (.slice qm i cn) B C (fun j => (X : Int) % vE ev j) (vE ev) gf' cf') := hu6); (have hs6 : w.heap.size ≤ w6.heap.size := HU6.out.up.size); clear hown6 hgrow6 hnil6 hat6 hu6)
            | ((fail_if_success have := HU7); at_builtin; refine wpList_append_own_at _ rfl _ _ 36 rfl w.heap.size 2 j0 (.int .i64 0) 1 8 Try.underlying36 hj0 hy0 hy1 hy2 rfl (by decide) _ _ _ rfl (HU6.out.rr.alloc _) ⟨w6.heap.size, 0, none⟩ 1 1 [.int .i64 xe] rfl rfl (Fo.one_new _ _ _) (Fo.one_one _) (by unfold maxLen; omega) (by omega) (by simp; omega) ?_; intro v7 w7 hown7 hgrow7 hnil7 hat7; (obtain ⟨p7, c7, hv7, -⟩ := own_form hown7); subst hv7; (have HU7 : Hid (UG w w7 (i + 1) (i + 1) (i + 1) i (.slice p4 (i + 1) c4) (.slice p6 (i + 1) c6) (.slice p7 (i + 1) c7) (.slice qm i cn) B C (fun j => (X : Int) % vE ev j) (vE ev) gf' cf') := HU6.out.rem (Up.alloc _ _) (by rw [HRi.out]; exact hown7) hgrow7 hat7); (have hs7 : w.heap.size ≤ w7.heap.size := HU7.out.up.size); clear hown7 hgrow7 hnil7 hat7)
            | (at_builtin; refine wpList_append_own_at _ rfl _ _ 36 rfl w.heap.size 2 j0 (.int .i64 0) 1 8 Try.underlying36 hj0 hy0 hy1 hy2 rfl (by decide) _ _ _ rfl (HU7.out.mm.alloc _) ⟨w7.heap.size, 0, none⟩ 1 1 [.int .i64 E] rfl rfl (Fo.one_new _ _ _) (Fo.one_one _) (by unfold maxLen; omega) (by omega) (by simp; omega) ?_; intro v8 w8 hown8 hgrow8 hnil8 hat8; (obtain ⟨p8, c8, hv8, -⟩ := own_form hown8); subst hv8; (have HU8 : Hid (UG w w8 (i + 1) (i + 1) (i + 1) (i + 1) (.slice p4 (i + 1) c4) (.slice p6 (i + 1) c6) (.slice p7 (i + 1) c7) (.slice p8 (i + 1) c8) B C (fun j => (X : Int) % vE ev j) (vE ev) gf' cf') := HU7.out.mod (Up.alloc _ _) (by rw [HEE.out]; exact hown8) hgrow8 hat8); clear hown8 hgrow8 hnil8 hat8))
          go_roundw
          case rel => exact ⟨i + 1, p4, p6, p7, p8, c4, c6, c7, c8, gf', cf', by omega, by go_num, rfl, rfl, rfl, rfl, HU8⟩
          case measure => simp [intOf]; omega
    · obtain rfl : i = n := by omega
      have HN8 : Hid (i ≤ 8) := by show _ ≤ _; have := HN.out; omega
      have HBE : Hid (B = fun j => bg (vE ev j)) := funext HB.out
      have k1 : i ≤ cb := cap_of_own HI.out.bts
      have k2 : i ≤ cc := cap_of_own HI.out.ll.own
      have C12 : Hid (Calls Try.prog 12 #[.slice qb i cb, .slice qc i cc, .int .i64 off, .int .i64 65536] wr (ResR wr 0 (resL off (vE ev) (vC ev mo ot off X) i 65536))) := by
        have h := t12 (most := 65536) (off := off) (bv_of HI.out.bts) HI.out.ll.cv k1 k2 (by have := HN8.out; omega) (by omega)
        have e := v_ok (ev := ev) (mo := mo) (ot := ot) (off := off) (x := X) (by omega) HN8.out (code := fun j => (bg (vE ev j)).code) (fun j => bg_code (vE_in ev j).1 (by have := (vE_in ev j).2; omega))
        rw [Nat.min_self, HBE.out, ← HCC.out] at h
        rw [show resC (fun i => (bg (vE ev i)).code) (fun i => (bg (vE ev i)).E) (vC ev mo ot off X) i off 65536 = 0 from e] at h
        exact h
      have HHas : Hid ((X : Int) ∈ resL off (vE ev) (vC ev mo ot off X) i 65536) := v_has (by omega) HX.out
      have HRi : Hid (∀ k, k + 1 < (resL off (vE ev) (vC ev mo ot off X) i 65536).length → (resL off (vE ev) (vC ev mo ot off X) i 65536)[k]! < (resL off (vE ev) (vC ev mo ot off X) i 65536)[k + 1]!) := fun k hk => res_rise hk
      have HLL : Hid ((resL off (vE ev) (vC ev mo ot off X) i 65536).length ≤ 65536) := resL_len off (vE ev) (vC ev mo ot off X) i 65536
      generalize resL off (vE ev) (vC ev mo ot off X) i 65536 = L at *
      have HU0 : Hid (Up w wr) := HI.out.up
      have HIr : Hid (Fo.IR wr qr i (fun j => (X : Int) % vE ev j)) := ir_of_own HI.out.rr
      have HIm : Hid (Fo.IR wr qm i (vE ev)) := ir_of_own HI.out.mm
      have HV : Hid _ := v_join ev X i
      have C13 : Hid (∀ W, Up wr W → Calls Try.prog 13 #[.slice qr i cr, .slice qm i cn] W fun e w' => e = .returned (.tuple #[.int .i64 (Fo.joinT (fun j => (X : Int) % vE ev j) (vE ev) i i).1, .int .i64 (Fo.joinT (fun j => (X : Int) % vE ev j) (vE ev) i i).2.1, .int .i64 (Fo.joinT (fun j => (X : Int) % vE ev j) (vE ev) i i).2.2]) ∧ Hid (Up W w')) := fun W hu => Fo.t13 qr qm i i cr cn _ _ W (ir_up HIr.out hu) (ir_up HIm.out hu)
      obtain ⟨NC, hNC⟩ : ∃ NC, Fo.nearC (Fo.ringsC (vE ev) i i (decide ((0 : Int) < 0) || decide ((65536 : Int) < 0)) 65536) (fun j => (X : Int) % vE ev j) (vE ev) i 0 65536 = NC := ⟨_, rfl⟩
      have C14 : Hid (∀ W, Up wr W → Calls Try.prog 14 #[.slice qr i cr, .slice qm i cn, .int .i64 0, .int .i64 65536] W fun e w' => Hid (Up W w') ∧ ((NC ≠ 0 ∧ e = .returned (.tuple #[.slice none 0 0, .int .i64 NC])) ∨ (NC = 0 ∧ ∃ v, e = .returned (.tuple #[v, .int .i64 0]) ∧ Hid (Fo.OI W.heap.size w' v (Fo.nears (fun j => (X : Int) % vE ev j) (vE ev) i 0 65536))))) := fun W hu => by
        have h := Fo.t14 qr qm i i cr cn (fun j => (X : Int) % vE ev j) (vE ev) 0 65536 W (ir_up HIr.out hu) (ir_up HIm.out hu) (by omega)
        rw [Nat.min_self] at h
        unfold Fo.NearP at h
        rw [hNC] at h
        exact h
      clear hNC
      have hjt : Fo.joinT (fun j => (X : Int) % vE ev j) (vE ev) i i = joinF (fun j => (X : Int) % vE ev j) (vE ev) i := by unfold Fo.joinT; rw [Nat.min_self, if_pos HN8.out]
      rw [hjt] at C13
      have HNe : Hid (Fo.nears (fun j => (X : Int) % vE ev j) (vE ev) i 0 65536 = nearL (fun (y : Nat) => worst (fun j => (X : Int) % vE ev j) (vE ev) y i) 0 65536) := rfl
      clear hjt
      generalize hjj : joinF (fun j => (X : Int) % vE ev j) (vE ev) i = J at *
      clear hjj HI
      rcases (show ((i : Int) < ev.length ∧ ¬ (i : Int) < 8) ∨ (¬ (i : Int) < ev.length) by have := HN.out; omega) with ⟨hie, hi8⟩ | hie
      all_goals
        go_wp2_with (go_at_call 12; (with_reducible refine C12.out.mono ?_); rintro e w7 ⟨HU7, hh⟩; rcases hh with ⟨h0, -⟩ | ⟨-, p7, c7, rfl, HO7⟩; · exact absurd rfl h0)
        have HR7 : Hid (Fo.IR w7 p7 L.length (fun k => L[k]!)) := (Fo.OI.ir HO7.out).2
        go_loopw [21, 118] (fun v21 vi wx => ∃ k : Nat, k ≤ L.length ∧ vi = .int .i64 k ∧ v21 = .bool (decide ((X : Int) ∈ L.take k)) ∧ wx = w7) (fun _ vi _ => L.length - (intOf vi).toNat)
        case atStart => exact ⟨0, by omega, rfl, by simp, rfl⟩
        case round =>
          obtain ⟨k, hk, rfl, rfl, hwx⟩ := hrel
          subst hwx
          rename World => wx
          by_cases hkl : k < L.length
          · obtain ⟨lb, lo, rfl, lc⟩ := HR7.out k hkl
            simp only at lc
            have hk' : (k : Int) < L.length := by omega
            have hkw : (k : Int) + 1 ≤ 9223372036854775807 := by have := HLL.out; omega
            have HT : Hid (decide ((X : Int) ∈ L.take (k + 1)) = (decide ((X : Int) ∈ L.take k) || decide (L[k]! = (X : Int)))) := take_has hkl
            have hcmp : (0 : Int) < (k : Int) → ∃ m : Nat, (k : Int) - 1 = (m : Int) ∧ k = m + 1 ∧ (m : Int) < L.length ∧ wx.cell? ⟨lb, lo + m, none⟩ = some (.int .i64 L[m]!) ∧ L[m]! < L[k]! := fun hp => by
              refine ⟨k - 1, by omega, by omega, by omega, ?_, ?_⟩
              · obtain ⟨lb', lo', e1, e2⟩ := HR7.out (k - 1) (by omega)
                simp only [Option.some.injEq, Addr.mk.injEq] at e1
                obtain ⟨rfl, rfl, _⟩ := e1
                exact e2
              · have := HRi.out (k - 1) (by omega)
                rwa [show k - 1 + 1 = k by omega] at this
            by_cases hk0 : (0 : Int) < (k : Int)
            · obtain ⟨m, hm1, -, hml, lm, hrise⟩ := hcmp hk0
              have hr2 : ¬ L[k]! ≤ L[m]! := by omega
              have hr3 : decide (L[k]! ≤ L[m]!) = false := decide_eq_false hr2
              have h3 : decide ((0 : Int) < (k : Int)) = true := decide_eq_true hk0
              have h3' : decide (0 < k) = true := decide_eq_true (by omega)
              clear hcmp hk0
              generalize L[k]! = zk at *
              generalize L[m]! = zm at *
              generalize hbk : decide ((X : Int) ∈ L.take k) = bk at *
              cases bk
              · go_wp2
                all_goals
                  go_roundw
                  case rel => exact ⟨k + 1, by omega, by go_num, by rw [HT.out]; simp [*]; try rfl, trivial⟩
                  case measure => simp [intOf]; omega
              · go_wp2
                all_goals
                  go_roundw
                  case rel => exact ⟨k + 1, by omega, by go_num, by rw [HT.out]; simp [*]; try rfl, trivial⟩
                  case measure => simp [intOf]; omega
            · have h3 : decide ((0 : Int) < (k : Int)) = false := decide_eq_false hk0
              have h3' : decide (0 < k) = false := decide_eq_false (by omega)
              clear hcmp hk0
              generalize L[k]! = zk at *
              generalize hbk : decide ((X : Int) ∈ L.take k) = bk at *
              cases bk
              · go_wp2
                all_goals
                  go_roundw
                  case rel => exact ⟨k + 1, by omega, by go_num, by rw [HT.out]; simp [*]; try rfl, trivial⟩
                  case measure => simp [intOf]; omega
              · go_wp2
                all_goals
                  go_roundw
                  case rel => exact ⟨k + 1, by omega, by go_num, by rw [HT.out]; simp [*]; try rfl, trivial⟩
                  case measure => simp [intOf]; omega
          · obtain rfl : k = L.length := by omega
            have hT : decide ((X : Int) ∈ L.take L.length) = true := by rw [List.take_length]; exact decide_eq_true HHas.out
            rw [hT]
            rcases HV.out with ⟨all, rfl, ha1, hnear⟩ | rfl
            · simp only at C13
              have HNear : Hid ((X : Int) < all → 65536 ≤ all → Fo.nears (fun j => (X : Int) % vE ev j) (vE ev) i 0 65536 = [(X : Int)]) := fun h1 h2 => by rw [HNe.out]; exact hnear h1 h2 HX.out
              have q7 : (X : Int).tmod all = (X : Int) % all := Int.tmod_eq_emod_of_nonneg (by omega)
              obtain ⟨yv, hyv⟩ : ∃ yv, (X : Int) % all = yv := ⟨_, rfl⟩
              rw [hyv] at q7 C13
              have hall0 : ¬ all = 0 := by omega
              clear hnear hyv
              generalize Fo.nears (fun j => (X : Int) % vE ev j) (vE ev) i 0 65536 = L2 at *
              by_cases hnc : NC = 0
              · by_cases hb1 : all ≤ (X : Int)
                · have hb2 : decide (all ≤ (X : Int)) = true := decide_eq_true hb1
                  clear hb1 HNear
                  go_wp2_with (first
                    | (go_at_call 13; (with_reducible refine (C13.out _ HU7.out).mono ?_); rintro e w8 ⟨rfl, HU8⟩)
                    | (go_at_call 14; (with_reducible refine (C14.out _ (HU7.out.trans HU8.out)).mono ?_); rintro e w9 ⟨HU9, hh⟩; replace hh := hh.resolve_left (fun h => h.1 hnc); (obtain ⟨-, v9, he9, HO9⟩ := hh); subst he9))
                  go_ret
                  exact ⟨rfl, ((HU0.out.trans HU7.out).trans HU8.out).trans HU9.out⟩
                · have hb2 : decide (all ≤ (X : Int)) = false := decide_eq_false hb1
                  by_cases hb3 : all < 65536
                  · have hb4 : decide (all < 65536) = true := decide_eq_true hb3
                    clear hb1 hb3 HNear
                    go_wp2_with (first
                      | (go_at_call 13; (with_reducible refine (C13.out _ HU7.out).mono ?_); rintro e w8 ⟨rfl, HU8⟩)
                      | (go_at_call 14; (with_reducible refine (C14.out _ (HU7.out.trans HU8.out)).mono ?_); rintro e w9 ⟨HU9, hh⟩; replace hh := hh.resolve_left (fun h => h.1 hnc); (obtain ⟨-, v9, he9, HO9⟩ := hh); subst he9))
                    go_ret
                    exact ⟨rfl, ((HU0.out.trans HU7.out).trans HU8.out).trans HU9.out⟩
                  · have hb4 : decide (all < 65536) = false := decide_eq_false hb3
                    have hL2 : L2 = [(X : Int)] := HNear.out (by omega) (by omega)
                    subst hL2
                    clear hb1 hb3 HNear
                    go_wp2_with (first
                      | (go_at_call 13; (with_reducible refine (C13.out _ HU7.out).mono ?_); rintro e w8 ⟨rfl, HU8⟩)
                      | (go_at_call 14; (with_reducible refine (C14.out _ (HU7.out.trans HU8.out)).mono ?_); rintro e w9 ⟨HU9, hh⟩; replace hh := hh.resolve_left (fun h => h.1 hnc); (obtain ⟨-, v9, he9, HO9⟩ := hh); subst he9; (obtain ⟨p9, c9, hv9, hp9⟩ := own_form HO9.out); subst hv9; (obtain ⟨g9, hg9⟩ := hp9 (by simp)); subst hg9; (have lc9 : w9.cell? ⟨g9, 0, none⟩ = some (.int .i64 (X : Int)) := Fo.OI.cell HO9.out (i := 0) (by simp))))
                    go_ret
                    exact ⟨rfl, ((HU0.out.trans HU7.out).trans HU8.out).trans HU9.out⟩
              · have hn1 : (NC == 0) = false := by simp [hnc]
                have hn2 : (NC != 0) = true := by simp [hnc]
                have hn3 : decide (NC = 0) = false := decide_eq_false hnc
                clear HNear
                go_wp2_with (first
                  | (go_at_call 13; (with_reducible refine (C13.out _ HU7.out).mono ?_); rintro e w8 ⟨rfl, HU8⟩)
                  | (go_at_call 14; (with_reducible refine (C14.out _ (HU7.out.trans HU8.out)).mono ?_); rintro e w9 ⟨HU9, hh⟩; replace hh := hh.resolve_right (fun h => hnc h.1); (obtain ⟨-, he9⟩ := hh); subst he9))
                go_ret
                exact ⟨rfl, ((HU0.out.trans HU7.out).trans HU8.out).trans HU9.out⟩
            · simp only at C13
              go_wp2_with (go_at_call 13; (with_reducible refine (C13.out _ HU7.out).mono ?_); rintro e w8 ⟨rfl, HU8⟩)
              go_ret
              exact ⟨rfl, (HU0.out.trans HU7.out).trans HU8.out⟩
end Go.Proofs.Ytijfmaepoamkgab
