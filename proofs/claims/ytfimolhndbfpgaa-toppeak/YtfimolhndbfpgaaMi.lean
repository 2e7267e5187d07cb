/- The walk of MatchPeak. -/
import Derived.Test.YtfimolhndbfpgaaMh
namespace Go.Proofs.Ytfimolhndbfpgaa
open Go.ChangeShapes Go.WideShapes Go.ChangeAt Go.RowKit Go.Fl Ieee
attribute [local go_sem] run_store_float run_store_c isSome_set call29 call28 run_neg fold_eq fold_ne fold_lt fold_gt abs_eq

theorem cell_newc (w : World) (x y : Nat) (t : TypeId) : ∀ (j : Nat) (u : Value), [Value.complex .f64 x y][j]? = some u → (w.alloc (.cells #[.complex .f64 x y] t)).cell? ((⟨w.heap.size, 0, none⟩ : Addr).add j) = some u := by
  intro j u hj
  match j, hj with
  | 0, hj => simp at hj; subst hj; exact World.cell?_alloc_at _ _ _ _ rfl
theorem one_cellc (x y : Nat) : ∀ u ∈ [Value.complex .f64 x y], u.oneCell' = true := by
  intro u hu; simp at hu; subst hu; rfl
/-- The two rows while the pulse is laid into them. -/
structure PI (w wr : World) (A T L : Nat) (S : Nat → Bool) (z : Int) (D M i : Nat) (da dt : List (Nat × Nat)) : Prop where
  di : DI w wr A T L L da dt
  at1 : ∀ j, j < L → W2 (ab2 da[j]!) (peakF S z D i j)
  at2 : ∀ j, j < L → W2 (ab2 dt[j]!) (peakF S z (D + M) i j)
theorem PI.start {w wr : World} {A T L : Nat} {S : Nat → Bool} {z : Int} {D M : Nat} (h : DI w wr A T L L (List.replicate L (0, 0)) (List.replicate L (0, 0))) : PI w wr A T L S z D M 0 (List.replicate L (0, 0)) (List.replicate L (0, 0)) := by
  have e : ∀ D j, peakF S z D 0 j = 0 := fun D j => by unfold peakF; rw [if_neg (by omega)]
  have r : ∀ j, j < L → (List.replicate L ((0, 0) : Nat × Nat))[j]! = (0, 0) := fun j hj => by rw [getElem!_pos _ j (by simpa using hj)]; simp
  exact ⟨h, fun j hj => by rw [r j hj, e]; exact ⟨WH.zero, WH.zero⟩, fun j hj => by rw [r j hj, e]; exact ⟨WH.zero, WH.zero⟩⟩
theorem PI.step {w wr : World} {A T L : Nat} {S : Nat → Bool} {z : Int} {D M i k r : Nat} {da dt : List (Nat × Nat)} (h : PI w wr A T L S z D M i da dt) (hw : WH (ab r) (z * sg (S i))) (h1 : D + M + i < L) :
    PI w (((wr.drewN k).setCell ⟨A, D + i, none⟩ (.complex .f64 r 0)).setCell ⟨T, D + M + i, none⟩ (.complex .f64 r 0)) A T L S z D M (i + 1) (da.set (D + i) (r, 0)) (dt.set (D + M + i) (r, 0)) := by
  refine ⟨((h.di.mono (Up.drewN _ k)).putA _ _ _).putT _ _ _, fun j hj => ?_, fun j hj => ?_⟩
  · rw [peak_next, set_at _ _ _ _ (by rw [h.di.ans.len]; omega)]
    split
    · exact ⟨hw, WH.zero⟩
    · exact h.at1 j hj
  · rw [peak_next, set_at _ _ _ _ (by rw [h.di.ter.len]; omega)]
    split
    · exact ⟨hw, WH.zero⟩
    · exact h.at2 j hj
abbrev boxed (w : World) (v : Value) (K : Int) (D M B : Nat) : World := w.alloc (.cells #[v, .int .i32 K, .int .u8 D, .int .u8 M, .int .u8 B] 24)
theorem boxed_cell (w : World) (v : Value) (K : Int) (D M B : Nat) : (boxed w v K D M B).cell? ⟨w.heap.size, 0, none⟩ = some v ∧ (boxed w v K D M B).cell? ⟨w.heap.size, 1, none⟩ = some (.int .i32 K) ∧ (boxed w v K D M B).cell? ⟨w.heap.size, 2, none⟩ = some (.int .u8 D) ∧ (boxed w v K D M B).cell? ⟨w.heap.size, 3, none⟩ = some (.int .u8 M) ∧ (boxed w v K D M B).cell? ⟨w.heap.size, 4, none⟩ = some (.int .u8 B) := by
  have hh := heap_alloc_last w (.cells #[v, .int .i32 K, .int .u8 D, .int .u8 M, .int .u8 B] 24)
  refine ⟨?_, ?_, ?_, ?_, ?_⟩ <;> rw [cell_of_row _ _ _ _ _ _ hh] <;> rfl
theorem mul_abs {n : Nat} {z : Int} (hn : n ≤ 200) (hz : z.natAbs < 1048576) : -P53 < (n : Int) * z ∧ (n : Int) * z < P53 := by
  have h : ((n : Int) * z).natAbs ≤ 200 * 1048576 := by
    rw [Int.natAbs_mul, Int.natAbs_natCast]
    exact Nat.mul_le_mul hn (by omega)
  unfold P53
  omega
theorem peak_same {n xd r fz : Nat} {z : Int} (h : Hid (WH (ab xd) (n * z))) (hr : Hid (ab r = bin .mul (ab (floatOfInt .f64 (n : Int))) (ab fz))) (FZ : Hid (WH (ab fz) z)) (hn : n ≤ 200) (hz : z.natAbs < 1048576) : eqF (ab xd) (ab r) = true := by
  have b := mul_abs hn hz
  have h2 : WH (ab r) (n * z) := by
    rw [hr.out]
    exact (WH.int (by unfold P53; omega) (by unfold P53; omega)).mul FZ.out b.1 b.2
  rw [h.out.eq h2]; simp
theorem peak_small {S : Nat → Bool} {z : Int} {D n m1 p x y ra r2 fz : Nat} (HX : Hid (WH (ab x) (peakC S z D n p))) (HY : Hid (WH (ab y) 0)) (hra : Hid (ab ra = absF (ab x) (ab y))) (hr2 : Hid (ab r2 = bin .mul (ab (floatOfInt .f64 (m1 : Int))) (ab (Go.Fl.abs fz)))) (FZ : Hid (WH (ab fz) z)) (HM : Hid (n = m1 + 1)) (HN : Hid (p ≠ D)) (hn : n ≤ 200) (hz : z.natAbs < 1048576) : gtF (ab ra) (ab r2) = false := by
  have hm := HM.out
  subst hm
  have hc := peak_off S z (n := m1 + 1) (by omega) HN.out
  simp only [Nat.add_sub_cancel] at hc
  have hb : m1 * z.natAbs ≤ 200 * 1048576 := Nat.mul_le_mul (by omega) (by omega)
  have h1 := abs_whole HX.out HY.out (by unfold P53; omega) (by unfold P53; omega)
  rw [← hra.out] at h1
  have ha : WH (ab (Go.Fl.abs fz)) z.natAbs := by
    have := FZ.out.abs
    obtain ⟨q, e, fq, vq⟩ := FZ.out
    have e2 : fz = q := of_ab e
    subst e2
    rw [e] at this
    rw [Fnt.ab (fin_abs fq)]
    exact this
  have h2 : WH (ab r2) ((m1 : Int) * (z.natAbs : Int)) := by
    rw [hr2.out]
    have e : ((m1 * z.natAbs : Nat) : Int) = (m1 : Int) * (z.natAbs : Int) := Int.natCast_mul _ _
    exact (WH.int (by unfold P53; omega) (by unfold P53; omega)).mul ha (by unfold P53; omega) (by unfold P53; omega)
  rw [h1.gt h2]
  have e : ((m1 * z.natAbs : Nat) : Int) = (m1 : Int) * (z.natAbs : Int) := Int.natCast_mul _ _
  rw [← e]
  simp only [decide_eq_false_iff_not]
  omega
theorem row_peak {d : List (Nat × Nat)} {L : Nat} {G : Nat → Option Nat × Option Nat} {c : Nat → Int} (h : d.map ab2 = (List.range L).map G) (hG : ∀ p, p < L → W2 (G p) (c p)) : ∀ p, p < L → W2 (ab2 d[p]!) (c p) := by
  intro p hp
  have hl : d.length = L := by have := congrArg List.length h; simpa using this
  have e := congrArg (fun l => l[p]?) h
  simp only [List.getElem?_map, List.getElem?_range hp, Option.map_some] at e
  rw [List.getElem?_eq_getElem (by omega)] at e
  simp only [Option.map_some, Option.some.injEq] at e
  rw [getElem!_pos d p (by omega), e]
  exact hG p hp
set_option maxRecDepth 100000 in
theorem t3e (p : Option Addr) (cap : Nat) (K : Int) (D M B : Nat) (w : World) : Calls Try.prog 3 #[.agg #[.slice p 0 cap, .int .i32 K, .int .u8 D, .int .u8 M, .int .u8 B]] w (TU w) := by
  obtain ⟨b0, b1, b2, b3, b4⟩ := boxed_cell w (.slice p 0 cap) K D M B
  go_enter Try.func3, Try.ntmps3
  go_wp2_with fail
  go_quiet (fail)
  go_wp2_with (go_at_call 6; (with_reducible refine (t6 _).mono ?_); rintro e w1 ⟨rfl, u1⟩)
  go_ret
  exact ⟨rfl, ((Up.alloc _ _).trans (Up.drewN _ _)).trans u1.out⟩
set_option maxRecDepth 100000 in
set_option maxHeartbeats 8000000 in
theorem t3 (bb bo len cap n : Nat) (S : Nat → Bool) (K : Int) (D M B : Nat) (w : World) (hR : ∀ i, i < len → w.cell? ⟨bb, bo + i, none⟩ = some (.bool (S i))) (h0 : 1 ≤ len) (hc : len ≤ cap) (hD : D ≤ 255) (hM : M ≤ 255) (hB : B ≤ 255) (hn : len ≤ 200 ∧ n = len ∨ 200 < len ∧ n = 200) :
    Calls Try.prog 3 #[.agg #[.slice (some ⟨bb, bo, none⟩) len cap, .int .i32 K, .int .u8 D, .int .u8 M, .int .u8 B]] w (TU w) := by
  obtain ⟨b0, b1, b2, b3, b4⟩ := boxed_cell w (.slice (some ⟨bb, bo, none⟩) len cap) K D M B
  have HR : Hid (∀ i, i < n → ∀ k, ((boxed w (.slice (some ⟨bb, bo, none⟩) len cap) K D M B).drewN k).cell? ⟨bb, bo + i, none⟩ = some (.bool (S i))) := fun i hi k => cell_up (hR i (by omega)) ((Up.alloc _ _).trans (Up.drewN _ _))
  obtain ⟨z, hz⟩ : ∃ z, K.tmod 1048576 = z := ⟨_, rfl⟩
  clear hR
  have hzb : z.natAbs < 1048576 := by
    rw [← hz]
    have := Int.tmod_lt_of_pos K (b := 1048576) (by omega)
    have := Int.lt_tmod_of_pos K (b := 1048576) (by omega)
    omega
  obtain ⟨L, hL⟩ : ∃ L, D + M + n + B = L := ⟨_, rfl⟩
  have eL : (D : Int) + M + n + B = L := by omega
  have bL : L ≤ 2000 := by omega
  have n1 : 1 ≤ n := by omega
  have n2 : n ≤ 200 := by omega
  have nc : n ≤ cap := by omega
  have HL : Hid (D + M + n + B = L) := hL
  have n0 : ((n : Int) == 0) = false := by rw [beq_eq_false_iff_ne]; omega
  clear hL
  obtain ⟨i0, hi, hz0, hz1, hz2⟩ := info_parts info26
  have hmin : (if (200 : Int) < (len : Int) then (200 : Int) else (len : Int)) = (n : Int) := by split <;> omega
  have hnl : n ≤ len := by omega
  clear hn
  go_enter Try.func3, Try.ntmps3
  go_wp2_with fail
  go_quiet (fail)
  have UB : Hid (Up w ((boxed w (.slice (some ⟨bb, bo, none⟩) len cap) K D M B).drewN nq)) := (Up.alloc _ _).trans (Up.drewN _ _)
  have HB : Hid (∀ i, i < n → ((boxed w (.slice (some ⟨bb, bo, none⟩) len cap) K D M B).drewN nq).cell? ⟨bb, bo + i, none⟩ = some (.bool (S i))) := fun i hi => HR.out i hi nq
  clear HR b0 b1 b2 b3 b4
  generalize (boxed w (.slice (some ⟨bb, bo, none⟩) len cap) K D M B).drewN nq = WB at *
  go_wp2
  go_loopw [10, 11] (fun v vi wr => ∃ k : Nat, k ≤ n ∧ vi = .int .i64 k ∧ Hid (SgnRow WB wr v S k)) (fun _ vi _ => n - (intOf vi).toNat)
  case atStart => exact ⟨0, by omega, rfl, ⟨World.ownsRow_nil _ _ _ _, Up.refl _⟩⟩
  case round =>
    obtain ⟨k, hk, rfl, HS⟩ := hrel
    by_cases hlt : k < n
    · have hkz : (k : Int) < (n : Int) := by omega
      have hc1 := cell_up (HB.out k hlt) HS.out.up
      have hown := HS.out.row
      have sz : WB.heap.size ≤ wr.heap.size := HS.out.up.size
      cases hb : S k
      · rw [hb] at hc1
        have HX : Hid (sgnP (S k) = (13830554455654793216, 0)) := by show _ = _; rw [hb]; rfl
        clear hb
        go_wp2_with (at_builtin; refine wpList_append_own _ rfl _ _ 27 rfl WB.heap.size 28 i0 (.complex .f64 0 0) 1 16 Try.underlying27 hi hz0 hz1 hz2 rfl (by decide) _ _ _ rfl (hown.alloc _) ⟨wr.heap.size, 0, none⟩ 1 1 [.complex .f64 13830554455654793216 0] rfl rfl (cell_newc _ _ _ _) (one_cellc _ _) (by unfold maxLen; omega) (by omega) (by simp; omega) ?_)
        intro v' w3 hown' hgrow _
        have HS3 : Hid (SgnRow WB w3 v' S (k + 1)) := HS.out.push (Up.alloc _ _) HX.out hown' hgrow
        clear hown' hgrow hown HS
        go_wp2
        go_roundw
        case rel => exact ⟨k + 1, by omega, by go_num, HS3⟩
        case measure => simp [intOf]; omega
      · rw [hb] at hc1
        have HX : Hid (sgnP (S k) = (4607182418800017408, 0)) := by show _ = _; rw [hb]; rfl
        clear hb
        go_wp2_with (at_builtin; refine wpList_append_own _ rfl _ _ 27 rfl WB.heap.size 28 i0 (.complex .f64 0 0) 1 16 Try.underlying27 hi hz0 hz1 hz2 rfl (by decide) _ _ _ rfl (hown.alloc _) ⟨wr.heap.size, 0, none⟩ 1 1 [.complex .f64 4607182418800017408 0] rfl rfl (cell_newc _ _ _ _) (one_cellc _ _) (by unfold maxLen; omega) (by omega) (by simp; omega) ?_)
        intro v' w3 hown' hgrow _
        have HS3 : Hid (SgnRow WB w3 v' S (k + 1)) := HS.out.push (Up.alloc _ _) HX.out hown' hgrow
        clear hown' hgrow hown HS
        go_wp2
        go_roundw
        case rel => exact ⟨k + 1, by omega, by go_num, HS3⟩
        case measure => simp [intOf]; omega
    · obtain rfl : k = n := by omega
      obtain ⟨gl, cl, hv, hcl, hrd⟩ := HS.out.rd (by omega)
      subst hv
      have HP : Hid (RD wr gl 0 k (fun i => sgnP (S i))) := hrd
      have UW : Hid (Up w wr) := UB.out.trans HS.out.up
      clear hrd HS HB UB
      obtain ⟨fz, hfz⟩ : ∃ fz, floatOfInt .f64 z = fz := ⟨_, rfl⟩
      have FZ : Hid (WH (ab fz) z) := by show WH _ _; rw [← hfz]; exact WH.int (by unfold P53; omega) (by unfold P53; omega)
      rw [hfz]
      clear hfz hz
      go_wp2_with ((with_reducible refine upon_make (n := L) (by omega) ?_); intro _ _ _)
      rename_i A wa HA T w1 HT _ _
      have HI : Hid (PI wr w1 A T L S z D M 0 (List.replicate L (0, 0)) (List.replicate L (0, 0))) := PI.start (DI.start HA.out HT.out)
      clear HA HT hmin hnl hk hlt eL
      obtain ⟨W0, rfl⟩ : ∃ W0 : World, W0 = wr := ⟨_, rfl⟩
      have l1 : D + M + k ≤ L := by have := HL.out; omega
      go_loopw [14] (fun vi w2 => ∃ (i : Nat) (da dt : List (Nat × Nat)), i ≤ k ∧ vi = .int .i64 i ∧ Hid (PI W0 w2 A T L S z D M i da dt)) (fun vi _ => k - (intOf vi).toNat)
      case atStart => exact ⟨0, _, _, by omega, rfl, HI⟩
      case round =>
        clear HI
        obtain ⟨w2, rfl⟩ : ∃ w2 : World, w2 = wr := ⟨_, rfl⟩
        obtain ⟨i, da, dt, hi2, rfl, HI⟩ := hrel
        by_cases hlt : i < k
        · obtain ⟨x, HX, hx⟩ : ∃ x, Hid (sgnP (S i) = (x, 0)) ∧ w2.cell? ⟨gl, i, none⟩ = some (.complex .f64 x 0) := by
            obtain ⟨x, e⟩ : ∃ x, sgnP (S i) = (x, 0) := by cases S i <;> exact ⟨_, rfl⟩
            have := (HP.out.up HI.out.di.up) i hlt
            rw [Nat.zero_add] at this
            simp only [e] at this
            exact ⟨x, e, this⟩
          obtain ⟨o1, ho1⟩ : ∃ o1, D + i = o1 := ⟨_, rfl⟩
          obtain ⟨o2, ho2⟩ : ∃ o2, D + M + i = o2 := ⟨_, rfl⟩
          have e1 : (D : Int) + (i : Int) = o1 := by omega
          have e2 : (D : Int) + (M : Int) + (i : Int) = o2 := by omega
          have z1 : (o1 : Int) < (L : Int) := by omega
          have z2 : (o2 : Int) < (L : Int) := by omega
          have z3 : (i : Int) < (k : Int) := by omega
          have c1 := HI.out.di.ans.cell (i := o1) (by rw [HI.out.di.ans.len]; omega)
          have f1 := HI.out.di.ans.frz o1
          have i2 : (w2.cell? ⟨T, o2, none⟩).isSome = true := by rw [HI.out.di.ter.cell (by rw [HI.out.di.ter.len]; omega)]; rfl
          have f2 := HI.out.di.ter.frz o2
          have HO1 : Hid (D + i = o1) := ho1
          have HO2 : Hid (D + M + i = o2) := ho2
          clear ho1 ho2
          go_wp2_with ((with_reducible refine upon_fl (by simp) ?_); intro r kk hr; have cs : ((w2.drewN kk).setCell ⟨A, o1, none⟩ (.complex .f64 r 0)).cell? ⟨A, o1, none⟩ = some (.complex .f64 r 0) := World.cell?_setCell_same _ _ _ c1)
          have HW : WH (ab r) (z * sg (S i)) := by
            rw [hr.out]
            have hs := (sgn_w2 (S i)).1
            rw [HX.out] at hs
            have hb : (z * sg (S i)).natAbs < 1048576 := by cases S i <;> simp [sg] <;> omega
            exact FZ.out.mul hs (by unfold P53; omega) (by unfold P53; omega)
          have PS := HI.out.step (k := kk) HW (by omega)
          rw [HO1.out, HO2.out] at PS
          exact ⟨⟨i + 1, _, _, by omega, by go_num, PS⟩, by simp [intOf]; omega⟩
        · obtain rfl : i = k := by omega
          have a1 : Hid (∀ j, j < L → W2 (ab2 da[j]!) (peakF S z D i j)) := HI.out.at1
          have a2 : Hid (∀ j, j < L → W2 (ab2 dt[j]!) (peakF S z (D + M) i j)) := HI.out.at2
          have RA : Hid (RD w2 A 0 L (fun i => da[i]!)) := rd_take HI.out.di.ans (Nat.le_refl _)
          have RT : Hid (RD w2 T 0 L (fun i => dt[i]!)) := rd_take HI.out.di.ter (Nat.le_refl _)
          have RP : Hid (RD w2 gl 0 i (fun i => sgnP (S i))) := HP.out.up HI.out.di.up
          have U2 : Hid (Up w w2) := UW.out.trans HI.out.di.up
          clear HI HP UW
          have hw : L * i ≤ 16777216 := by have : L * i ≤ 2000 * 200 := Nat.mul_le_mul (by omega) (by omega)
                                           omega
          have Lz : (D : Int) < (L : Int) := by omega
          go_wp2_with (first
            | (go_at_call 7; (with_reducible refine (t7 _ _ _ _ _ _ _ _ _ _ _ RA.out RP.out (Nat.le_refl _) n1 (by omega) (by omega) hw).mono ?_); rintro e w3 ⟨v3, d3, rfl, r3, y3, q3⟩
               have l3 : d3.length = L := by have := congrArg List.length q3.out; simpa using this
               obtain ⟨g3, c3, hv3, hc3⟩ := row_form r3.out l3 (by omega)
               subst hv3
               have A3 : Hid (∀ p, p < L → W2 (ab2 d3[p]!) (peakC S z D i p)) := row_peak q3.out (fun p hp => held_peak (by omega) (by omega) (by omega) hp a1.out)
               have RT3 : Hid (RD w3 T 0 L (fun i => dt[i]!)) := RT.out.up y3.out
               have RP3 : Hid (RD w3 gl 0 i (fun i => sgnP (S i))) := RP.out.up y3.out
               clear RT RP q3)
            | (go_at_call 7; (with_reducible refine (t7 _ _ _ _ _ _ _ _ _ _ _ RT3.out RP3.out (Nat.le_refl _) n1 (by omega) (by omega) hw).mono ?_); rintro e w4 ⟨v4, d4, rfl, r4, y4, q4⟩
               have l4 : d4.length = L := by have := congrArg List.length q4.out; simpa using this
               obtain ⟨g4, c4, hv4, hc4⟩ := row_form r4.out l4 (by omega)
               subst hv4
               have A4 : Hid (∀ p, p < L → W2 (ab2 d4[p]!) (peakC S z (D + M) i p)) := row_peak q4.out (fun p hp => held_peak (by omega) (by omega) (by omega) hp a2.out)
               have R3 : Hid (CRow _ w4 (.slice (some ⟨g3, 0, none⟩) L c3) d3) := r3.out.up y4.out
               have U4 : Hid (Up w w4) := (U2.out.trans y3.out).trans y4.out
               obtain ⟨xd, yd, hxd⟩ : ∃ x y, d3[D]! = (x, y) := ⟨_, _, rfl⟩
               have cD := R3.out.cell (i := D) (by omega)
               have HD := A3.out D (by omega)
               rw [hxd] at cD HD
               rw [peak_at] at HD
               have HDx : Hid (WH (ab xd) (i * z)) := HD.1
               have qD : eqF (ab yd) (ab 0) = true := HD.2.eq WH.zero
               clear RT3 RP3 q4 HD hxd)
            | ((with_reducible refine upon_fl (by simp) ?_); intro r kk hr; have qr : eqF (ab xd) (ab r) = true := peak_same HDx hr FZ (by omega) hzb))
          have U5 : Hid (Up w (w4.drewN kk)) := U4.out.trans (Up.drewN _ _)
          have R35 : Hid (CRow _ (w4.drewN kk) (.slice (some ⟨g3, 0, none⟩) L c3) d3) := R3.out.up (Up.drewN _ _)
          have R45 : Hid (CRow _ (w4.drewN kk) (.slice (some ⟨g4, 0, none⟩) L c4) d4) := r4.out.up (Up.drewN _ _)
          generalize w4.drewN kk = W5 at *
          clear R3 r3 r4 cD qD qr hr HDx U4 U2 y3 y4 a1 a2 RA hw
          obtain ⟨m1, hm1⟩ : ∃ m1, i = m1 + 1 := ⟨i - 1, by omega⟩
          have em : (i : Int) - 1 = m1 := by omega
          have HM1 : Hid (i = m1 + 1) := hm1
          clear hm1
          generalize (D : Int) + (M : Int) = dm
          go_loopw [19] (fun vi w6 => ∃ p : Nat, p ≤ L ∧ vi = .int .i64 p ∧ Hid (Up W5 w6)) (fun vi _ => L - (intOf vi).toNat)
          case atStart => exact ⟨0, by omega, rfl, Up.refl _⟩
          case round =>
            obtain ⟨p, hp, rfl, HU⟩ := hrel
            by_cases hlt : p < L
            · have pz : (p : Int) < (L : Int) := by omega
              have p0 : (0 : Int) ≤ (p : Int) := by omega
              obtain ⟨x, y, hxy⟩ : ∃ x y, d3[p]! = (x, y) := ⟨_, _, rfl⟩
              have cP := (R35.out.up HU.out).cell (i := p) (by omega)
              have HA := A3.out p hlt
              rw [hxy] at cP HA
              have HX : Hid (WH (ab x) (peakC S z D i p)) := HA.1
              have HY : Hid (WH (ab y) 0) := HA.2
              clear HA hxy
              obtain ⟨o, ho⟩ : ∃ o, p + M = o := ⟨_, rfl⟩
              have eo : (p : Int) + (M : Int) = o := by omega
              by_cases hoL : o < L
              · have oz : (o : Int) < (L : Int) := by omega
                have o0 : (0 : Int) ≤ (o : Int) := by omega
                obtain ⟨u, v, huv⟩ : ∃ x y, d4[o]! = (x, y) := ⟨_, _, rfl⟩
                have cO := (R45.out.up HU.out).cell (i := o) (by omega)
                have HA := A4.out o hoL
                rw [huv] at cO HA
                rw [← ho, peak_move] at HA
                have HA1 : WH (ab u) (peakC S z D i p) := HA.1
                have HA2 : WH (ab v) 0 := HA.2
                have qx : eqF (ab x) (ab u) = true := by rw [HX.out.eq HA1]; simp
                have qy : eqF (ab y) (ab v) = true := by rw [HY.out.eq HA2]; simp
                clear HA1 HA2
                clear HA huv ho
                by_cases hpd : p = D
                · subst hpd
                  go_wp2_with fail
                  go_quiet (fail)
                  go_wp2
                  go_roundw
                  case rel => exact ⟨p + 1, by omega, by go_num, HU.out.trans (Up.drewN _ _)⟩
                  case measure => simp [intOf]; omega
                · have ep : ((p : Int) == (D : Int)) = false := by rw [beq_eq_false_iff_ne]; omega
                  have ep2 : ¬ (p : Int) = (D : Int) := by omega
                  have HN : Hid (p ≠ D) := hpd
                  clear hpd
                  go_wp2_with (first
                    | (go_at_call 8; (with_reducible refine (t8 _ _ _).mono ?_); rintro e w7 ⟨ra, k7, rfl, rfl, hra⟩)
                    | (go_at_call 9; (with_reducible refine (t9 _ _).mono ?_); rintro e w8 ⟨rfl, rfl⟩)
                    | ((with_reducible refine upon_fl (by simp) ?_); intro r2 k2 hr2; have qg : gtF (ab ra) (ab r2) = false := peak_small HX HY hra hr2 FZ HM1 HN n2 hzb))
                  go_quiet (fail)
                  go_wp2
                  go_roundw
                  case rel => exact ⟨p + 1, by omega, by go_num, HU.out.trans (Up.drewN _ _)⟩
                  case measure => simp [intOf]; omega
              · have oz : ¬ (o : Int) < (L : Int) := by omega
                clear ho
                by_cases hpd : p = D
                · subst hpd
                  go_wp2_with fail
                  go_quiet (fail)
                  go_wp2
                  go_roundw
                  case rel => exact ⟨p + 1, by omega, by go_num, HU.out.trans (Up.drewN _ _)⟩
                  case measure => simp [intOf]; omega
                · have ep : ((p : Int) == (D : Int)) = false := by rw [beq_eq_false_iff_ne]; omega
                  have ep2 : ¬ (p : Int) = (D : Int) := by omega
                  have HN : Hid (p ≠ D) := hpd
                  clear hpd
                  go_wp2_with (first
                    | (go_at_call 8; (with_reducible refine (t8 _ _ _).mono ?_); rintro e w7 ⟨ra, k7, rfl, rfl, hra⟩)
                    | (go_at_call 9; (with_reducible refine (t9 _ _).mono ?_); rintro e w8 ⟨rfl, rfl⟩)
                    | ((with_reducible refine upon_fl (by simp) ?_); intro r2 k2 hr2; have qg : gtF (ab ra) (ab r2) = false := peak_small HX HY hra hr2 FZ HM1 HN n2 hzb))
                  go_quiet (fail)
                  go_wp2
                  go_roundw
                  case rel => exact ⟨p + 1, by omega, by go_num, HU.out.trans (Up.drewN _ _)⟩
                  case measure => simp [intOf]; omega
            · obtain rfl : p = L := by omega
              go_wp2_with (go_at_call 6; (with_reducible refine (t6 _).mono ?_); rintro e w9 ⟨rfl, u9⟩)
              go_ret
              exact ⟨rfl, (U5.out.trans HU.out).trans u9.out⟩
end Go.Proofs.Ytfimolhndbfpgaa
