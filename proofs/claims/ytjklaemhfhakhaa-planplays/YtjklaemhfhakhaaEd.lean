/- Load: the walk. -/
import Derived.Test.YtjklaemhfhakhaaEa
import Derived.Deep.DeepCutAuto
namespace Go.Proofs.Ytjklaemhfhakhaa
open Go.ChangeShapes Go.WideShapes Go.ChangeAt Go.RowKit

/-- Load's answer. -/
def loadV : Option (Nat × Nat) → Value
  | none => .tuple #[.int .i64 0, .int .i64 0]
  | some (n, d) => .tuple #[.int .i64 (n : Int), .int .i64 (d : Int)]
theorem loadN_none {E L : Nat → Nat} {k : Nat} (h : loadN E L k = none) : ∀ n, k ≤ n → loadN E L n = none
  | 0, hn => by
    have : k = 0 := by omega
    subst this; exact h
  | n + 1, hn => by
    rcases Nat.lt_or_ge n k with q | q
    · have : k = n + 1 := by omega
      subst this; exact h
    · show (match loadN E L n with | none => none | some (a, d) => loadS a d (E n) (L n)) = none
      rw [loadN_none h n q]
theorem t13n (w : World) : Calls Try.prog 13 #[.pointer none] w (VU w (.tuple #[.int .i64 0, .int .i64 0])) := by
  go_enter Try.func13, Try.ntmps13
  go_wp2
  go_ret2
  exact ⟨rfl, Up.refl _⟩
set_option maxRecDepth 20000 in
set_option maxHeartbeats 8000000 in
theorem t13 {w : World} {L : Ly} {n : Nat} {p : Pl} (h : PW w L n p) (hb : PB n p) (E L' : Nat → Nat) (hE : ∀ i, i < n → ((E i : Nat) : Int) = (p.c i).last.e ∧ ((L' i : Nat) : Int) = (p.c i).last.l ∧ 1 ≤ E i ∧ E i ≤ 1099511627776 ∧ L' i ≤ 1099511627776) (hn : n ≤ 256) : Calls Try.prog 13 #[.pointer (some ⟨L.bp, 0, none⟩)] w (VU w (loadV (loadN E L' n))) := by
  have H : Hid (PW w L n p) := h
  have HB : Hid (PB n p) := hb
  have HE : Hid (∀ i, i < n → ((E i : Nat) : Int) = (p.c i).last.e ∧ ((L' i : Nat) : Int) = (p.c i).last.l ∧ 1 ≤ E i ∧ E i ≤ 1099511627776 ∧ L' i ≤ 1099511627776) := hE
  have h1 := h.p1
  have HNN : Hid (n ≤ 256) := hn
  clear h hb hE hn
  go_enter Try.func13, Try.ntmps13
  go_wp2_with fail
  go_loopw [4, 5, 6, 7, 8, 9, 10, 11, 12, 20] (fun v4 v5 _ _ _ _ _ _ _ v20 wr => ∃ (k a d : Nat), k ≤ n ∧ v4 = .int .u64 (a : Int) ∧ v5 = .int .u64 (d : Int) ∧ v20 = .int .i64 k ∧ Hid (loadN E L' k = some (a, d) ∧ a ≤ 4611686018427387904 ∧ 1 ≤ d ∧ d ≤ 4611686018427387904 ∧ Up w wr)) (fun _ _ _ _ _ _ _ _ _ v20 _ => n - (intOf v20).toNat)
  case atStart => exact ⟨0, 0, 1, by omega, rfl, rfl, rfl, rfl, by omega, by omega, by omega, Up.refl _⟩
  case round =>
    obtain ⟨k, a, d, hk, rfl, rfl, rfl, HX⟩ := hrel
    rename World => wr
    by_cases hlt : k < n
    · have z1 : (k : Int) < (n : Int) := by omega
      have z2 : (0 : Int) ≤ (k : Int) := by omega
      have h2 := cell_up h1 HX.out.2.2.2.2
      have C30 : ∀ W, Hid (Up wr W → Calls Try.prog 30 #[.pointer (some ⟨L.bt, k * 2, none⟩)] W (VU W (.agg #[.int .i64 ((E k : Nat) : Int), .int .i64 ((L' k : Nat) : Int), .int .i64 (p.c k).last.r]))) := by
        intro W hu
        have := t30 (H.out.up (HX.out.2.2.2.2.trans hu)) hlt (HB.out.c k hlt).few
        rw [← (HE.out k hlt).1, ← (HE.out k hlt).2.1] at this
        exact this
      obtain ⟨x1, x2, x3, x4, x5⟩ := HE.out k hlt
      obtain ⟨y1, y2, y3, y4, y5⟩ := HX.out
      obtain ⟨g, q1, q2, a1, a2, b1, b2, s1, s2, d1, d2, up, dn, hF⟩ := load_facts y2 y3 y4 x3 x4 x5
      have HF : Hid (LF a d (E k) (L' k) g q1 q2 a1 a2 b1 b2 s1 s2 d1 d2 up dn) := hF
      have HW1 : Hid (1 ≤ E k ∧ E k ≤ 1099511627776 ∧ L' k ≤ 1099511627776) := ⟨x3, x4, x5⟩
      have HLS : Hid (loadN E L' (k + 1) = loadS a d (E k) (L' k)) := by show (match loadN E L' k with | none => none | some (n, d) => loadS n d (E k) (L' k)) = _; rw [y1]
      have w1 : IntKind.u64.wrap ((E k : Nat) : Int) = ((E k : Nat) : Int) := by rw [IntKind.wrap_u64]; omega
      have w2 : IntKind.u64.wrap ((L' k : Nat) : Int) = ((L' k : Nat) : Int) := by rw [IntKind.wrap_u64]; omega
      have HUP : Hid (Up w wr) := y5
      clear hF x1 x2 x3 x4 x5 y1 y2 y3 y4 y5
      generalize hr0 : (p.c k).last.r = r0 at *
      clear hr0
      generalize hek : E k = e at *
      generalize hlk : L' k = l at *
      clear hek hlk
      go_upto_region 8 with (go_at_call 30; (with_reducible refine ((C30 _).out (Up.refl _)).mono ?_); rintro e w1 ⟨rfl, HU1⟩)
      have l1 := Nat.le_refl w1.heap.size
      have HT : Hid (TkAt (w1.alloc (.cells #[.int .i64 (e : Int), .int .i64 (l : Int), .int .i64 r0] 26)) w1.heap.size 0 ⟨e, l, r0⟩) := by
        have e0 := heap_alloc_last w1 (.cells #[.int .i64 (e : Int), .int .i64 (l : Int), .int .i64 r0] 26)
        exact ⟨(row_cell e0 0).1, by rw [Nat.zero_add]; exact (row_cell e0 1).1, by rw [Nat.zero_add]; exact (row_cell e0 2).1⟩
      have HU2 : Hid (Up wr (w1.alloc (.cells #[.int .i64 (e : Int), .int .i64 (l : Int), .int .i64 r0] 26))) := HU1.out.trans (Up.alloc _ _)
      obtain ⟨t0, t1, t2⟩ := HT.out
      simp only [Nat.zero_add] at t0 t1 t2
      generalize w1.alloc (.cells #[.int .i64 (e : Int), .int .i64 (l : Int), .int .i64 r0] 26) = W0 at *
      clear l1 HU1 C30
      go_region
      go_upto_region 10 with (go_at_call 31; (with_reducible refine (HF.out.cg _).mono ?_); rintro e w2 ⟨rfl, HU3⟩)
      have HU4 : Hid (Up wr w2) := (HU2.out.trans (Up.drew _)).trans HU3.out
      clear HU2 HU3 HT t0 t1 t2 h2
      refine wp_region_up 12 [cV (.int .u64 a), cV (.int .u64 e), cV (.int .u64 g), cV (.int .u64 q1), cV (.agg #[.int .u64 a1, .int .u64 a2]), cV (.int .u64 l), cV (.int .u64 d), cV (.int .u64 g), cV (.int .u64 q2), cV (.agg #[.int .u64 b1, .int .u64 b2]), cV (.agg #[.int .u64 s1, .int .u64 s2]), cP (w2) (.cells #[.int .u64 0, .int .u64 0] 81)] (by kernel_rfl) (by decide) rfl (by kernel_rfl) (by kernel_rfl) ⟨mV _, mV _, mV _, mV _, mV _, mV _, mV _, mV _, mV _, mV _, mV _, mP _ _, trivial⟩ ?_
      intro vals
      simp only [List.take_succ_cons, List.take_zero, valsN, FillL, Act.put, List.setIfInBounds_toArray, List.set_cons_succ, List.set_cons_zero, Nat.zero_add, Nat.reduceAdd]
      refine ⟨⟨fun v hu h => ?_, fun v hu h => ?_, fun v hu h => ?_, fun v hu h => ?_, fun v hu h => ?_, fun v hu h => ?_, fun v hu h => ?_, fun v hu h => ?_, fun v hu h => ?_, fun v hu h => ?_, fun v hu h => ?_, fun v hu h => ?_, trivial⟩, fun v hu h => ?_⟩
      all_goals have h0 := hu
      · refine UpO.is _ rfl rfl ?_
        go_simp
      · refine UpO.is _ rfl rfl ?_
        go_simp
      · refine UpO.is _ rfl rfl ?_
        go_simp
      · have e1 : vals 1 = .int .u64 e := h 1 (by decide) (by kernel_rfl)
        have e2 : vals 2 = .int .u64 g := h 2 (by decide) (by kernel_rfl)
        have x1 := HF.out.x1
        have g0 := HF.out.g0
        have g1 : ¬ g = 0 := by omega
        refine UpO.is _ rfl rfl ?_
        rw [e1, e2]
        go_simp
        rw [← Int.tdiv_eq_ediv_of_nonneg (by omega)]
        exact x1
      · have e0 : vals 0 = .int .u64 a := h 0 (by decide) (by kernel_rfl)
        have e3 : vals 3 = .int .u64 q1 := h 3 (by decide) (by kernel_rfl)
        refine UpO.call #[.int .u64 a, .int .u64 q1] rfl rfl (by rw [e0, e3]; kernel_rfl) (enters Try.func32 (by kernel_rfl) (by kernel_rfl) _ _) ?_
        exact (HF.out.c1 _).mono vu_cV
      · refine UpO.is _ rfl rfl ?_
        go_simp
      · refine UpO.is _ rfl rfl ?_
        go_simp
      · refine UpO.is _ rfl rfl ?_
        go_simp
      · have e6 : vals 6 = .int .u64 d := h 6 (by decide) (by kernel_rfl)
        have e7 : vals 7 = .int .u64 g := h 7 (by decide) (by kernel_rfl)
        have x1 := HF.out.x2
        have g0 := HF.out.g0
        have g1 : ¬ g = 0 := by omega
        refine UpO.is _ rfl rfl ?_
        rw [e6, e7]
        go_simp
        rw [← Int.tdiv_eq_ediv_of_nonneg (by omega)]
        exact x1
      · have e5 : vals 5 = .int .u64 l := h 5 (by decide) (by kernel_rfl)
        have e8 : vals 8 = .int .u64 q2 := h 8 (by decide) (by kernel_rfl)
        refine UpO.call #[.int .u64 l, .int .u64 q2] rfl rfl (by rw [e5, e8]; kernel_rfl) (enters Try.func32 (by kernel_rfl) (by kernel_rfl) _ _) ?_
        exact (HF.out.c2 _).mono vu_cV
      · have e4 : vals 4 = .agg #[.int .u64 a1, .int .u64 a2] := h 4 (by decide) (by kernel_rfl)
        have e9 : vals 9 = .agg #[.int .u64 b1, .int .u64 b2] := h 9 (by decide) (by kernel_rfl)
        refine UpO.call #[.agg #[.int .u64 a1, .int .u64 a2], .agg #[.int .u64 b1, .int .u64 b2]] rfl rfl (by rw [e4, e9]; kernel_rfl) (enters Try.func33 (by kernel_rfl) (by kernel_rfl) _ _) ?_
        exact (HF.out.c3 _).mono vu_cV
      · refine UpO.al hu rfl ?_
        go_simp
      · have e10 : vals 10 = .agg #[.int .u64 s1, .int .u64 s2] := h 10 (by decide)
        obtain ⟨b11, e11, hb11, hh11⟩ : cP (w2) (.cells #[.int .u64 0, .int .u64 0] 81) (vals 11) v := h 11 (by decide)
        clear h
        rw [e10, e11]
        clear e10 e11
        simp only [List.drop_succ_cons, List.drop_zero]
        have HU5 : Hid (Up wr v) := HU4.out.trans hu
        have c0 := (row_cell hh11.out 0).1
        have c1 := (row_cell hh11.out 1).1
        have c2 := (row_cell hh11.out 0).2
        have c3 := (row_cell hh11.out 1).2
        have HB11 : Hid (wr.heap.size ≤ b11) := Nat.le_trans HU4.out.size hb11
        clear hu hb11 hh11 h0 HU4
        replace c0 : v.cell? ⟨b11, 0, none⟩ = some (.int .u64 0) := c0
        replace c1 : v.cell? ⟨b11, 1, none⟩ = some (.int .u64 0) := c1
        go_upto_region 11 with (fail)
        have HU6 : Hid (Up wr ((v.setCell ⟨b11, 0, none⟩ (.int .u64 s1)).setCell ⟨b11, 1, none⟩ (.int .u64 s2))) := (RowKit.Below.setCell HU5.out HB11.out _).setCell HB11.out _
        have f0 : ((v.setCell ⟨b11, 0, none⟩ (.int .u64 s1)).setCell ⟨b11, 1, none⟩ (.int .u64 s2)).cell? ⟨b11, 0, none⟩ = some (.int .u64 s1) := cell_other (World.cell?_setCell_same _ _ _ c0) (Or.inr (by show (0 : Nat) ≠ 1; omega))
        have f1 : ((v.setCell ⟨b11, 0, none⟩ (.int .u64 s1)).setCell ⟨b11, 1, none⟩ (.int .u64 s2)).cell? ⟨b11, 1, none⟩ = some (.int .u64 s2) := World.cell?_setCell_same _ _ _ (cell_other c1 (Or.inr (by show (1 : Nat) ≠ 0; omega)))
        generalize (v.setCell ⟨b11, 0, none⟩ (.int .u64 s1)).setCell ⟨b11, 1, none⟩ (.int .u64 s2) = w3 at *
        clear c0 c1 c2 c3 HU5
        have x2 := HF.out.x2
        have gz := HF.out.g0
        rw [Int.tdiv_eq_ediv_of_nonneg (by omega)] at x2
        have g1 : ¬ g = 0 := by omega
        go_upto_region 12 with (go_at_call 32; (with_reducible refine (HF.out.c4 _).mono ?_); rintro e w4 ⟨rfl, HU7⟩)
        have HU8 : Hid (Up wr (w4.alloc (.cells #[.int .u64 d1, .int .u64 d2] 81))) := (HU6.out.trans HU7.out).trans (Up.alloc _ _)
        have g0 := cell_up f0 (HU7.out.trans (Up.alloc w4 (.cells #[.int .u64 d1, .int .u64 d2] 81)))
        have g1b := cell_up f1 (HU7.out.trans (Up.alloc w4 (.cells #[.int .u64 d1, .int .u64 d2] 81)))
        have e0 := heap_alloc_last w4 (.cells #[.int .u64 d1, .int .u64 d2] 81)
        have g2 : (w4.alloc (.cells #[.int .u64 d1, .int .u64 d2] 81)).cell? ⟨w4.heap.size, 0, none⟩ = some (.int .u64 d1) := (row_cell e0 0).1
        have g3 : (w4.alloc (.cells #[.int .u64 d1, .int .u64 d2] 81)).cell? ⟨w4.heap.size, 1, none⟩ = some (.int .u64 d2) := (row_cell e0 1).1
        generalize w4.alloc (.cells #[.int .u64 d1, .int .u64 d2] 81) = w5 at *
        generalize w4.heap.size = b12 at *
        clear e0 f0 f1 HU6 HU7 x2 g1 gz
        cases up
        · cases dn
          · obtain ⟨n', d', h, o1, o2, o3, o4, o5, o6, o7, o8⟩ := HF.out.ok rfl rfl
            have HO : Hid (loadS a d e l = some (n', d') ∧ n' ≤ 4611686018427387904 ∧ 1 ≤ d' ∧ d' ≤ 4611686018427387904) := ⟨o1, o2, o3, o4⟩
            have HC7 : ∀ w, Hid (Calls Try.prog 31 #[.int .u64 s2, .int .u64 d2] w (VU w (.int .u64 h))) := o6
            have hz : ¬ h = 0 := by omega
            have hz2 : (h == 0) = false := by simp; omega
            clear o1 o2 o3 o4 o6
            go_upto_region 15 with (first
              | (go_at_call 34; (with_reducible refine (HF.out.c5 _).mono ?_); rintro e w6 ⟨rfl, HU9⟩; (have k0 := cell_up g2 HU9.out); (have k1 := cell_up g3 HU9.out); (have k2 := cell_up g1b HU9.out))
              | (go_at_call 34; (with_reducible refine (HF.out.c6 _).mono ?_); rintro e w7 ⟨rfl, HU10⟩; (have m1 := cell_up k1 HU10.out); (have m2 := cell_up k2 HU10.out))
              | (go_at_call 31; (with_reducible refine (HC7 _).out.mono ?_); rintro e w8 ⟨rfl, HU11⟩; (have p1 := cell_up m1 HU11.out); (have p2 := cell_up m2 HU11.out)))
            clear k0 k1 k2 m1 m2 g0 g1b g2 g3
            have z3 : (n : Int) ≤ 256 := by have := HNN.out; omega
            go_region
            try go_wp2_with fail
            go_roundw
            case rel => exact ⟨k + 1, n', d', by omega, by go_num, by go_num, by go_num, HLS.out.trans HO.out.1, HO.out.2.1, HO.out.2.2.1, HO.out.2.2.2, HUP.out.trans (((HU8.out.trans HU9.out).trans (HU10.out.trans HU11.out)).trans (Up.drew _))⟩
            case measure => simp [intOf]; omega
          · go_wp2_with (first
              | (go_at_call 34; (with_reducible refine (HF.out.c5 _).mono ?_); rintro e w6 ⟨rfl, HU9⟩; (have k0 := cell_up g2 HU9.out); (have k1 := cell_up g3 HU9.out))
              | (go_at_call 34; (with_reducible refine (HF.out.c6 _).mono ?_); rintro e w7 ⟨rfl, HU10⟩))
            go_ret2
            refine ⟨?_, HUP.out.trans (HU8.out.trans (HU9.out.trans HU10.out))⟩
            rw [loadN_none (HLS.out.trans (HF.out.bad (Or.inr rfl))) n (by omega)]
            rfl
        · go_wp2_with (go_at_call 34; (with_reducible refine (HF.out.c5 _).mono ?_); rintro e w6 ⟨rfl, HU9⟩)
          go_ret2
          refine ⟨?_, HUP.out.trans (HU8.out.trans HU9.out)⟩
          rw [loadN_none (HLS.out.trans (HF.out.bad (Or.inl rfl))) n (by omega)]
          rfl

    · obtain rfl : k = n := by omega
      have w1 : IntKind.i64.wrap (a : Int) = (a : Int) := by have := HX.out; rw [IntKind.wrap_i64]; omega
      have w2 : IntKind.i64.wrap (d : Int) = (d : Int) := by have := HX.out; rw [IntKind.wrap_i64]; omega
      go_wp2
      go_ret2
      refine ⟨?_, HX.out.2.2.2.2⟩
      rw [HX.out.1]
      rfl
end Go.Proofs.Ytjklaemhfhakhaa
