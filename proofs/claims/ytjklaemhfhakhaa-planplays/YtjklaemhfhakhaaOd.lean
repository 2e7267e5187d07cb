/- A step of the law: Until so many ticks further on; nothing. -/
import Derived.Test.YtjklaemhfhakhaaOb
import Derived.Test.YtjklaemhfhakhaaLo
import Derived.Test.YtjklaemhfhakhaaNy
namespace Go.Proofs.Ytjklaemhfhakhaa
open Go.ChangeShapes Go.WideShapes Go.ChangeAt Go.RowKit

set_option maxHeartbeats 4000000 in
theorem t12v {w : World} {L : Ly} {M : RL} {n N : Nat} {p : Pl} {X : Nat → On} (h : Both w L M n N p X) (hn : n ≤ 256) (hN : N ≤ 800000) (t0 i e l r : Int) : Calls Try.prog 12 #[.pointer (some ⟨L.bp, 0, none⟩), .pointer (some ⟨M.bp, 0, none⟩), .agg #[.int .i64 3, .int .i64 t0, .int .i64 i, .int .i64 e, .int .i64 l, .int .i64 r]] w (StepR w L M n N) := by
  have H : Hid (Both w L M n N p X) := h
  have HU : Hid (Up w (w.alloc (.cells #[.int .i64 3, .int .i64 t0, .int .i64 i, .int .i64 e, .int .i64 l, .int .i64 r] 36))) := Up.alloc _ _
  have HS : Hid (StpAt (w.alloc (.cells #[.int .i64 3, .int .i64 t0, .int .i64 i, .int .i64 e, .int .i64 l, .int .i64 r] 36)) w.heap.size 0 ⟨3, t0, i, e, l, r⟩) := stp_new _ _ _ _ _ _ _
  obtain ⟨hw1, hw2⟩ := h.two.now
  obtain ⟨m, hm⟩ : ∃ m : Int, m = min t0 1048576 := ⟨_, rfl⟩
  obtain ⟨k, hk⟩ : ∃ k : Int, k = max 0 m := ⟨_, rfl⟩
  have hk1 : 0 ≤ k := by omega
  have hk2 : k ≤ 1048576 := by omega
  have HM : Hid (m = min t0 1048576) := hm
  have HK : Hid (k = max 0 m) := hk
  clear h hm hk
  obtain ⟨t, ht0⟩ : ∃ t : Int, p.now + k = t := ⟨_, rfl⟩
  have ht : -9223372036854775808 ≤ t := by omega
  have ht9 : t ≤ 9223372036854775807 := by omega
  obtain ⟨nw, hnw⟩ : ∃ nw : Int, p.now = nw := ⟨_, rfl⟩
  have HNW : Hid (p.now = nw) := hnw
  rw [hnw] at hw1 hw2 ht0
  clear hnw
  go_enter Try.func12, Try.ntmps12
  go_upto_region 10 with fail
  have HB0 : Hid (Both (w.alloc (.cells #[.int .i64 3, .int .i64 t0, .int .i64 i, .int .i64 e, .int .i64 l, .int .i64 r] 36)) L M n N p X) := H.out.up HU.out
  generalize w.alloc (.cells #[.int .i64 3, .int .i64 t0, .int .i64 i, .int .i64 e, .int .i64 l, .int .i64 r] 36) = W0 at *
  generalize w.heap.size = G at *
  refine wp_region_up 6 [cV (.pointer (some ⟨L.bp, 0, none⟩)), cV (.int .i64 nw), cV (.pointer (some ⟨G, 1, none⟩)), cV (.int .i64 t0), cV (.int .i64 m), cV (.int .i64 k)] (by kernel_rfl) (by decide) rfl (by kernel_rfl) (by kernel_rfl) ⟨mV _, mV _, mV _, mV _, mV _, mV _, trivial⟩ ?_
  intro vals
  simp only [List.take_succ_cons, List.take_zero, valsN, FillL, Act.put, List.setIfInBounds_toArray, List.set_cons_succ, List.set_cons_zero, Nat.zero_add, Nat.reduceAdd]
  refine ⟨⟨fun v hu h => ?_, fun v hu h => ?_, fun v hu h => ?_, fun v hu h => ?_, fun v hu h => ?_, fun v hu h => ?_, trivial⟩, fun v hu h => ?_⟩
  all_goals have h0 := hu
  · refine UpO.is _ rfl rfl ?_
    go_simp
  · have e0 : vals 0 = .pointer (some ⟨L.bp, 0, none⟩) := h 0 (by decide) (by kernel_rfl)
    refine UpO.call #[.pointer (some ⟨L.bp, 0, none⟩)] rfl rfl (by rw [e0]; kernel_rfl) (enters Try.func15 (by kernel_rfl) (by kernel_rfl) _ _) ?_
    refine (t15 (HB0.out.pw.up h0)).mono ?_
    rintro e' w' ⟨rfl, rfl⟩
    exact ⟨_, rfl, by rw [HNW.out], Up.refl _⟩
  · refine UpO.is _ rfl rfl ?_
    go_simp
  · have e2 : vals 2 = .pointer (some ⟨G, 1, none⟩) := h 2 (by decide) (by kernel_rfl)
    obtain ⟨z0, z1, z2, z3, z4, z5⟩ := HS.out.up h0
    simp only [Nat.zero_add] at z0 z1 z2 z3 z4 z5
    refine UpO.is _ rfl rfl ?_
    rw [e2]
    go_simp
  · have e3 : vals 3 = .int .i64 t0 := h 3 (by decide) (by kernel_rfl)
    have hmm := HM.out
    rcases Int.lt_or_le 1048576 t0 with q | q
    · obtain rfl : m = 1048576 := by omega
      clear hmm
      refine UpO.is _ rfl rfl ?_
      rw [e3]
      go_simp
    · obtain rfl : m = t0 := by omega
      have q1 : ¬ (1048576 : Int) < m := by omega
      clear hmm
      refine UpO.is _ rfl rfl ?_
      rw [e3]
      go_simp
  · have e4 : vals 4 = .int .i64 m := h 4 (by decide) (by kernel_rfl)
    have hkk := HK.out
    rcases Int.lt_or_le 0 m with q | q
    · obtain rfl : k = m := by omega
      clear hkk
      refine UpO.is _ rfl rfl ?_
      rw [e4]
      go_simp
    · obtain rfl : k = 0 := by omega
      have q1 : ¬ (0 : Int) < m := by omega
      clear hkk
      refine UpO.is _ rfl rfl ?_
      rw [e4]
      go_simp
  · have e1 : vals 1 = .int .i64 nw := h 1 (by decide)
    have e5 : vals 5 = .int .i64 k := h 5 (by decide)
    clear h
    rw [e1, e5]
    clear e1 e5
    simp only [List.drop_succ_cons, List.drop_zero]
    have HB : Hid (Both v L M n N p X) := HB0.out.up hu
    have HUV : Hid (Up w v) := HU.out.trans hu
    have HSV : Hid (StpAt v G 0 ⟨3, t0, i, e, l, r⟩) := HS.out.up hu
    clear HB0 HU HS
    have HU := HUV
    have HS := HSV
    clear HUV HSV hu h0
    obtain ⟨z0, z1, z2, z3, z4, z5⟩ := HS.out
    simp only [Nat.zero_add] at z0 z1 z2 z3 z4 z5
    go_upto_region 12 with fail
    generalize v = W at *
    have HF0 : Hid (Few n 800000 p) := fun i hi => Nat.le_trans (HB.out.two.few i hi) hN
    go_wp2_with (first
      | (go_at_call 18; (with_reducible refine (t18 HB.out.pw HB.out.lo (HB.out.two.pb (by omega)) hn t ht).mono ?_); rintro q w1 ⟨pp, c, L1, rfl, HS1, HP1, HPB1, HK1⟩; (have HA1 := HB.out.ap.left HB.out.rw' HK1.out.g); (have HAA : Hid (RW w1 M n p.now X ∧ Aside L1 M n) := HA1); clear HA1)
      | (go_at_call 29; ((with_reducible refine (t29 (n := n) (p := p) (X := X) ⟨HAA.out.1, HB.out.two.ab, HB.out.two.ok, HB.out.two.pb (by omega)⟩ HB.out.mo hn HF0.out t ht).mono ?_); rintro q w2 ⟨pp2, c2, M1, X1, rfl, HS2, HR2, HK2, HF2⟩; (have HA2 := HAA.out.2.right HP1.out HK2.out); (have HAB : Hid (PW w2 L1 n (untilN n (min t 1152921504606846976) 65536 p).2 ∧ Aside L1 M1 n) := HA2); clear HA2; (have HS3 : Hid (SO W.heap.size w2 (.slice pp (untilN n (min t 1152921504606846976) 65536 p).1.length c) (untilN n (min t 1152921504606846976) 65536 p).1) := HS1.out.kp HK2.out.kp (fun r hr q => absurd (HB.out.rw'.own_lt q) (by have := (World.ownsRow.lt HS1.out r hr).1; omega)))))
      | (go_at_call 22; (with_reducible refine (t22 HS3.out HS2.out (SO.apart HS1.out HS2.out (Nat.le_refl _)) (Nat.le_trans (until_length _ _) (by decide)) (Nat.le_trans HK1.out.kp.size HK2.out.kp.size)).mono ?_); rintro q w3 ⟨rfl, HK3⟩))
    go_ret
    have n1 := HU.out.size
    have n2 := HK1.out.kp.size
    have n3 := HK2.out.kp.size
    have o1 : ∀ g, L1.Own n g → g < W.heap.size := fun g hg => HB.out.pw.own_less (HK1.out.own g hg)
    have v1 : ∀ g, some g = (Value.slice pp (untilN n (min t 1152921504606846976) 65536 p).1.length c).ownBlock → W.heap.size ≤ g ∧ g < w1.heap.size := fun g e => World.ownsRow.lt HS1.out g e.symm
    have hP3 : PW w3 L1 n (untilN n (min t 1152921504606846976) 65536 p).2 := HAB.out.1.kp HK3.out (fun g hg e => by
      have := o1 g hg
      have := (v1 g e).1
      omega)
    have hR3 : RW w3 M1 n (untilN n (min t 1152921504606846976) 65536 p).2.now X1 := HR2.out.rw'.kp HK3.out (fun g hg e => by
      have := v1 g e
      rcases HK2.out.own g hg with q | q
      · have := HB.out.rw'.own_lt q
        omega
      · omega)
    refine ⟨rfl, L1, M1, _, X1, (⟨hP3, HK1.out.ok, hR3, HK2.out.ok, HAB.out.2, ⟨HR2.out.pb.now, HR2.out.abs, HR2.out.ok, Few.until HB.out.two.few⟩⟩ : Both w3 L1 M1 n N (untilN n (min t 1152921504606846976) 65536 p).2 X1), HK1.out.bp, HK2.out.bp, ?_, fun b hb => ?_⟩
    · have k : Kp (fun b => b < w.heap.size ∧ ¬ L.Own n b ∧ ¬ M.Own n b) w w3 := (((Kp.of_up HU.out).trans (HK1.out.kp.mono (fun b _ q => q.2.1))).trans (HK2.out.kp.mono (fun b _ q => q.2.2))).trans (HK3.out.mono (fun b _ q e => by
        have := (v1 b e).1
        omega))
      exact k.mono (fun b hb q => ⟨hb, q⟩)
    · rcases hb with hb | hb
      · exact Or.inl (Or.inl (HK1.out.own b hb))
      · rcases HK2.out.own b hb with q | q
        · exact Or.inl (Or.inr q)
        · exact Or.inr (by omega)
theorem t12o {w : World} {L : Ly} {M : RL} {n N : Nat} {p : Pl} {X : Nat → On} (h : Both w L M n N p X) {d : Int} (h0 : d ≠ 0) (h1 : d ≠ 1) (h2 : d ≠ 2) (h3 : d ≠ 3) (t i e l r : Int) : Calls Try.prog 12 #[.pointer (some ⟨L.bp, 0, none⟩), .pointer (some ⟨M.bp, 0, none⟩), .agg #[.int .i64 d, .int .i64 t, .int .i64 i, .int .i64 e, .int .i64 l, .int .i64 r]] w (StepR w L M n N) := by
  have H : Hid (Both w L M n N p X) := h
  have b0 : (d == 0) = false := by rw [beq_eq_false_iff_ne]; exact h0
  have b1 : (d == 1) = false := by rw [beq_eq_false_iff_ne]; exact h1
  have b2 : (d == 2) = false := by rw [beq_eq_false_iff_ne]; exact h2
  have b3 : (d == 3) = false := by rw [beq_eq_false_iff_ne]; exact h3
  clear h h0 h1 h2 h3
  go_enter Try.func12, Try.ntmps12
  go_wp2
  go_ret
  exact StepR.up (H.out.up (Up.alloc _ _)) (Up.alloc _ _)
end Go.Proofs.Ytjklaemhfhakhaa
