/- Set, where what is released stays. -/
import Derived.Test.YtjklaemhfhakhaaKd
namespace Go.Proofs.Ytjklaemhfhakhaa
open Go.ChangeShapes Go.WideShapes Go.ChangeAt Go.RowKit

set_option maxHeartbeats 2000000 in
theorem t19c {w : World} {L : Ly} {n : Nat} {p : Pl} (h : PW w L n p) (hL : L.Ok n) {i : Nat} (hi : i < n) (hk : (p.c i).tl.length ≤ 1000000) (h0 : 0 ≤ (p.c i).last.nx) (h1 : (p.c i).last.nx ≤ p.now) (h2 : p.now ≤ 1152921504606846976) (he : 1 ≤ (p.c i).last.e) (he2 : (p.c i).last.e ≤ 1099511627776) {e l r : Int} (hm : MayT e l) (hne : ¬ ((p.c i).last.e = e ∧ (p.c i).last.l = l ∧ (p.c i).last.r = r)) : Calls Try.prog 19 #[.pointer (some ⟨L.bp, 0, none⟩), .int .i64 i, .agg #[.int .i64 e, .int .i64 l, .int .i64 r]] w (ChR w L n (p.set i ((p.c i).more ⟨aft (p.c i).last.nx (p.c i).last.e p.now, e, l, r⟩)) (.int .i64 0)) := by
  have H : Hid (PW w L n p) := h
  have HL : Hid (L.Ok n) := hL
  have g0 := h.p0
  have g1 := h.p1
  have l1 := h.lp
  have m1 : ¬ (i : Int) < 0 := by omega
  have m2 : ¬ (n : Int) ≤ (i : Int) := by omega
  have m3 : (i : Int) < (n : Int) := by omega
  have C25 : ∀ w, Hid (Calls Try.prog 25 #[.agg #[.int .i64 e, .int .i64 l, .int .i64 r]] w (VU w (.bool true))) := fun w => by
    have := t25 e l r w
    rw [(may_dec e l).2 hm] at this
    exact this
  have C40 : ∀ W, Hid (PW W L n p → Calls Try.prog 40 #[.pointer (some ⟨L.bt, i * 2, none⟩), .int .i64 p.now, .agg #[.int .i64 e, .int .i64 l, .int .i64 r]] W (ChR W L n (p.set i ((p.c i).more ⟨aft (p.c i).last.nx (p.c i).last.e p.now, e, l, r⟩)) (.tuple #[]))) := fun W hW => t40c hW HL.out hi hk h0 h1 h2 he he2 e l r hne
  clear h hL hk h0 h1 h2 he he2 hm hne
  go_enter Try.func19, Try.ntmps19
  go_upto_region 5 with (go_at_call 25; (with_reducible refine ((C25 _).out).mono ?_); rintro e w1 ⟨rfl, HU1⟩)
  have HP1 : Hid (PW w1 L n p) := H.out.up ((Up.alloc _ _).trans HU1.out)
  have HW1 : Hid (Up w w1) := (Up.alloc _ _).trans HU1.out
  have HT : Hid (TkAt w1 w.heap.size 0 ⟨e, l, r⟩) := by
    have e0 := heap_alloc_last w (.cells #[.int .i64 e, .int .i64 l, .int .i64 r] 26)
    have : TkAt (w.alloc (.cells #[.int .i64 e, .int .i64 l, .int .i64 r] 26)) w.heap.size 0 ⟨e, l, r⟩ := ⟨(row_cell e0 0).1, by rw [Nat.zero_add]; exact (row_cell e0 1).1, by rw [Nat.zero_add]; exact (row_cell e0 2).1⟩
    exact this.up HU1.out
  have k0 := HP1.out.p0
  have k1 := HP1.out.p1
  refine wp_region_up 11 [cV (.pointer (some ⟨L.bp, 0, none⟩)), cV (.pointer (some ⟨L.bp, 0, none⟩)), cV (.pointer (some ⟨L.bp, 1, none⟩)), cV (.slice (some ⟨L.bt, 0, none⟩) n n), cV (.int .i64 i), cV (.pointer (some ⟨L.bt, i * 2, none⟩)), cV (.pointer (some ⟨L.bp, 0, none⟩)), cV (.pointer (some ⟨L.bp, 0, none⟩)), cV (.pointer (some ⟨L.bp, 0, none⟩)), cV (.int .i64 p.now), cV (.agg #[.int .i64 e, .int .i64 l, .int .i64 r])] (by kernel_rfl) (by decide) rfl (by kernel_rfl) (by kernel_rfl) ⟨mV _, mV _, mV _, mV _, mV _, mV _, mV _, mV _, mV _, mV _, mV _, trivial⟩ ?_
  intro vals
  simp only [List.take_succ_cons, List.take_zero, valsN, FillL, Act.put, List.setIfInBounds_toArray, List.set_cons_succ, List.set_cons_zero, Nat.zero_add, Nat.reduceAdd]
  refine ⟨⟨fun v hu h => ?_, fun v hu h => ?_, fun v hu h => ?_, fun v hu h => ?_, fun v hu h => ?_, fun v hu h => ?_, fun v hu h => ?_, fun v hu h => ?_, fun v hu h => ?_, fun v hu h => ?_, fun v hu h => ?_, trivial⟩, fun v hu h => ?_⟩
  all_goals have h0 := hu
  · refine UpO.is _ rfl rfl ?_
    go_simp
  · have e0 : vals 0 = .pointer (some ⟨L.bp, 0, none⟩) := h 0 (by decide) (by kernel_rfl)
    refine UpO.is _ rfl rfl ?_
    rw [e0]
    go_simp
  · have e1 : vals 1 = .pointer (some ⟨L.bp, 0, none⟩) := h 1 (by decide) (by kernel_rfl)
    refine UpO.is _ rfl rfl ?_
    rw [e1]
    go_simp
  · have e2 : vals 2 = .pointer (some ⟨L.bp, 1, none⟩) := h 2 (by decide) (by kernel_rfl)
    have z := cell_up k1 h0
    refine UpO.is _ rfl rfl ?_
    rw [e2]
    go_simp
  · refine UpO.is _ rfl rfl ?_
    go_simp
  · have e3 : vals 3 = .slice (some ⟨L.bt, 0, none⟩) n n := h 3 (by decide) (by kernel_rfl)
    have e4 : vals 4 = .int .i64 i := h 4 (by decide) (by kernel_rfl)
    refine UpO.is _ rfl rfl ?_
    rw [e3, e4]
    go_simp
  · refine UpO.is _ rfl rfl ?_
    go_simp
  · have e6 : vals 6 = .pointer (some ⟨L.bp, 0, none⟩) := h 6 (by decide) (by kernel_rfl)
    refine UpO.is _ rfl rfl ?_
    rw [e6]
    go_simp
  · have e7 : vals 7 = .pointer (some ⟨L.bp, 0, none⟩) := h 7 (by decide) (by kernel_rfl)
    refine UpO.is _ rfl rfl ?_
    rw [e7]
    go_simp
  · have e8 : vals 8 = .pointer (some ⟨L.bp, 0, none⟩) := h 8 (by decide) (by kernel_rfl)
    have z := cell_up k0 h0
    refine UpO.is _ rfl rfl ?_
    rw [e8]
    go_simp
  · obtain ⟨t0, t1, t2⟩ := HT.out.up h0
    simp only [Nat.zero_add] at t0 t1 t2
    refine UpO.is _ rfl rfl ?_
    go_simp
  · have e5 : vals 5 = .pointer (some ⟨L.bt, i * 2, none⟩) := h 5 (by decide)
    have e9 : vals 9 = .int .i64 p.now := h 9 (by decide)
    have e10 : vals 10 = .agg #[.int .i64 e, .int .i64 l, .int .i64 r] := h 10 (by decide)
    clear h
    rw [e5, e9, e10]
    clear e5 e9 e10
    simp only [List.drop_succ_cons, List.drop_zero]
    have HPV : Hid (PW v L n p) := HP1.out.up hu
    have HUV : Hid (Up w v) := HW1.out.trans hu
    go_wp2_with (go_at_call 40; (with_reducible refine ((C40 _).out HPV.out).mono ?_); rintro e w3 ⟨rfl, L2, HP3, HK3⟩)
    go_ret
    exact ⟨rfl, L2, HP3, KeptG.after HUV.out HK3.out⟩
end Go.Proofs.Ytjklaemhfhakhaa
