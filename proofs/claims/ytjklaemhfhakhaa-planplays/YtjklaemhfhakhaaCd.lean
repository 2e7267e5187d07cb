/- Now; Next. -/
import Derived.Test.YtjklaemhfhakhaaCc
namespace Go.Proofs.Ytjklaemhfhakhaa
open Go.ChangeShapes Go.WideShapes Go.ChangeAt Go.RowKit

theorem t15 {w : World} {L : Ly} {n : Nat} {p : Pl} (h : PW w L n p) : Calls Try.prog 15 #[.pointer (some ⟨L.bp, 0, none⟩)] w fun e w' => e = .returned (.int .i64 p.now) ∧ w' = w := by
  have h0 := h.p0
  clear h
  go_enter Try.func15, Try.ntmps15
  go_wp2
  go_ret
  exact ⟨rfl, rfl⟩
theorem t15n (w : World) : Calls Try.prog 15 #[.pointer none] w fun e w' => e = .returned (.int .i64 0) ∧ w' = w := by
  go_enter Try.func15, Try.ntmps15
  go_wp2
  go_ret
  exact ⟨rfl, rfl⟩
theorem t17n (w : World) : Calls Try.prog 17 #[.pointer none] w (VU w (.tuple #[sv 0 0 0 false, .int .i64 1])) := by
  have HS : Hid (SlotAt (w.alloc (.cells #[.int .i64 0, .int .i64 0, .int .i64 0, .bool false] 42)) w.heap.size 0 0 0 false) := SlotAt.of (heap_alloc_last w _)
  go_enter Try.func17, Try.ntmps17
  go_wp2
  exact bodyPost_ret (results_st_tmp Try.results17 _ _ w.heap.size _ rfl (load_slot HS.out)) rfl ⟨rfl, Up.alloc _ _⟩
set_option maxHeartbeats 2000000 in
theorem t17z {w : World} {L : Ly} {p : Pl} (h : PW w L 0 p) : Calls Try.prog 17 #[.pointer (some ⟨L.bp, 0, none⟩)] w (VU w (.tuple #[sv 0 0 0 false, .int .i64 240])) := by
  have HS : Hid (SlotAt (w.alloc (.cells #[.int .i64 0, .int .i64 0, .int .i64 0, .bool false] 42)) w.heap.size 0 0 0 false) := SlotAt.of (heap_alloc_last w _)
  have h1 := h.p1
  have l1 := h.lp
  clear h
  go_enter Try.func17, Try.ntmps17
  go_wp2
  exact bodyPost_ret (results_st_tmp Try.results17 _ _ w.heap.size _ rfl (load_slot HS.out)) rfl ⟨rfl, Up.alloc _ _⟩
set_option maxHeartbeats 2000000 in
theorem t17 {w : World} {L : Ly} {n : Nat} {p : Pl} (h : PW w L n p) (hL : L.Ok n) (hb : PB n p) (hn : n ≤ 256) {m : Nat} {f to : Int} (hr : Runs n p.J p.now m f) (hto : endN p.J (p.J m) (f + (p.J m).left) n = to) (ht : to ≤ 1152921504606846976) :
    Calls Try.prog 17 #[.pointer (some ⟨L.bp, 0, none⟩)] w (DoR w L n (p.go m (to - f) to) (.tuple #[sv m f to (decide ((p.J m).due < to)), .int .i64 0])) := by
  have H : Hid (PW w L n p) := h
  have HL : Hid (L.Ok n) := hL
  have HB : Hid (PB n p) := hb
  have HR : Hid (Runs n p.J p.now m f) := hr
  have HE : Hid (runN p.J p.now n = (p.J m, f)) := hr.eq hb
  have HT : Hid (endN p.J (p.J m) (f + (p.J m).left) n = to) := hto
  obtain ⟨f1, f2, f3, f4⟩ := hr.f_le hb
  obtain ⟨k1, k2⟩ := hb.left hr.lt
  obtain ⟨k3, k4⟩ := hr.ends hb
  rw [hto] at k3 k4
  have hm := hr.lt
  have n0 : ¬ n = 0 := by omega
  have n1 : ((n : Int) == 0) = false := by simp; omega
  have h1 := h.p1
  have l1 := h.lp
  generalize hj : p.J m = j at *
  have HM : Hid (j.task = m) := by rw [← hj]; rfl
  obtain ⟨j1, j2, j3, j4, j5⟩ := j
  simp only at k1 k2 k3 k4
  have HW : Hid (PW (w.alloc (.cells #[.int .i64 0, .int .i64 0, .int .i64 0, .bool false] 42)) L n p) := h.up (Up.alloc _ _)
  have HS : Hid (SlotAt (w.alloc (.cells #[.int .i64 0, .int .i64 0, .int .i64 0, .bool false] 42)) w.heap.size 0 0 0 false) := SlotAt.of (heap_alloc_last w _)
  have C1 : ∀ W, Hid (PW W L n p → Calls Try.prog 37 #[.pointer (some ⟨L.bp, 0, none⟩)] W (VU W (.tuple #[.agg #[.int .i64 j1, .int .i64 j2, .int .i64 j3, .int .i64 j4, .int .i64 j5], .int .i64 f]))) := by
    intro W hW
    have := t37 hW HB.out hn
    rw [HE.out] at this
    exact this
  have C2 : ∀ W, Hid (PW W L n p → Calls Try.prog 38 #[.pointer (some ⟨L.bp, 0, none⟩), .agg #[.int .i64 j1, .int .i64 j2, .int .i64 j3, .int .i64 j4, .int .i64 j5], .int .i64 f] W (VU W (.int .i64 to))) := by
    intro W hW
    have := t38 hW HB.out hn ⟨j1, j2, j3, j4, j5⟩ f (by omega) (by show 0 ≤ j4 ∧ j4 ≤ _; omega)
    rw [HT.out] at this
    exact this
  have C3 : ∀ W, Hid (PW W L n p → Calls Try.prog 39 #[.pointer (some ⟨L.bp, 0, none⟩), .agg #[.int .i64 j1, .int .i64 j2, .int .i64 j3, .int .i64 j4, .int .i64 j5], .int .i64 f, .int .i64 to] W (DoR W L n (p.go m (to - f) to) (.agg #[.int .i64 m, .int .i64 f, .int .i64 to, .bool (decide (j3 < to))]))) := by
    intro W hW
    exact t39 hW HL.out HB.out hm (j := ⟨j1, j2, j3, j4, j5⟩) HM.out f1 (by omega) (by omega)
  clear h hL hb hr hto hj
  go_enter Try.func17, Try.ntmps17
  have HG : Hid (∀ b, L.Own n b → b < w.heap.size) := fun b hb => H.out.own_lt hb
  go_wp2_with (first
    | (go_at_call 37; (with_reducible refine ((C1 _).out HW.out).mono ?_); rintro e w1 ⟨rfl, HU1⟩; (have HW2 : Hid (PW (w1.alloc (.cells #[.int .i64 j1, .int .i64 j2, .int .i64 j3, .int .i64 j4, .int .i64 j5] 88)) L n p) := HW.out.up (HU1.out.trans (Up.alloc _ _))); (have HJ2 : Hid (JobAt (w1.alloc (.cells #[.int .i64 j1, .int .i64 j2, .int .i64 j3, .int .i64 j4, .int .i64 j5] 88)) w1.heap.size ⟨j1, j2, j3, j4, j5⟩) := JobAt.of (heap_alloc_last _ _)); (have HS2 : Hid (SlotAt (w1.alloc (.cells #[.int .i64 j1, .int .i64 j2, .int .i64 j3, .int .i64 j4, .int .i64 j5] 88)) w.heap.size 0 0 0 false) := HS.out.up (HU1.out.trans (Up.alloc _ _))))
    | (go_at_call 38; (with_reducible refine ((C2 _).out HW2.out).mono ?_); rintro e w2 ⟨rfl, HU2⟩; (have HW3 : Hid (PW w2 L n p) := HW2.out.up HU2.out); (have HJ3 : Hid (JobAt w2 w1.heap.size ⟨j1, j2, j3, j4, j5⟩) := HJ2.out.up HU2.out); (have HS3 : Hid (SlotAt w2 w.heap.size 0 0 0 false) := HS2.out.up HU2.out); (obtain ⟨g0, g1, g2, g3, g4, -⟩ := HJ3.out); (obtain ⟨s0, s1, s2, s3, s4⟩ := HS3.out); (have z0 := s4 0); (have z1 := s4 1); (have z2 := s4 2); (have z3 := s4 3); clear s4; simp only at g0 g1 g2 g3 g4)
    | (go_at_call 39; (with_reducible refine ((C3 _).out HW3.out).mono ?_); rintro e w4 ⟨rfl, L2, HP, HK⟩; (have HS4 : Hid (SlotAt w4 w.heap.size 0 0 0 false) := HS3.out.kp HK.out.kp (fun q => Nat.lt_irrefl _ (HG.out _ q))); clear s0 s1 s2 s3 z0 z1 z2 z3; (obtain ⟨s0, s1, s2, s3, s4⟩ := HS4.out); (have z0 := s4 0); (have z1 := s4 1); (have z2 := s4 2); (have z3 := s4 3); clear s4))
  have HK0 : Hid (Kept n w w4 L L2) := (Kept.of_up HL.out (((Up.alloc _ _).trans HU1.out).trans ((Up.alloc _ _).trans HU2.out))).trans HK.out
  have nG : ¬ L2.Own n w.heap.size := by
    intro q
    exact Nat.lt_irrefl _ (HG.out _ (HK.out.own _ q))
  generalize hG : w.heap.size = G at *
  have HP4 : PW ((((w4.setCell ⟨G, 0, none⟩ (.int .i64 m)).setCell ⟨G, 1, none⟩ (.int .i64 f)).setCell ⟨G, 2, none⟩ (.int .i64 to)).setCell ⟨G, 3, none⟩ (.bool (decide (j3 < to)))) L2 n (p.go m (to - f) to) := by
    refine HP.out.kp (F := fun b => b ≠ G) ?_ (fun b hb e => nG (e ▸ hb))
    exact (((Kp.set _ _ (fun q => q rfl) _).setCell (fun q => q rfl) _).setCell (fun q => q rfl) _).setCell (fun q => q rfl) _
  have HK4 : Kept n w ((((w4.setCell ⟨G, 0, none⟩ (.int .i64 m)).setCell ⟨G, 1, none⟩ (.int .i64 f)).setCell ⟨G, 2, none⟩ (.int .i64 to)).setCell ⟨G, 3, none⟩ (.bool (decide (j3 < to)))) L L2 :=
    (((HK0.out.beyond (Nat.le_of_eq hG) _).beyond (Nat.le_of_eq hG) _).beyond (Nat.le_of_eq hG) _).beyond (Nat.le_of_eq hG) _
  exact bodyPost_ret (results_st_tmp Try.results17 _ _ G _ rfl (load_slot HS4.out.put)) rfl ⟨rfl, L2, HP4, HK4⟩
set_option maxHeartbeats 2000000 in
theorem t17f {w : World} {L : Ly} {n : Nat} {p : Pl} (h : PW w L n p) (hL : L.Ok n) (hb : PB n p) (hn : n ≤ 256) {m : Nat} {f to : Int} (hr : Runs n p.J p.now m f) (hto : endN p.J (p.J m) (f + (p.J m).left) n = to) (ht : 1152921504606846976 < to) :
    Calls Try.prog 17 #[.pointer (some ⟨L.bp, 0, none⟩)] w (VU w (.tuple #[sv 0 0 0 false, .int .i64 3])) := by
  have H : Hid (PW w L n p) := h
  have HL : Hid (L.Ok n) := hL
  have HB : Hid (PB n p) := hb
  have HR : Hid (Runs n p.J p.now m f) := hr
  have HE : Hid (runN p.J p.now n = (p.J m, f)) := hr.eq hb
  have HT : Hid (endN p.J (p.J m) (f + (p.J m).left) n = to) := hto
  obtain ⟨f1, f2, f3, f4⟩ := hr.f_le hb
  obtain ⟨k1, k2⟩ := hb.left hr.lt
  obtain ⟨k3, k4⟩ := hr.ends hb
  rw [hto] at k3 k4
  have n0 : ¬ n = 0 := by have := hr.lt; omega
  have n1 : ((n : Int) == 0) = false := by simp; exact n0
  have h1 := h.p1
  have l1 := h.lp
  generalize hj : p.J m = j at *
  have HJ : Hid (p.J m = j) := hj
  obtain ⟨j1, j2, j3, j4, j5⟩ := j
  simp only at k1 k2 k3 k4
  have HW : Hid (PW (w.alloc (.cells #[.int .i64 0, .int .i64 0, .int .i64 0, .bool false] 42)) L n p) := h.up (Up.alloc _ _)
  have HS : Hid (SlotAt (w.alloc (.cells #[.int .i64 0, .int .i64 0, .int .i64 0, .bool false] 42)) w.heap.size 0 0 0 false) := SlotAt.of (heap_alloc_last w _)
  have C1 : ∀ W, Hid (PW W L n p → Calls Try.prog 37 #[.pointer (some ⟨L.bp, 0, none⟩)] W (VU W (.tuple #[.agg #[.int .i64 j1, .int .i64 j2, .int .i64 j3, .int .i64 j4, .int .i64 j5], .int .i64 f]))) := by
    intro W hW
    have := t37 hW HB.out hn
    rw [HE.out] at this
    exact this
  have C2 : ∀ W, Hid (PW W L n p → Calls Try.prog 38 #[.pointer (some ⟨L.bp, 0, none⟩), .agg #[.int .i64 j1, .int .i64 j2, .int .i64 j3, .int .i64 j4, .int .i64 j5], .int .i64 f] W (VU W (.int .i64 to))) := by
    intro W hW
    have := t38 hW HB.out hn ⟨j1, j2, j3, j4, j5⟩ f (by omega) (by show 0 ≤ j4 ∧ j4 ≤ _; omega)
    rw [HT.out] at this
    exact this
  clear h hL hb hr hto hj
  go_enter Try.func17, Try.ntmps17
  have HG : Hid (∀ b, L.Own n b → b < w.heap.size) := fun b hb => H.out.own_lt hb
  go_wp2_with (first
    | (go_at_call 37; (with_reducible refine ((C1 _).out HW.out).mono ?_); rintro e w1 ⟨rfl, HU1⟩; (have HW2 : Hid (PW (w1.alloc (.cells #[.int .i64 j1, .int .i64 j2, .int .i64 j3, .int .i64 j4, .int .i64 j5] 88)) L n p) := HW.out.up (HU1.out.trans (Up.alloc _ _))); (have HJ2 : Hid (JobAt (w1.alloc (.cells #[.int .i64 j1, .int .i64 j2, .int .i64 j3, .int .i64 j4, .int .i64 j5] 88)) w1.heap.size ⟨j1, j2, j3, j4, j5⟩) := JobAt.of (heap_alloc_last _ _)); (have HS2 : Hid (SlotAt (w1.alloc (.cells #[.int .i64 j1, .int .i64 j2, .int .i64 j3, .int .i64 j4, .int .i64 j5] 88)) w.heap.size 0 0 0 false) := HS.out.up (HU1.out.trans (Up.alloc _ _))))
    | (go_at_call 38; (with_reducible refine ((C2 _).out HW2.out).mono ?_); rintro e w2 ⟨rfl, HU2⟩; (have HW3 : Hid (PW w2 L n p) := HW2.out.up HU2.out); (have HJ3 : Hid (JobAt w2 w1.heap.size ⟨j1, j2, j3, j4, j5⟩) := HJ2.out.up HU2.out); (have HS3 : Hid (SlotAt w2 w.heap.size 0 0 0 false) := HS2.out.up HU2.out); (obtain ⟨g0, g1, g2, g3, g4, -⟩ := HJ3.out); (obtain ⟨s0, s1, s2, s3, s4⟩ := HS3.out); (have z0 := s4 0); (have z1 := s4 1); (have z2 := s4 2); (have z3 := s4 3); clear s4; simp only at g0 g1 g2 g3 g4))
  refine bodyPost_ret (results_st_tmp Try.results17 _ _ w.heap.size _ rfl (load_slot HS3.out.put)) rfl ⟨rfl, ?_⟩
  have hu : RowKit.Below w.heap.size w w2 := ((Up.alloc _ _).trans HU1.out).trans ((Up.alloc _ _).trans HU2.out)
  exact (((hu.setCell (Nat.le_refl _) _).setCell (Nat.le_refl _) _).setCell (Nat.le_refl _) _).setCell (Nat.le_refl _) _
end Go.Proofs.Ytjklaemhfhakhaa
