/- do. -/
import Derived.Test.YtjklaemhfhakhaaCa
namespace Go.Proofs.Ytjklaemhfhakhaa
open Go.ChangeShapes Go.WideShapes Go.ChangeAt Go.RowKit

/-- A stretch, as it is told. -/
def sv (t f e : Int) (l : Bool) : Value := .agg #[.int .i64 t, .int .i64 f, .int .i64 e, .bool l]
structure SlotAt (w : World) (g : Nat) (t f e : Int) (l : Bool) : Prop where
  c0 : w.cell? ⟨g, 0, none⟩ = some (.int .i64 t)
  c1 : w.cell? ⟨g, 1, none⟩ = some (.int .i64 f)
  c2 : w.cell? ⟨g, 2, none⟩ = some (.int .i64 e)
  c3 : w.cell? ⟨g, 3, none⟩ = some (.bool l)
  fz : ∀ k, w.frozen? ⟨g, k, none⟩ = false
theorem SlotAt.of {w : World} {g : Nat} {a b c : Int} {l : Bool} {t : TypeId} (h : w.heap[g]? = some (.cells #[.int .i64 a, .int .i64 b, .int .i64 c, .bool l] t (0, 0))) : SlotAt w g a b c l :=
  ⟨(row_cell h 0).1, (row_cell h 1).1, (row_cell h 2).1, (row_cell h 3).1, fun k => (row_cell h k).2⟩
theorem SlotAt.kp {w w' : World} {F : Nat → Prop} {g : Nat} {a b c : Int} {l : Bool} (h : SlotAt w g a b c l) (hk : Kp F w w') (hF : F g) : SlotAt w' g a b c l :=
  ⟨hk.cell hF h.c0, hk.cell hF h.c1, hk.cell hF h.c2, hk.cell hF h.c3, fun k => hk.frozen hF (World.block_lt_of_cell? w ⟨g, 0, none⟩ h.c0) (h.fz k)⟩
theorem SlotAt.up {w w' : World} {g : Nat} {a b c : Int} {l : Bool} (h : SlotAt w g a b c l) (hu : Up w w') : SlotAt w' g a b c l := h.kp (F := fun _ => True) (Kp.of_up hu) trivial
theorem SlotAt.put {w : World} {g : Nat} {a b c a' b' c' : Int} {l l' : Bool} (h : SlotAt w g a b c l) : SlotAt ((((w.setCell ⟨g, 0, none⟩ (.int .i64 a')).setCell ⟨g, 1, none⟩ (.int .i64 b')).setCell ⟨g, 2, none⟩ (.int .i64 c')).setCell ⟨g, 3, none⟩ (.bool l')) g a' b' c' l' := by
  have n : ∀ a b : Nat, a ≠ b → ((⟨g, a, none⟩ : Addr).block ≠ (⟨g, b, none⟩ : Addr).block ∨ (⟨g, a, none⟩ : Addr).off ≠ (⟨g, b, none⟩ : Addr).off) := fun a b h => Or.inr h
  refine ⟨?_, ?_, ?_, ?_, fun k => by simp only [World.frozen?_setCell]; exact h.fz k⟩
  · exact cell_other (cell_other (cell_other (World.cell?_setCell_same _ _ _ h.c0) (n 0 1 (by omega))) (n 0 2 (by omega))) (n 0 3 (by omega))
  · exact cell_other (cell_other (World.cell?_setCell_same _ _ _ (cell_other h.c1 (n 1 0 (by omega)))) (n 1 2 (by omega))) (n 1 3 (by omega))
  · exact cell_other (World.cell?_setCell_same _ _ _ (cell_other (cell_other h.c2 (n 2 0 (by omega))) (n 2 1 (by omega)))) (n 2 3 (by omega))
  · exact World.cell?_setCell_same _ _ _ (cell_other (cell_other (cell_other h.c3 (n 3 0 (by omega))) (n 3 1 (by omega))) (n 3 2 (by omega)))
theorem load_slot {w : World} {g : Nat} {a b c : Int} {l : Bool} (h : SlotAt w g a b c l) : (loadVar 42 ⟨g, 0, none⟩).run Try.prog w = .ok (sv a b c l) w := by
  obtain ⟨c0, c1, c2, c3, -⟩ := h
  show _ = Result.ok (Value.agg #[.int .i64 a, .int .i64 b, .int .i64 c, .bool l]) w
  go_simp
theorem results_st {fn : Func} {p : Tmp} {ty : TypeId} (h : fn.results = #[.cell p ty]) (tmps : Array Value) (w : World) (g : Nat) (v : Value) (hp : tmps.getD p undef = .pointer (some ⟨g, 0, none⟩)) (hl : (loadVar ty ⟨g, 0, none⟩).run Try.prog w = .ok v w) :
    (results fn tmps).run Try.prog w = .ok v w := by
  have hp' : tmps[p]?.getD undef = .pointer (some ⟨g, 0, none⟩) := by simpa using hp
  simp [results, h, hp', asAddr, hl]
theorem JobAt.kp {w w' : World} {F : Nat → Prop} {g : Nat} {j : Jb} (h : JobAt w g j) (hk : Kp F w w') (hF : F g) : JobAt w' g j :=
  ⟨hk.cell hF h.c0, hk.cell hF h.c1, hk.cell hF h.c2, hk.cell hF h.c3, hk.cell hF h.c4, fun k => hk.frozen hF (World.block_lt_of_cell? w ⟨g, 0, none⟩ h.c0) (h.fz k)⟩
/-- What do leaves. -/
def DoR (w : World) (L : Ly) (n : Nat) (p' : Pl) (v : Value) (e : Ending) (w' : World) : Prop := e = .returned v ∧ ∃ L', Hid (PW w' L' n p') ∧ Hid (Kept n w w' L L')
set_option maxHeartbeats 2000000 in
theorem t39 {w : World} {L : Ly} {n : Nat} {p : Pl} (h : PW w L n p) (hL : L.Ok n) (hb : PB n p) {m : Nat} (hm : m < n) {j : Jb} (hj : j.task = m) {f to : Int} (hf : 0 ≤ f) (hft : f ≤ to) (ht : to ≤ 2305843009213693952) : Calls Try.prog 39 #[.pointer (some ⟨L.bp, 0, none⟩), jv j, .int .i64 f, .int .i64 to] w (DoR w L n (p.go m (to - f) to) (sv m f to (decide (j.due < to)))) := by
  obtain ⟨j1, j2, j3, j4, j5⟩ := j
  simp only at hj
  subst hj
  have H : Hid (PW w L n p) := h
  have HL : Hid (L.Ok n) := hL
  have HO : Hid ((p.c m).Ok) := hb.c m hm
  obtain ⟨d, hd⟩ : ∃ d, to - f = d := ⟨_, rfl⟩
  have HD : Hid (to - f = d) := hd
  rw [hd]
  have d1 : IntKind.i64.wrap (to - f) = d := by rw [IntKind.wrap_i64]; omega
  have d2 : 0 ≤ d ∧ d ≤ 2305843009213693952 := by omega
  have m1 : (0 : Int) ≤ (m : Int) := by omega
  have m2 : (m : Int) < (n : Int) := by omega
  clear hd hb h hL
  show Calls Try.prog 39 #[.pointer (some ⟨L.bp, 0, none⟩), .agg #[.int .i64 m, .int .i64 j2, .int .i64 j3, .int .i64 j4, .int .i64 j5], .int .i64 f, .int .i64 to] w _
  go_enter Try.func39, Try.ntmps39
  go_wp2_with fail
  have HU0 : Hid (Up w ((w.alloc (.cells #[.int .i64 m, .int .i64 j2, .int .i64 j3, .int .i64 j4, .int .i64 j5] 88)).alloc (.cells #[.int .i64 0, .int .i64 0, .int .i64 0, .bool false] 42))) := (Up.alloc _ _).trans (Up.alloc _ _)
  have HJ : Hid (JobAt ((w.alloc (.cells #[.int .i64 m, .int .i64 j2, .int .i64 j3, .int .i64 j4, .int .i64 j5] 88)).alloc (.cells #[.int .i64 0, .int .i64 0, .int .i64 0, .bool false] 42)) w.heap.size ⟨m, j2, j3, j4, j5⟩) := (JobAt.of (heap_alloc_last w _)).up (Up.alloc _ _)
  have HS : Hid (SlotAt ((w.alloc (.cells #[.int .i64 m, .int .i64 j2, .int .i64 j3, .int .i64 j4, .int .i64 j5] 88)).alloc (.cells #[.int .i64 0, .int .i64 0, .int .i64 0, .bool false] 42)) (w.heap.size + 1) 0 0 0 false) := by
    have e := heap_alloc_last (w.alloc (.cells #[.int .i64 m, .int .i64 j2, .int .i64 j3, .int .i64 j4, .int .i64 j5] 88)) (.cells #[.int .i64 0, .int .i64 0, .int .i64 0, .bool false] 42)
    rw [show (w.alloc (.cells #[.int .i64 m, .int .i64 j2, .int .i64 j3, .int .i64 j4, .int .i64 j5] 88)).heap.size = w.heap.size + 1 by simp] at e
    exact SlotAt.of e
  have x2 := cell_up H.out.p1 HU0.out
  have x3 := HJ.out.c0
  simp only at x3
  generalize ((w.alloc (.cells #[.int .i64 m, .int .i64 j2, .int .i64 j3, .int .i64 j4, .int .i64 j5] 88)).alloc (.cells #[.int .i64 0, .int .i64 0, .int .i64 0, .bool false] 42)) = W at *
  refine wp_region_up 10 [cV (.pointer (some ⟨L.bp, 0, none⟩)), cV (.pointer (some ⟨L.bp, 0, none⟩)), cV (.pointer (some ⟨L.bp, 1, none⟩)), cV (.slice (some ⟨L.bt, 0, none⟩) n n), cV (.pointer (some ⟨w.heap.size, 0, none⟩)), cV (.int .i64 m), cV (.pointer (some ⟨L.bt, m * 2, none⟩)), cV (.int .i64 to), cV (.int .i64 f), cV (.int .i64 d)] (by kernel_rfl) (by decide) rfl (by kernel_rfl) (by kernel_rfl) ⟨mV _, mV _, mV _, mV _, mV _, mV _, mV _, mV _, mV _, mV _, trivial⟩ ?_
  intro vals
  simp only [List.take_succ_cons, List.take_zero, valsN, FillL, Act.put, List.setIfInBounds_toArray, List.set_cons_succ, List.set_cons_zero, Nat.zero_add, Nat.reduceAdd]
  refine ⟨⟨fun v hu h => ?_, fun v hu h => ?_, fun v hu h => ?_, fun v hu h => ?_, fun v hu h => ?_, fun v hu h => ?_, fun v hu h => ?_, fun v hu h => ?_, fun v hu h => ?_, fun v hu h => ?_, trivial⟩, fun v hu h => ?_⟩
  all_goals have h0 := hu
  · refine UpO.is _ rfl rfl ?_
    go_simp
  · have e0 : vals 0 = .pointer (some ⟨L.bp, 0, none⟩) := h 0 (by decide) (by kernel_rfl)
    refine UpO.is _ rfl rfl ?_
    rw [e0]
    go_simp
  · have e1 : vals 1 = .pointer (some ⟨L.bp, 0, none⟩) := h 1 (by decide) (by kernel_rfl)
    refine UpO.is _ rfl rfl ?_
    rw [e1]
    go_simp
  · have e2 : vals 2 = .pointer (some ⟨L.bp, 1, none⟩) := h 2 (by decide) (by kernel_rfl)
    have z := cell_up x2 h0
    refine UpO.is _ rfl rfl ?_
    rw [e2]
    go_simp
  · refine UpO.is _ rfl rfl ?_
    go_simp
  · have e4 : vals 4 = .pointer (some ⟨w.heap.size, 0, none⟩) := h 4 (by decide) (by kernel_rfl)
    have z := cell_up x3 h0
    refine UpO.is _ rfl rfl ?_
    rw [e4]
    go_simp
  · have e3 : vals 3 = .slice (some ⟨L.bt, 0, none⟩) n n := h 3 (by decide) (by kernel_rfl)
    have e5 : vals 5 = .int .i64 m := h 5 (by decide) (by kernel_rfl)
    refine UpO.is _ rfl rfl ?_
    rw [e3, e5]
    go_simp
  · refine UpO.is _ rfl rfl ?_
    go_simp
  · refine UpO.is _ rfl rfl ?_
    go_simp
  · have e7 : vals 7 = .int .i64 to := h 7 (by decide) (by kernel_rfl)
    have e8 : vals 8 = .int .i64 f := h 8 (by decide) (by kernel_rfl)
    refine UpO.is _ rfl rfl ?_
    rw [e7, e8]
    go_simp
  · have e6 : vals 6 = .pointer (some ⟨L.bt, m * 2, none⟩) := h 6 (by decide)
    have e9 : vals 9 = .int .i64 d := h 9 (by decide)
    clear h
    rw [e6, e9]
    clear e6 e9
    simp only [List.drop_succ_cons, List.drop_zero]
    have HU1 : Hid (Up w v) := HU0.out.trans hu
    have HJ1 : Hid (JobAt v w.heap.size ⟨m, j2, j3, j4, j5⟩) := HJ.out.up hu
    have HS1 : Hid (SlotAt v (w.heap.size + 1) 0 0 0 false) := HS.out.up hu
    have HP1 : Hid (PW v L n p) := H.out.up HU1.out
    clear HU0 HJ HS x2 x3 h0 hu
    have HLT : Hid (∀ b, L.Own n b → b < w.heap.size) := fun b hb => H.out.own_lt hb
    have HG : Hid (w.heap.size ≤ w.heap.size) := Nat.le_refl _
    generalize hG : w.heap.size = G at HJ1 HS1 HLT ⊢
    rw [hG] at HG
    have HG : Hid (w.heap.size ≤ G) := by show _ ≤ _; omega
    clear hG
    have n0 : L.bp < G := HLT.out _ (Or.inl rfl)
    have n1 : ¬ G = L.bp := by omega
    have n2 : ¬ L.bp = G := by omega
    have n3 : ¬ G + 1 = L.bp := by omega
    have n4 : ¬ L.bp = G + 1 := by omega
    have HN : Hid (L.bp < G) := n0
    clear n0
    go_wp2_with (go_at_call 51; (with_reducible refine (t51 HP1.out HL.out hm d2 HO.out).mono ?_); rintro e w2 ⟨rfl, L2, HP2, HK2⟩; (have HJ2 : Hid (JobAt w2 G ⟨m, j2, j3, j4, j5⟩) := HJ1.out.kp HK2.out.kp (fun q => Nat.lt_irrefl _ (HLT.out _ q))); (have HS2 : Hid (SlotAt w2 (G + 1) 0 0 0 false) := HS1.out.kp HK2.out.kp (fun q => by have := HLT.out _ q; omega)); (have y0 := HP2.out.p0); (have y1 := HP2.out.fp 0); (have y2 := HP2.out.p1); rw [HK2.out.bp] at y0 y1 y2; (obtain ⟨g0, g1, g2, g3, g4, -⟩ := HJ2.out); (obtain ⟨s0, s1, s2, s3, s4⟩ := HS2.out); (have z0 := s4 0); (have z1 := s4 1); (have z2 := s4 2); (have z3 := s4 3); clear s4)
    have HP3 := HP2.out.setNow HK2.out.ok to
    rw [HK2.out.bp] at HP3
    have HK3 := HK2.out.set (g := L2.bp) (o := 0) (Or.inl rfl) (.int .i64 to) HK2.out.ok rfl (fun _ q => q)
    rw [HK2.out.bp] at HK3
    have HS3 : SlotAt (w2.setCell ⟨L.bp, 0, none⟩ (.int .i64 to)) (G + 1) 0 0 0 false := HS2.out.kp (F := fun b => b ≠ L.bp) (Kp.set _ _ (fun q => q rfl) _) n3
    generalize w2.setCell ⟨L.bp, 0, none⟩ (.int .i64 to) = w3 at *
    have nG : ¬ L2.Own n (G + 1) := by
      intro q
      have := HLT.out _ (HK2.out.own _ q)
      omega
    have HP4 : PW ((((w3.setCell ⟨G + 1, 0, none⟩ (.int .i64 m)).setCell ⟨G + 1, 1, none⟩ (.int .i64 f)).setCell ⟨G + 1, 2, none⟩ (.int .i64 to)).setCell ⟨G + 1, 3, none⟩ (.bool (decide (j3 < to)))) L2 n (p.go m d to) := by
      refine HP3.kp (F := fun b => b ≠ G + 1) ?_ (fun b hb e => nG (e ▸ hb))
      exact (((Kp.set _ _ (fun q => q rfl) _).setCell (fun q => q rfl) _).setCell (fun q => q rfl) _).setCell (fun q => q rfl) _
    have HK4 : Kept n w ((((w3.setCell ⟨G + 1, 0, none⟩ (.int .i64 m)).setCell ⟨G + 1, 1, none⟩ (.int .i64 f)).setCell ⟨G + 1, 2, none⟩ (.int .i64 to)).setCell ⟨G + 1, 3, none⟩ (.bool (decide (j3 < to)))) L L2 := by
      have k := (Kept.of_up HL.out HU1.out).trans HK3
      exact (((k.beyond (Nat.le_succ_of_le HG.out) _).beyond (Nat.le_succ_of_le HG.out) _).beyond (Nat.le_succ_of_le HG.out) _).beyond (Nat.le_succ_of_le HG.out) _
    exact bodyPost_ret (results_st Try.results39 _ _ (G + 1) _ rfl (load_slot HS3.put)) rfl ⟨rfl, L2, HP4, HK4⟩

end Go.Proofs.Ytjklaemhfhakhaa
