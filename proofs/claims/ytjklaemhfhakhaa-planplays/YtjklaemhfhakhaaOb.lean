/- A step of the law: Set. -/
import Derived.Test.YtjklaemhfhakhaaNx
import Derived.Test.YtjklaemhfhakhaaXa
import Derived.Test.YtjklaemhfhakhaaNm
namespace Go.Proofs.Ytjklaemhfhakhaa
open Go.ChangeShapes Go.WideShapes Go.ChangeAt Go.RowKit

/-- What Set leaves of the program's plan. -/
def SeL (W : World) (L : Ly) (n : Nat) (p2 : Pl) (z : Int) (e : Ending) (w' : World) : Prop := e = .returned (.int .i64 z) ∧ ∃ L', Hid (PW w' L' n p2) ∧ Hid (KeptG n W w' L L')
/-- .. of the document's. -/
def SeM (W : World) (M : RL) (n : Nat) (a : Int) (X2 : Nat → On) (z : Int) (e : Ending) (w' : World) : Prop := e = .returned (.int .i64 z) ∧ ∃ M', Hid (RW w' M' n a X2) ∧ Hid (RKept n W w' M M')
theorem stp_new (w : World) (d t i e l r : Int) : StpAt (w.alloc (.cells #[.int .i64 d, .int .i64 t, .int .i64 i, .int .i64 e, .int .i64 l, .int .i64 r] 36)) w.heap.size 0 ⟨d, t, i, e, l, r⟩ := by
  have z := heap_alloc_last w (.cells #[.int .i64 d, .int .i64 t, .int .i64 i, .int .i64 e, .int .i64 l, .int .i64 r] 36)
  exact ⟨(row_cell z 0).1, by rw [Nat.zero_add]; exact (row_cell z 1).1, by rw [Nat.zero_add]; exact (row_cell z 2).1, by rw [Nat.zero_add]; exact (row_cell z 3).1, by rw [Nat.zero_add]; exact (row_cell z 4).1, by rw [Nat.zero_add]; exact (row_cell z 5).1⟩
theorem StpAt.kp {w w' : World} {g o : Nat} {s : Stp} {F : Nat → Prop} (h : StpAt w g o s) (k : Kp F w w') (hF : F g) : StpAt w' g o s := ⟨k.cell hF h.c0, k.cell hF h.c1, k.cell hF h.c2, k.cell hF h.c3, k.cell hF h.c4, k.cell hF h.c5⟩
set_option maxHeartbeats 4000000 in
theorem t12g {w : World} {L : Ly} {M : RL} {n N N2 : Nat} {p p2 : Pl} {X X2 : Nat → On} {z : Int} (h : Both w L M n N p X) (t i e l r : Int) (hT : Two n N2 p2 X2) (hnow : p2.now = p.now)
    (c19 : ∀ V, PW V L n p → Calls Try.prog 19 #[.pointer (some ⟨L.bp, 0, none⟩), .int .i64 i, .agg #[.int .i64 e, .int .i64 l, .int .i64 r]] V (SeL V L n p2 z))
    (c28 : ∀ V, RW V M n p.now X → Calls Try.prog 28 #[.pointer (some ⟨M.bp, 0, none⟩), .int .i64 i, .agg #[.int .i64 e, .int .i64 l, .int .i64 r]] V (SeM V M n p.now X2 z)) :
    Calls Try.prog 12 #[.pointer (some ⟨L.bp, 0, none⟩), .pointer (some ⟨M.bp, 0, none⟩), .agg #[.int .i64 2, .int .i64 t, .int .i64 i, .int .i64 e, .int .i64 l, .int .i64 r]] w (StepR w L M n N2) := by
  have H : Hid (Both w L M n N p X) := h
  have HU : Hid (Up w (w.alloc (.cells #[.int .i64 2, .int .i64 t, .int .i64 i, .int .i64 e, .int .i64 l, .int .i64 r] 36))) := Up.alloc _ _
  have HS : Hid (StpAt (w.alloc (.cells #[.int .i64 2, .int .i64 t, .int .i64 i, .int .i64 e, .int .i64 l, .int .i64 r] 36)) w.heap.size 0 ⟨2, t, i, e, l, r⟩) := stp_new _ _ _ _ _ _ _
  have C19 : Hid (∀ V, PW V L n p → Calls Try.prog 19 #[.pointer (some ⟨L.bp, 0, none⟩), .int .i64 i, .agg #[.int .i64 e, .int .i64 l, .int .i64 r]] V (SeL V L n p2 z)) := c19
  have C28 : Hid (∀ V, RW V M n p.now X → Calls Try.prog 28 #[.pointer (some ⟨M.bp, 0, none⟩), .int .i64 i, .agg #[.int .i64 e, .int .i64 l, .int .i64 r]] V (SeM V M n p.now X2 z)) := c28
  have HT : Hid (Two n N2 p2 X2 ∧ p2.now = p.now) := ⟨hT, hnow⟩
  have HG : Hid (¬ L.Own n w.heap.size ∧ ¬ M.Own n w.heap.size) := ⟨fun q => Nat.lt_irrefl _ (h.pw.own_less q), fun q => Nat.lt_irrefl _ (h.rw'.own_lt q)⟩
  clear h c19 c28 hT hnow
  go_enter Try.func12, Try.ntmps12
  go_upto_region 8 with fail
  have HB : Hid (Both (w.alloc (.cells #[.int .i64 2, .int .i64 t, .int .i64 i, .int .i64 e, .int .i64 l, .int .i64 r] 36)) L M n N p X) := H.out.up HU.out
  generalize w.alloc (.cells #[.int .i64 2, .int .i64 t, .int .i64 i, .int .i64 e, .int .i64 l, .int .i64 r] 36) = W at *
  generalize w.heap.size = G at *
  refine wp_region_shut 12 [(0, none), (1, none), (2, some false), (3, none), (4, some false), (6, none), (7, none), (8, some false), (9, none), (10, some false), (5, some true), (11, some true)] (fun v => StpAt v G 0 ⟨2, t, i, e, l, r⟩) (by kernel_rfl) (by decide) rfl (by kernel_rfl) (fun _ _ d _ _ h => by cases d <;> exact h) (HS.out.up (Up.drew _)) ?_
  refine OrdS.looks (.pointer (some ⟨L.bp, 0, none⟩)) (some 38) _ rfl rfl (Or.inl ⟨by kernel_rfl, fun w' hS => ?_⟩) ?_
  · go_simp
  refine OrdS.looks (.pointer (some ⟨G, 2, none⟩)) (some 39) _ rfl rfl (Or.inl ⟨by kernel_rfl, fun w' hS => ?_⟩) ?_
  · go_simp
  refine OrdS.reads (.int .i64 i) (some 40) _ rfl rfl (Or.inl ⟨by kernel_rfl, fun w' hS => ?_⟩) ?_
  · obtain ⟨z0, z1, z2, z3, z4, z5⟩ := hS
    simp only [Nat.zero_add] at z0 z1 z2 z3 z4 z5
    go_simp
  refine OrdS.looks (.pointer (some ⟨G, 3, none⟩)) (some 41) _ rfl rfl (Or.inl ⟨by kernel_rfl, fun w' hS => ?_⟩) ?_
  · go_simp
  refine OrdS.reads (.agg #[.int .i64 e, .int .i64 l, .int .i64 r]) (some 42) _ rfl rfl (Or.inl ⟨by kernel_rfl, fun w' hS => ?_⟩) ?_
  · obtain ⟨z0, z1, z2, z3, z4, z5⟩ := hS
    simp only [Nat.zero_add] at z0 z1 z2 z3 z4 z5
    go_simp
  refine OrdS.looks (.pointer (some ⟨M.bp, 0, none⟩)) (some 44) _ rfl rfl (Or.inl ⟨by kernel_rfl, fun w' hS => ?_⟩) ?_
  · go_simp
  refine OrdS.looks (.pointer (some ⟨G, 2, none⟩)) (some 45) _ rfl rfl (Or.inl ⟨by kernel_rfl, fun w' hS => ?_⟩) ?_
  · go_simp
  refine OrdS.reads (.int .i64 i) (some 46) _ rfl rfl (Or.inl ⟨by kernel_rfl, fun w' hS => ?_⟩) ?_
  · obtain ⟨z0, z1, z2, z3, z4, z5⟩ := hS
    simp only [Nat.zero_add] at z0 z1 z2 z3 z4 z5
    go_simp
  refine OrdS.looks (.pointer (some ⟨G, 3, none⟩)) (some 47) _ rfl rfl (Or.inl ⟨by kernel_rfl, fun w' hS => ?_⟩) ?_
  · go_simp
  refine OrdS.reads (.agg #[.int .i64 e, .int .i64 l, .int .i64 r]) (some 48) _ rfl rfl (Or.inl ⟨by kernel_rfl, fun w' hS => ?_⟩) ?_
  · obtain ⟨z0, z1, z2, z3, z4, z5⟩ := hS
    simp only [Nat.zero_add] at z0 z1 z2 z3 z4 z5
    go_simp
  simp only [Act.put, List.setIfInBounds_toArray, List.set_cons_succ, List.set_cons_zero]
  have HB1 : Hid (Both W.drew L M n N p X) := HB.out.up (Up.drew _)
  have HS1 : Hid (StpAt W.drew G 0 ⟨2, t, i, e, l, r⟩) := HS.out.up (Up.drew _)
  have HU1 : Hid (Up w W.drew) := HU.out.trans (Up.drew _)
  clear HB HS HU
  generalize W.drew = V at *
  · refine OrdS.does ?_
    refine wpOp_callG (f := 19) (some 43) rfl rfl (by kernel_rfl) rfl #[.pointer (some ⟨L.bp, 0, none⟩), .int .i64 i, .agg #[.int .i64 e, .int .i64 l, .int .i64 r]] (by kernel_rfl) (enters Try.func19 (by kernel_rfl) (by kernel_rfl) _ _) ?_
    refine (C19.out V HB1.out.pw).mono ?_
    rintro e1 w1 ⟨rfl, L1, HP1, HK1⟩
    refine ⟨_, rfl, HS1.out.kp HK1.out.kp HG.out.1, ?_⟩
    simp only [Act.put, List.setIfInBounds_toArray, List.set_cons_succ, List.set_cons_zero]
    obtain ⟨r1, a1⟩ := HB1.out.ap.left HB1.out.rw' HK1.out
    refine OrdS.does ?_
    refine wpOp_callG (f := 28) (some 49) rfl rfl (by kernel_rfl) rfl #[.pointer (some ⟨M.bp, 0, none⟩), .int .i64 i, .agg #[.int .i64 e, .int .i64 l, .int .i64 r]] (by kernel_rfl) (enters Try.func28 (by kernel_rfl) (by kernel_rfl) _ _) ?_
    refine (C28.out w1 r1).mono ?_
    rintro e2 w2 ⟨rfl, M1, HR2, HK2⟩
    obtain ⟨p2', a2⟩ := a1.right HP1.out HK2.out
    refine ⟨_, rfl, (HS1.out.kp HK1.out.kp HG.out.1).kp HK2.out.kp HG.out.2, ?_⟩
    have HZ : Hid (Both w2 L1 M1 n N2 p2 X2) := ⟨p2', HK1.out.ok, by rw [HT.out.2]; exact HR2.out, HK2.out.ok, a2, HT.out.1⟩
    have HY : Hid (L1.bp = L.bp ∧ M1.bp = M.bp ∧ Kp (fun b => ¬ L.Own n b ∧ ¬ M.Own n b) w w2 ∧ ∀ b, L1.Own n b ∨ M1.Own n b → (L.Own n b ∨ M.Own n b) ∨ w.heap.size ≤ b) := by
      have n1 := HU1.out.size
      have n2 := HK1.out.kp.size
      refine ⟨HK1.out.bp, HK2.out.bp, ((Kp.of_up HU1.out).trans (HK1.out.kp.mono (fun b _ q => q.1))).trans (HK2.out.kp.mono (fun b _ q => q.2)), fun b hb => ?_⟩
      rcases hb with hb | hb
      · rcases HK1.out.own b hb with q | q
        · exact Or.inl (Or.inl q)
        · exact Or.inr (by omega)
      · rcases HK2.out.own b hb with q | q
        · exact Or.inl (Or.inr q)
        · exact Or.inr (by omega)
    clear r1 a1 p2' a2
    simp only [Act.put, List.setIfInBounds_toArray, List.set_cons_succ, List.set_cons_zero]
    refine OrdS.ends ?_
    simp only [List.drop_succ_cons, List.drop_zero]
    go_wp2_with fail
    go_ret
    exact ⟨rfl, L1, M1, p2, X2, HZ, HY.out.1, HY.out.2.1, HY.out.2.2.1, HY.out.2.2.2⟩
theorem Two.more {n N : Nat} {p : Pl} {X : Nat → On} (h : Two n N p X) : Two n (N + 1) p X := ⟨h.now, h.ab, h.ok, fun i hi => Nat.le_succ_of_le (h.few i hi)⟩
/-- A step of the law that sets a task. -/
theorem t12s {w : World} {L : Ly} {M : RL} {n N : Nat} {p : Pl} {X : Nat → On} (h : Both w L M n N p X) (hn : n ≤ 256) (hN : N ≤ 800000) (t i e l r : Int) : Calls Try.prog 12 #[.pointer (some ⟨L.bp, 0, none⟩), .pointer (some ⟨M.bp, 0, none⟩), .agg #[.int .i64 2, .int .i64 t, .int .i64 i, .int .i64 e, .int .i64 l, .int .i64 r]] w (StepR w L M n (N + 1)) := by
  by_cases hb : i < 0 ∨ (n : Int) ≤ i ∨ ¬ MayT e l
  · refine t12g h t i e l r h.two.more rfl (z := 240) (fun V hV => (t19e hV hb).mono ?_) (fun V hV => (t28e hV hb).mono ?_)
    · rintro e' w' ⟨rfl, hu⟩
      exact ⟨rfl, L, hV.up hu.out, ⟨h.lo, rfl, fun b hb => Or.inl hb, Kp.of_up hu.out⟩⟩
    · rintro e' w' ⟨rfl, hu⟩
      exact ⟨rfl, M, hV.up hu.out, RKept.of_up h.mo hu.out⟩
  · obtain ⟨j, rfl⟩ : ∃ j : Nat, i = j := ⟨i.toNat, by omega⟩
    have hj : j < n := by omega
    have hm : MayT e l := Classical.byContradiction fun q => hb (Or.inr (Or.inr q))
    refine t12g h t j e l r (h.two.set hj r hm) rfl (z := 0) (fun V hV => Both.set19 h.two (by omega) hV h.lo hj hm) (fun V hV => ?_)
    exact t28 hV h.mo hn h.two.ok h.two.now.1 h.two.now.2 (fun i hi => Nat.le_trans (h.two.ab.len h.two.few i hi) (by omega)) hj r hm
end Go.Proofs.Ytjklaemhfhakhaa
