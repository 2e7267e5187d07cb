/- runs: the closure. -/
import Derived.Test.YtjklaemhfhakhaaBd
import Derived.Test.YtjklaemhfhakhaaLo
namespace Go.Proofs.Ytjklaemhfhakhaa
open Go.ChangeShapes Go.WideShapes Go.ChangeAt Go.RowKit

/-- A job in a block. -/
structure JobAt (w : World) (g : Nat) (j : Jb) : Prop where
  c0 : w.cell? ⟨g, 0, none⟩ = some (.int .i64 j.task)
  c1 : w.cell? ⟨g, 1, none⟩ = some (.int .i64 j.frm)
  c2 : w.cell? ⟨g, 2, none⟩ = some (.int .i64 j.due)
  c3 : w.cell? ⟨g, 3, none⟩ = some (.int .i64 j.left)
  c4 : w.cell? ⟨g, 4, none⟩ = some (.int .i64 j.rank)
  fz : ∀ k, w.frozen? ⟨g, k, none⟩ = false
/-- A number in a block. -/
structure NumAt (w : World) (g : Nat) (x : Int) : Prop where
  c0 : w.cell? ⟨g, 0, none⟩ = some (.int .i64 x)
  fz : w.frozen? ⟨g, 0, none⟩ = false
theorem row_cell {w : World} {g : Nat} {cs : Array Value} {t : TypeId} (h : w.heap[g]? = some (.cells cs t (0, 0))) (k : Nat) : w.cell? ⟨g, k, none⟩ = cs[k]? ∧ w.frozen? ⟨g, k, none⟩ = false := by
  constructor
  · simp only [World.cell?, h]; rfl
  · simp [World.frozen?, h]
theorem JobAt.of {w : World} {g : Nat} {j : Jb} {t : TypeId} (h : w.heap[g]? = some (.cells #[.int .i64 j.task, .int .i64 j.frm, .int .i64 j.due, .int .i64 j.left, .int .i64 j.rank] t (0, 0))) : JobAt w g j :=
  ⟨(row_cell h 0).1, (row_cell h 1).1, (row_cell h 2).1, (row_cell h 3).1, (row_cell h 4).1, fun k => (row_cell h k).2⟩
theorem NumAt.of {w : World} {g : Nat} {x : Int} {t : TypeId} (h : w.heap[g]? = some (.cells #[.int .i64 x] t (0, 0))) : NumAt w g x := ⟨(row_cell h 0).1, (row_cell h 0).2⟩
theorem JobAt.up {w w' : World} {g : Nat} {j : Jb} (h : JobAt w g j) (hu : Up w w') : JobAt w' g j :=
  ⟨cell_up h.c0 hu, cell_up h.c1 hu, cell_up h.c2 hu, cell_up h.c3 hu, cell_up h.c4 hu, fun k => (World.frozen?_of_block (hu.block g (World.block_lt_of_cell? w _ h.c0))).trans (h.fz k)⟩
theorem NumAt.up {w w' : World} {g : Nat} {x : Int} (h : NumAt w g x) (hu : Up w w') : NumAt w' g x := ⟨cell_up h.c0 hu, frozen_up h.c0 h.fz hu⟩
theorem JobAt.off {w : World} {g b o : Nat} {j : Jb} {v : Value} (h : JobAt w g j) (hn : g ≠ b) : JobAt (w.setCell ⟨b, o, none⟩ v) g j :=
  ⟨cell_other h.c0 (Or.inl hn), cell_other h.c1 (Or.inl hn), cell_other h.c2 (Or.inl hn), cell_other h.c3 (Or.inl hn), cell_other h.c4 (Or.inl hn), fun k => by rw [World.frozen?_setCell]; exact h.fz k⟩
theorem NumAt.off {w : World} {g b o : Nat} {x : Int} {v : Value} (h : NumAt w g x) (hn : g ≠ b) : NumAt (w.setCell ⟨b, o, none⟩ v) g x := ⟨cell_other h.c0 (Or.inl hn), by rw [World.frozen?_setCell]; exact h.fz⟩
theorem NumAt.put {w : World} {g : Nat} {x y : Int} (h : NumAt w g x) : NumAt (w.setCell ⟨g, 0, none⟩ (.int .i64 y)) g y := ⟨World.cell?_setCell_same _ _ _ h.c0, by rw [World.frozen?_setCell]; exact h.fz⟩
theorem JobAt.put {w : World} {g : Nat} {i j : Jb} (h : JobAt w g i) : JobAt (((((w.setCell ⟨g, 0, none⟩ (.int .i64 j.task)).setCell ⟨g, 1, none⟩ (.int .i64 j.frm)).setCell ⟨g, 2, none⟩ (.int .i64 j.due)).setCell ⟨g, 3, none⟩ (.int .i64 j.left)).setCell ⟨g, 4, none⟩ (.int .i64 j.rank)) g j := by
  have n : ∀ a b : Nat, a ≠ b → ((⟨g, a, none⟩ : Addr).block ≠ (⟨g, b, none⟩ : Addr).block ∨ (⟨g, a, none⟩ : Addr).off ≠ (⟨g, b, none⟩ : Addr).off) := fun a b h => Or.inr h
  refine ⟨?_, ?_, ?_, ?_, ?_, fun k => by simp only [World.frozen?_setCell]; exact h.fz k⟩
  · exact cell_other (cell_other (cell_other (cell_other (World.cell?_setCell_same _ _ _ h.c0) (n 0 1 (by omega))) (n 0 2 (by omega))) (n 0 3 (by omega))) (n 0 4 (by omega))
  · exact cell_other (cell_other (cell_other (World.cell?_setCell_same _ _ _ (cell_other h.c1 (n 1 0 (by omega)))) (n 1 2 (by omega))) (n 1 3 (by omega))) (n 1 4 (by omega))
  · exact cell_other (cell_other (World.cell?_setCell_same _ _ _ (cell_other (cell_other h.c2 (n 2 0 (by omega))) (n 2 1 (by omega)))) (n 2 3 (by omega))) (n 2 4 (by omega))
  · exact cell_other (World.cell?_setCell_same _ _ _ (cell_other (cell_other (cell_other h.c3 (n 3 0 (by omega))) (n 3 1 (by omega))) (n 3 2 (by omega)))) (n 3 4 (by omega))
  · exact World.cell?_setCell_same _ _ _ (cell_other (cell_other (cell_other (cell_other h.c4 (n 4 0 (by omega))) (n 4 1 (by omega))) (n 4 2 (by omega))) (n 4 3 (by omega)))
/-- What runs keeps while it looks. -/
structure RI (w : World) (L : Ly) (n : Nat) (p : Pl) (N : Nat) (k : Nat) (wr : World) : Prop where
  ge : w.heap.size ≤ N
  own : ∀ b, L.Own n b → b < w.heap.size
  pw : PW wr L n p
  bx : wr.cell? ⟨N, 0, none⟩ = some (.pointer (some ⟨L.bp, 0, none⟩))
  best : JobAt wr (N + 1) (runN p.J p.now k).1
  frm : NumAt wr (N + 2) (runN p.J p.now k).2
  up : Up w wr
theorem RI.upp {w : World} {L : Ly} {n : Nat} {p : Pl} {N k : Nat} {wr w' : World} (h : RI w L n p N k wr) (hu : Up wr w') : RI w L n p N k w' :=
  ⟨h.ge, h.own, h.pw.up hu, cell_up h.bx hu, h.best.up hu, h.frm.up hu, h.up.trans hu⟩
/-- A new best. -/
theorem RI.put {w : World} {L : Ly} {n : Nat} {p : Pl} {N k : Nat} {wr : World} (h : RI w L n p N k wr) {j : Jb} {a : Int} {m : Nat} (hr : runN p.J p.now m = (j, a)) : RI w L n p N m ((((((wr.setCell ⟨N + 1, 0, none⟩ (.int .i64 j.task)).setCell ⟨N + 1, 1, none⟩ (.int .i64 j.frm)).setCell ⟨N + 1, 2, none⟩ (.int .i64 j.due)).setCell ⟨N + 1, 3, none⟩ (.int .i64 j.left)).setCell ⟨N + 1, 4, none⟩ (.int .i64 j.rank)).setCell ⟨N + 2, 0, none⟩ (.int .i64 a)) := by
  have hs : ∀ W : World, Kp (fun b => b ≠ N + 1 ∧ b ≠ N + 2) wr W → PW W L n p ∧ W.cell? ⟨N, 0, none⟩ = some (.pointer (some ⟨L.bp, 0, none⟩)) ∧ Up w W := by
    intro W hk
    refine ⟨h.pw.kp hk fun b hb => ?_, hk.cell (by show N ≠ N + 1 ∧ N ≠ N + 2; omega) h.bx, ?_⟩
    · have := h.own b hb; have := h.ge; omega
    · have k1 : Kp (fun b => b < w.heap.size) w W := (Kp.of_up h.up).trans (hk.mono fun b _ hb => by have := h.ge; omega)
      exact k1.up fun b hb => hb
  have n1 : ¬ (fun b => b ≠ N + 1 ∧ b ≠ N + 2) (N + 1) := fun q => q.1 rfl
  have n2 : ¬ (fun b => b ≠ N + 1 ∧ b ≠ N + 2) (N + 2) := fun q => q.2 rfl
  obtain ⟨h1, h2, h3⟩ := hs _ (((((((Kp.refl _ wr).setCell n1 (.int .i64 j.task)).setCell n1 (.int .i64 j.frm)).setCell n1 (.int .i64 j.due)).setCell n1 (.int .i64 j.left)).setCell n1 (.int .i64 j.rank)).setCell n2 (.int .i64 a))
  refine ⟨h.ge, h.own, h1, h2, ?_, ?_, h3⟩
  · rw [hr]
    exact (h.best.put (j := j)).off (by omega)
  · rw [hr]
    exact (((((h.frm.off (by omega)).off (by omega)).off (by omega)).off (by omega)).off (by omega)).put
theorem RI.keep {w : World} {L : Ly} {n : Nat} {p : Pl} {N k : Nat} {wr : World} (h : RI w L n p N k wr) (hr : runN p.J p.now (k + 1) = runN p.J p.now k) : RI w L n p N (k + 1) wr :=
  ⟨h.ge, h.own, h.pw, h.bx, by rw [hr]; exact h.best, by rw [hr]; exact h.frm, h.up⟩
set_option maxHeartbeats 1000000 in
theorem t48 {w : World} {L : Ly} {n : Nat} {p : Pl} {N k : Nat} {wr : World} (h : RI w L n p N k wr) : Calls Try.prog 48 #[jv (p.J k), .pointer (some ⟨N, 0, none⟩), .pointer (some ⟨N + 2, 0, none⟩), .pointer (some ⟨N + 1, 0, none⟩)] wr fun e w' => e = .returned (.tuple #[]) ∧ Hid (RI w L n p N (k + 1) w') := by
  have H : Hid (RI w L n p N k wr) := h
  have p0 := h.pw.p0
  have b0 := h.bx
  generalize hj : p.J k = j at *
  obtain ⟨j1, j2, j3, j4, j5⟩ := j
  have HJ : Hid (p.J k = ⟨j1, j2, j3, j4, j5⟩) := hj
  obtain ⟨now, hnow⟩ : ∃ now, p.now = now := ⟨_, rfl⟩
  rw [hnow] at p0
  obtain ⟨a, ha⟩ : ∃ a, max j2 now = a := ⟨_, rfl⟩
  have HA : Hid (max j2 now = a) := ha
  have HN : Hid (p.now = now) := hnow
  show Calls Try.prog 48 #[.agg #[.int .i64 j1, .int .i64 j2, .int .i64 j3, .int .i64 j4, .int .i64 j5], .pointer (some ⟨N, 0, none⟩), .pointer (some ⟨N + 2, 0, none⟩), .pointer (some ⟨N + 1, 0, none⟩)] wr _
  clear h ha hnow hj
  go_enter Try.func48, Try.ntmps48
  go_wp2_with fail
  have H1 : Hid (RI w L n p N k (wr.alloc (.cells #[.int .i64 j1, .int .i64 j2, .int .i64 j3, .int .i64 j4, .int .i64 j5] 88))) := H.out.upp (Up.alloc _ _)
  have HG : Hid (JobAt (wr.alloc (.cells #[.int .i64 j1, .int .i64 j2, .int .i64 j3, .int .i64 j4, .int .i64 j5] 88)) wr.heap.size ⟨j1, j2, j3, j4, j5⟩) := JobAt.of (heap_alloc_last _ _)
  have x1 := HG.out.c1
  have x5 := H1.out.bx
  have x6 := H1.out.pw.p0
  rw [HN.out] at x6
  have lN : Hid (N + 2 < wr.heap.size) := World.block_lt_of_cell? wr _ H.out.frm.c0
  clear H p0 b0
  generalize wr.alloc (.cells #[.int .i64 j1, .int .i64 j2, .int .i64 j3, .int .i64 j4, .int .i64 j5] 88) = W at *
  generalize wr.heap.size = G at *
  clear wr
  refine wp_region_up 7 [cV (.pointer (some ⟨G, 1, none⟩)), cV (.int .i64 j2), cV (.pointer (some ⟨L.bp, 0, none⟩)), cV (.pointer (some ⟨L.bp, 0, none⟩)), cV (.pointer (some ⟨L.bp, 0, none⟩)), cV (.int .i64 now), cV (.int .i64 a)] (by kernel_rfl) (by decide) rfl (by kernel_rfl) (by kernel_rfl) ⟨mV _, mV _, mV _, mV _, mV _, mV _, mV _, trivial⟩ ?_
  intro vals
  simp only [List.take_succ_cons, List.take_zero, valsN, FillL, Act.put, List.setIfInBounds_toArray, List.set_cons_succ, List.set_cons_zero, Nat.zero_add, Nat.reduceAdd]
  refine ⟨⟨fun v hu h => ?_, fun v hu h => ?_, fun v hu h => ?_, fun v hu h => ?_, fun v hu h => ?_, fun v hu h => ?_, fun v hu h => ?_, trivial⟩, fun v hu h => ?_⟩
  all_goals have h0 := hu
  · refine UpO.is _ rfl rfl ?_
    go_simp
  · have e0 : vals 0 = .pointer (some ⟨G, 1, none⟩) := h 0 (by decide) (by kernel_rfl)
    have z := cell_up x1 h0
    refine UpO.is _ rfl rfl ?_
    rw [e0]
    go_simp
  · have z := cell_up x5 h0
    refine UpO.is _ rfl rfl ?_
    go_simp
  · have e2 : vals 2 = .pointer (some ⟨L.bp, 0, none⟩) := h 2 (by decide) (by kernel_rfl)
    refine UpO.is _ rfl rfl ?_
    rw [e2]
    go_simp
  · have e3 : vals 3 = .pointer (some ⟨L.bp, 0, none⟩) := h 3 (by decide) (by kernel_rfl)
    refine UpO.is _ rfl rfl ?_
    rw [e3]
    go_simp
  · have e4 : vals 4 = .pointer (some ⟨L.bp, 0, none⟩) := h 4 (by decide) (by kernel_rfl)
    have z := cell_up x6 h0
    refine UpO.is _ rfl rfl ?_
    rw [e4]
    go_simp
  · have e1 : vals 1 = .int .i64 j2 := h 1 (by decide) (by kernel_rfl)
    have e5 : vals 5 = .int .i64 now := h 5 (by decide) (by kernel_rfl)
    refine UpO.is _ rfl rfl ?_
    rw [e1, e5]
    go_simp
    have q := HA.out
    split <;> omega
  · have e6 : vals 6 = .int .i64 a := h 6 (by decide)
    clear h
    rw [e6]
    clear e6
    simp only [List.drop_succ_cons, List.drop_zero]
    have H2 : Hid (RI w L n p N k v) := H1.out.upp hu
    have HG2 : Hid (JobAt v G ⟨j1, j2, j3, j4, j5⟩) := HG.out.up hu
    clear H1 HG x1 x5 x6 hu
    obtain ⟨g0, g1, g2, g3, g4, -⟩ := HG2.out
    obtain ⟨f0, f1⟩ := H2.out.frm
    obtain ⟨r0, r1, r2, r3, r4, r5⟩ := H2.out.best
    have z0 := r5 0
    have z1 := r5 1
    have z2 := r5 2
    have z3 := r5 3
    have z4 := r5 4
    clear r5
    simp only at g0 g1 g2 g3 g4
    generalize hr : runN p.J p.now k = rr at *
    obtain ⟨⟨q1, q2, q3, q4, q5⟩, fr⟩ := rr
    have HR : Hid (runN p.J p.now k = (⟨q1, q2, q3, q4, q5⟩, fr)) := hr
    clear hr
    simp only at f0 r0 r1 r2 r3 r4
    have HK : Hid ((a < fr ∨ (a = fr ∧ ahB ⟨j1, j2, j3, j4, j5⟩ ⟨q1, q2, q3, q4, q5⟩ = true)) → runN p.J p.now (k + 1) = (⟨j1, j2, j3, j4, j5⟩, a)) := by
      show _ → _
      intro q
      show (if _ then _ else _) = _
      rw [HR.out, HJ.out, HN.out]
      simp only
      rw [HA.out, if_pos q]
    have HF : Hid (¬ (a < fr ∨ (a = fr ∧ ahB ⟨j1, j2, j3, j4, j5⟩ ⟨q1, q2, q3, q4, q5⟩ = true)) → runN p.J p.now (k + 1) = runN p.J p.now k) := by
      show _ → _
      intro q
      show (if _ then _ else _) = _
      rw [HR.out, HJ.out, HN.out]
      simp only
      rw [HA.out, if_neg q]
    by_cases hc : a < fr
    · go_wp2
      go_end0
      exact ⟨rfl, RI.put (j := ⟨j1, j2, j3, j4, j5⟩) H2.out (HK.out (Or.inl hc))⟩
    · by_cases he : a = fr
      · obtain ⟨b, hb⟩ : ∃ b, ahB ⟨j1, j2, j3, j4, j5⟩ ⟨q1, q2, q3, q4, q5⟩ = b := ⟨_, rfl⟩
        have HB : Hid (ahB ⟨j1, j2, j3, j4, j5⟩ ⟨q1, q2, q3, q4, q5⟩ = b) := hb
        have C : ∀ w, Hid (Calls Try.prog 49 #[.agg #[.int .i64 j1, .int .i64 j2, .int .i64 j3, .int .i64 j4, .int .i64 j5], .agg #[.int .i64 q1, .int .i64 q2, .int .i64 q3, .int .i64 q4, .int .i64 q5]] w (VU w (.bool b))) := by
          intro w
          have := t49 ⟨j1, j2, j3, j4, j5⟩ ⟨q1, q2, q3, q4, q5⟩ w
          rw [hb] at this
          exact this
        subst he
        clear hb
        cases b
        · go_wp2_with (go_at_call 49; (with_reducible refine (C _).out.mono ?_); rintro e w3 ⟨rfl, HU3⟩)
          go_end0
          refine ⟨rfl, RI.keep (H2.out.upp HU3.out) (HF.out fun q => ?_)⟩
          rcases q with q | q
          · omega
          · rw [HB.out] at q; cases q.2
        · go_wp2_with (go_at_call 49; (with_reducible refine (C _).out.mono ?_); rintro e w3 ⟨rfl, HU3⟩; (have H3 : Hid (RI w L n p N k w3) := H2.out.upp HU3.out); (have HG3 : Hid (JobAt w3 G ⟨j1, j2, j3, j4, j5⟩) := HG2.out.up HU3.out); (obtain ⟨g0, g1, g2, g3, g4, -⟩ := HG3.out); (obtain ⟨f0, f1⟩ := H3.out.frm); (obtain ⟨r0, r1, r2, r3, r4, r5⟩ := H3.out.best); rw [HR.out] at f0 r0 r1 r2 r3 r4; (have z0 := r5 0); (have z1 := r5 1); (have z2 := r5 2); (have z3 := r5 3); (have z4 := r5 4); clear r5; simp only at g0 g1 g2 g3 g4 f0 r0 r1 r2 r3 r4)
          go_end0
          exact ⟨rfl, RI.put (j := ⟨j1, j2, j3, j4, j5⟩) H3.out (HK.out (Or.inr ⟨trivial, HB.out⟩))⟩
      · go_wp2
        go_end0
        exact ⟨rfl, RI.keep H2.out (HF.out fun q => by rcases q with q | q; exact absurd q (by omega); exact he q.1)⟩

end Go.Proofs.Ytjklaemhfhakhaa
