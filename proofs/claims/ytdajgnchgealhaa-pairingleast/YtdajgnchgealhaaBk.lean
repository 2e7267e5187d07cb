/- newSquare. -/
import Derived.Test.YtdajgnchgealhaaBj
namespace Go.Proofs.Ytdajgnchgealhaa
open Go.ChangeShapes Go.WideShapes Go.ChangeAt Go.RowKit
attribute [local go_sem] isSome_set

/-- .. and of the row i itself: its cells up to j. -/
def NW (n i j : Nat) (C : Nat → Nat → Int) (s : Sq) : Prop := (NV n i C s ∧ s.m i = -1 ∧ s.o i = -1 ∧ s.d i = i) ∧ ∀ l, l < j → s.c i l = C i l
theorem NW.set {n i j : Nat} {C : Nat → Nat → Int} {s s' : Sq} {x : Int} (h : NW n i j C s) (hs : s' = { s with c := upd2 s.c i j x }) (hx : C i j = x) : NW n i (j + 1) C s' := by
  subst hs
  obtain ⟨⟨p1, p2, p3, p4⟩, p5⟩ := h
  refine ⟨⟨⟨fun i' hi' => ?_, p1.uv⟩, p2, p3, p4⟩, fun l hl => ?_⟩
  · obtain ⟨r1, r2, r3, r4⟩ := p1.row i' hi'
    refine ⟨r1, r2, r3, fun l hl => ?_⟩
    show upd2 s.c i j x i' l = _
    unfold upd2
    rw [if_neg (by omega)]; exact r4 l hl
  · show upd2 s.c i j x i l = _
    unfold upd2
    rw [if_pos rfl]
    by_cases e : l = j
    · subst e; rw [upd_at, hx]
    · rw [upd_ne _ _ e]; exact p5 l (by omega)
theorem upd2_upd2 (f : Nat → Nat → Int) (a k : Nat) (x y : Int) : upd2 (upd2 f a k x) a k y = upd2 f a k y := by
  funext i j
  unfold upd2 upd
  by_cases e : i = a
  · simp only [if_pos e]
    by_cases e2 : j = k
    · simp only [if_pos e2]
    · simp only [if_neg e2]
  · simp only [if_neg e]
theorem NW.row {n i : Nat} {C : Nat → Nat → Int} {s : Sq} (h : NW n i n C s) : NV n (i + 1) C s := by
  refine ⟨fun i' hi' => ?_, h.1.1.uv⟩
  by_cases e : i' = i
  · subst e; exact ⟨h.1.2.1, h.1.2.2.1, h.1.2.2.2, h.2⟩
  · exact h.1.1.row i' (by omega)
theorem NV.inv {n N : Nat} {R : Nat → Nat} {T C : Nat → Nat → Int} {s : Sq} (h : NV n n C s) (hC : ∀ i j, C i j = if i < N ∧ j < R i ∧ 0 ≤ T i j then T i j else 281474976710657) (hg : Good N R T) : Inv n 0 s := by
  have hc : ∀ i j, i < n → j < n → 0 ≤ s.c i j ∧ s.c i j ≤ 281474976710657 := fun i j hi hj => by
    rw [(h.row i hi).2.2.2 j hj, hC]
    split
    · rename_i e
      have := hg.t i j e.1 e.2.1
      omega
    · omega
  refine ⟨⟨fun i hi => Or.inl (h.row i hi).1, fun j hj => Or.inl (h.row j hj).2.1⟩, fun i j hi hj => ?_, fun i j hi hj he => ?_, fun i hi => ?_, fun j hj => ?_, fun j hj _ => (h.uv j hj).2, fun i hi => ?_, ⟨fun a ha => ⟨a, ha, (h.row a ha).2.2.1⟩, fun a b ha hb he => ?_⟩, ⟨hc, fun i hi => ?_, fun i hi => ?_⟩⟩
  · rw [(h.uv i hi).1, (h.uv j hj).2]; exact (hc i j hi hj).1
  · rw [(h.row i hi).1] at he; omega
  · rw [(h.uv i hi).1]; exact Int.le_refl _
  · rw [(h.uv j hj).2]; exact Int.le_refl _
  · exact ⟨fun _ => Nat.zero_le _, fun _ => (h.row i hi).1⟩
  · rw [(h.row a ha).2.2.1, (h.row b hb).2.2.1] at he; omega
  · rw [(h.uv i hi).1]; omega
  · rw [(h.uv i hi).2]; omega
set_option maxRecDepth 20000 in
set_option maxHeartbeats 1000000 in
theorem t25 {w : World} {p : Option Addr} {N cap : Nat} {R : Nat → Nat} {T : Nat → Nat → Int} (h : TV w p N R T) (hg : Good N R T) : Calls Try.prog 25 #[.slice p N cap] w fun e w' => ∃ L s, e = .returned (.pointer (some ⟨L.bs, 0, none⟩)) ∧ Hid (SQ w' L (side N R) s) ∧ Hid (L.Ok w.heap.size (side N R)) ∧ Hid (Inv (side N R) 0 s) ∧ Hid (∀ i j, i < side N R → j < side N R → s.c i j = if i < N ∧ j < R i ∧ 0 ≤ T i j then T i j else 281474976710657) ∧ Hid (Up w w') := by
  have HT : Hid (TV w p N R T) := h
  have HG : Hid (Good N R T) := hg
  have hN := hg.n
  have hs : side N R ≤ 256 := by
    unfold side
    split
    · have := (hg.r 0 (by assumption)).1; omega
    · omega
  clear h hg
  have HSI : Hid (side N R = if 0 < N then max N (R 0) else 0) := rfl
  generalize side N R = n at *
  obtain ⟨K2, hK2⟩ : ∃ K, K = 2 * n := ⟨_, rfl⟩
  obtain ⟨K3, hK3⟩ : ∃ K, K = 3 * n := ⟨_, rfl⟩
  obtain ⟨K4, hK4⟩ : ∃ K, K = 4 * n := ⟨_, rfl⟩
  obtain ⟨K5, hK5⟩ : ∃ K, K = 5 * n := ⟨_, rfl⟩
  have z2 : (2 : Int) * (n : Int) = K2 := by omega
  have z3 : (3 : Int) * (n : Int) = K3 := by omega
  have z4 : (4 : Int) * (n : Int) = K4 := by omega
  have z5 : (5 : Int) * (n : Int) = K5 := by omega
  have l2 : K2 ≤ 1280 := by omega
  have l3 : K3 ≤ 1280 := by omega
  have l4 : K4 ≤ 1280 := by omega
  have l5 : K5 ≤ 1280 := by omega
  have m1 := make43 K3 (by omega)
  have m2 := make23 K5 (by omega)
  have m3 := make22 n (by omega)
  have HK : Hid (K2 = 2 * n ∧ K3 = 3 * n ∧ K4 = 4 * n ∧ K5 = 5 * n) := ⟨hK2, hK3, hK4, hK5⟩
  have x1 : (n : Int) ≤ K2 := by omega
  have x2 : (K2 : Int) ≤ K3 := by omega
  have x3 : (K3 : Int) ≤ K4 := by omega
  have x4 : (K4 : Int) ≤ K5 := by omega
  have x5 : (n : Int) ≤ K3 := by omega
  have x6 : (n : Int) ≤ K5 := by omega
  have x7 : (K2 : Int) ≤ K5 := by omega
  have x8 : (K3 : Int) ≤ K5 := by omega
  have y1 : K2 - n = n := by omega
  have y2 : K3 - K2 = n := by omega
  have y3 : K4 - K3 = n := by omega
  have y4 : K5 - K4 = n := by omega
  clear hK2 hK3 hK4 hK5
  go_enter Try.func25, Try.ntmps25
  go_upto_if 12 with fail
  go_cut [3] from 12 to 18 (fun v3 wx => v3 = .int .i64 n ∧ wx = w)
  case first =>
    clear z2 z3 z4 z5 x1 x2 x3 x4 x5 x6 x7 x8 y1 y2 y3 y4 m1 m2 m3
    by_cases h0 : 0 < N
    · have HSN : Hid (n = max N (R 0)) := by show _ = _; rw [HSI.out, if_pos h0]
      obtain ⟨b, o, q, cq, rfl, c0, -⟩ := HT.out 0 h0
      rw [Nat.add_zero] at c0
      have hN0 : (0 : Int) < N := by omega
      generalize R 0 = r0 at *
      go_wp2_with fail
      all_goals go_meet
      all_goals (case rel => (refine ⟨?_, rfl⟩; rw [HSN.out]; congr 1; omega))
    · have HSN : Hid (n = 0) := by show _ = _; rw [HSI.out, if_neg h0]
      obtain rfl : N = 0 := by omega
      go_wp2_with fail
      go_meet
      case rel => exact ⟨by rw [HSN.out], rfl⟩
  case rest =>
    obtain ⟨rfl, hw⟩ := hcut
    subst hw
    rename World => w
    go_wp2_with fail
    go_cut [4, 5] from 19 to 24 (fun v4 v5 wx => ∃ bc bp : Nat, v4 = .slice (some ⟨bc, 0, none⟩) K3 K3 ∧ v5 = .slice (some ⟨bp, 0, none⟩) K5 K5 ∧ Hid (NB w wx bc bp K3 K5))
    case first =>
      go_region
      · try go_wp2_with fail
        go_meet
        case rel => exact ⟨_, _, rfl, rfl, NB.two w K3 K5⟩
      · try go_wp2_with fail
        go_meet
        case rel => exact ⟨_, _, rfl, rfl, NB.one w K3 K5⟩
    case rest =>
      obtain ⟨bc, bp, rfl, rfl, HNB⟩ := hcut
      rename World => wx
      go_wp2_with fail
      go_region
      obtain ⟨k2, k3, k4, k5⟩ := HK.out
      have q1 : (if K2 = n then (some ⟨bc, 0, none⟩ : Option Addr) else some ⟨bc, n, none⟩) = some ⟨bc, n, none⟩ := by
        split
        · have e0 : n = 0 := by omega
          rw [e0]
        · rfl
      have q2 : (if K3 = K2 then (some ⟨bc, 0, none⟩ : Option Addr) else some ⟨bc, K2, none⟩) = some ⟨bc, K2, none⟩ := by
        split
        · have e0 : K2 = 0 := by omega
          rw [e0]
        · rfl
      have q3 : (if K2 = n then (some ⟨bp, 0, none⟩ : Option Addr) else some ⟨bp, n, none⟩) = some ⟨bp, n, none⟩ := by
        split
        · have e0 : n = 0 := by omega
          rw [e0]
        · rfl
      have q4 : (if K3 = K2 then (some ⟨bp, 0, none⟩ : Option Addr) else some ⟨bp, K2, none⟩) = some ⟨bp, K2, none⟩ := by
        split
        · have e0 : K2 = 0 := by omega
          rw [e0]
        · rfl
      have q5 : (if K4 = K3 then (some ⟨bp, 0, none⟩ : Option Addr) else some ⟨bp, K3, none⟩) = some ⟨bp, K3, none⟩ := by
        split
        · have e0 : K3 = 0 := by omega
          rw [e0]
        · rfl
      have q6 : (if K5 = K4 then (some ⟨bp, 0, none⟩ : Option Addr) else some ⟨bp, K4, none⟩) = some ⟨bp, K4, none⟩ := by
        split
        · have e0 : K4 = 0 := by omega
          rw [e0]
        · rfl
      simp only [q1, q2, q3, q4, q5, q6]
      obtain ⟨L, H, s, hbs, S1, S2, S3, S4⟩ := SR.start HNB.out HK.out
      have HSR : Hid (SR _ L n 0 H s) := S1
      have HLA : Hid (LA L w.heap.size n) := S2
      have HUV : Hid (∀ i, s.u i = 0 ∧ s.v i = 0) := S3
      have HUP : Hid (Up w _) := S4
      generalize (((wx.alloc (.cells (madeCells #[.slice none 0 0] n) 43)).alloc (.cells #[.slice (some ⟨wx.heap.size, 0, none⟩) n n, .slice (some ⟨bc, 0, none⟩) n n, .slice (some ⟨bc, n, none⟩) n n, .slice (some ⟨bp, 0, none⟩) n n, .slice (some ⟨bp, n, none⟩) n n, .slice (some ⟨bp, K2, none⟩) n n, .slice (some ⟨bc, K2, none⟩) n n, .slice (some ⟨bp, K3, none⟩) n n, .slice (some ⟨bp, K4, none⟩) n n] 54)).drew) = W at *
      rw [hbs]
      generalize wx.heap.size = wxs at *
      clear S1 S2 S3 S4 q1 q2 q3 q4 q5 q6 hbs m1 m2 m3 z2 z3 z4 z5 x1 x2 x3 x4 x5 x6 x7 x8 y1 y2 y3 y4 l2 l3 l4 l5 k2 k3 k4 k5
      obtain ⟨C, hC⟩ : ∃ C : Nat → Nat → Int, C = fun i j => if i < N ∧ j < R i ∧ 0 ≤ T i j then T i j else 281474976710657 := ⟨_, rfl⟩
      have HC : Hid (∀ i j, C i j = if i < N ∧ j < R i ∧ 0 ≤ T i j then T i j else 281474976710657) := fun i j => by rw [hC]
      clear hC
      have m4 := make43 n (by omega)
      go_wp2_with fail
      go_loopw [84] (fun v84 wr => ∃ (i : Nat) (s : Sq), i ≤ n ∧ v84 = .int .i64 i ∧ Hid (SR wr L n i H s) ∧ Hid (NV n i C s) ∧ Hid (Up w wr)) (fun v84 _ => n - (intOf v84).toNat)
      case atStart => exact ⟨0, s, by omega, rfl, HSR, ⟨fun i hi => by omega, fun i _ => HUV.out i⟩, HUP⟩
      case round =>
        clear HSR HUV HUP
        obtain ⟨i, s1, hi, rfl, HSR, HNV, HUP⟩ := hrel
        rename World => wr
        by_cases hlt : i < n
        · have hi' : (i : Int) < n := by omega
          have h0 := HSR.out.s0
          have hu : Up wr (wr.alloc (.cells (madeCells #[.int .i64 0] n) 2)) := Up.alloc _ _
          have h0' := cell_up h0 hu
          obtain ⟨v0, hv0⟩ := Option.isSome_iff_exists.1 (HSR.out.cb i hlt)
          have hv0' := cell_up hv0 hu
          have hft : (wr.alloc (.cells (madeCells #[.int .i64 0] n) 2)).frozen? ⟨L.bt, i, none⟩ = false := frozen_up hv0 (HSR.out.ft i) hu
          have HR1 : Hid (SR (((wr.alloc (.cells (madeCells #[.int .i64 0] n) 2)).setCell ⟨L.bt, i, none⟩ (.slice (some ⟨wr.heap.size, 0, none⟩) n n)).drew) L n (i + 1) H { s1 with c := fun i' => if i' = i then fun _ => 0 else s1.c i' }) := by
            have := (HSR.out.row HLA.out hlt).drewN 1
            rw [← HSR.out.sz] at this
            exact this
          have HU1 : Hid (Up w (((wr.alloc (.cells (madeCells #[.int .i64 0] n) 2)).setCell ⟨L.bt, i, none⟩ (.slice (some ⟨wr.heap.size, 0, none⟩) n n)).drew)) := below_drewN (Below.setCell (HUP.out.trans hu) HLA.out.st.2.1 _) 1
          clear hu
          go_wp2_with fail
          go_region
          generalize (((wr.alloc (.cells (madeCells #[.int .i64 0] n) 2)).setCell ⟨L.bt, i, none⟩ (.slice (some ⟨wr.heap.size, 0, none⟩) n n)).drew) = W9 at *
          have HN9 : Hid (NV n i C { s1 with c := fun i' => if i' = i then fun _ => 0 else s1.c i' }) := by
            refine ⟨fun i' hi' => ?_, HNV.out.uv⟩
            obtain ⟨r1, r2, r3, r4⟩ := HNV.out.row i' hi'
            refine ⟨r1, r2, r3, fun l hl => ?_⟩
            show (if i' = i then fun _ => 0 else s1.c i') l = _
            rw [if_neg (by omega)]; exact r4 l hl
          generalize ({ s1 with c := fun i' => if i' = i then fun _ => 0 else s1.c i' } : Sq) = s9 at *
          clear h0 h0' hv0 hv0' hft HSR HNV HUP
          have h3 := HR1.out.s3
          have h4 := HR1.out.s4
          have h5 := HR1.out.s5
          have c3 := HR1.out.cm i hlt
          have c4 := HR1.out.co i hlt
          have c5 := HR1.out.cd i hlt
          have f3 := HR1.out.fp (L.om + i)
          have f4 := HR1.out.fp (L.oo + i)
          have f5 := HR1.out.fp (L.od + i)
          have hne3 : ¬ L.bs = L.bp := HLA.out.ap.2.2.1
          have n1 : ¬ L.om + i = L.oo + i := by have := HLA.out.o2; omega
          have n2 : ¬ L.om + i = L.od + i := by have := HLA.out.o2; omega
          have n3 : ¬ L.oo + i = L.od + i := by have := HLA.out.o2; omega
          have HR2 : Hid (SR ((((W9.setCell ⟨L.bp, L.om + i, none⟩ (.int .i64 (-1))).setCell ⟨L.bp, L.oo + i, none⟩ (.int .i64 (-1))).setCell ⟨L.bp, L.od + i, none⟩ (.int .i64 i)).drew) L n (i + 1) H { s9 with m := upd s9.m i (-1), o := upd s9.o i (-1), d := upd s9.d i i }) := (((HR1.out.setm HLA.out hlt (-1)).seto HLA.out hlt (-1)).setd HLA.out hlt i).drewN 1
          have HU2 : Hid (Up w ((((W9.setCell ⟨L.bp, L.om + i, none⟩ (.int .i64 (-1))).setCell ⟨L.bp, L.oo + i, none⟩ (.int .i64 (-1))).setCell ⟨L.bp, L.od + i, none⟩ (.int .i64 i)).drew)) := below_drewN (Below.setCell (Below.setCell (Below.setCell HU1.out HLA.out.st.2.2.2 _) HLA.out.st.2.2.2 _) HLA.out.st.2.2.2 _) 1
          have HN2 : Hid (NW n i 0 C { s9 with m := upd s9.m i (-1), o := upd s9.o i (-1), d := upd s9.d i i }) := by
            refine ⟨⟨⟨fun i' hi' => ?_, HN9.out.uv⟩, upd_at s9.m i (-1), upd_at s9.o i (-1), upd_at s9.d i i⟩, fun l hl => by omega⟩
            obtain ⟨r1, r2, r3, r4⟩ := HN9.out.row i' hi'
            have hne : i' ≠ i := by omega
            exact ⟨(upd_ne s9.m _ hne).trans r1, (upd_ne s9.o _ hne).trans r2, (upd_ne s9.d _ hne).trans r3, r4⟩
          generalize s9.m i = q3 at c3
          generalize s9.o i = q4 at c4
          generalize s9.d i = q5 at c5
          go_wp2_with fail
          go_region
          generalize ((((W9.setCell ⟨L.bp, L.om + i, none⟩ (.int .i64 (-1))).setCell ⟨L.bp, L.oo + i, none⟩ (.int .i64 (-1))).setCell ⟨L.bp, L.od + i, none⟩ (.int .i64 i)).drew) = W10 at *
          generalize ({ s9 with m := upd s9.m i (-1), o := upd s9.o i (-1), d := upd s9.d i i } : Sq) = s10 at *
          clear h3 h4 h5 c3 c4 c5 f3 f4 f5 n1 n2 n3 HR1 HU1 HN9
          go_wp2_with fail
          go_loopw [115] (fun v wy => ∃ (j : Nat) (s : Sq), j ≤ n ∧ v = .int .i64 j ∧ Hid (SR wy L n (i + 1) H s) ∧ Hid (NW n i j C s) ∧ Hid (Up w wy)) (fun v _ => n - (intOf v).toNat)
          case atStart => exact ⟨0, s10, by omega, rfl, HR2, HN2, HU2⟩
          case round =>
            clear HR2 HU2 HN2
            obtain ⟨j, s, hj, rfl, HR2, HN2, HU2⟩ := hrel
            rename World => wy
            by_cases hlj : j < n
            · have hj' : (j : Int) < n := by omega
              have h0 := HR2.out.s0
              have ht := HR2.out.ct i (by omega)
              have hc := HR2.out.cc i j (by omega) hlj
              have hf := HR2.out.fr i j (by omega)
              have hbH := HR2.out.lt
              have hne0 : ¬ L.bs = H + i := by omega
              have hne1 : ¬ L.bt = H + i := by omega
              have hne2 : ¬ H + i = L.bs := by omega
              have hne4 : ¬ H + i = L.bt := by omega
              have HR3 : Hid (SR (wy.setCell ⟨H + i, j, none⟩ (.int .i64 281474976710657)) L n (i + 1) H { s with c := upd2 s.c i j 281474976710657 }) := HR2.out.setc (by omega) hlj _
              have HU3 : Hid (Up w (wy.setCell ⟨H + i, j, none⟩ (.int .i64 281474976710657))) := Below.setCell HU2.out (by show _ ≤ H + i; have := HLA.out.st; omega) _
              have HCC : Hid (C i j = if i < N ∧ j < R i ∧ 0 ≤ T i j then T i j else 281474976710657) := HC.out i j
              have d0 := HR3.out.s0
              have dt := HR3.out.ct i (by omega)
              have dc := HR3.out.cc i j (by omega) hlj
              have df := HR3.out.fr i j (by omega)
              generalize hcc : s.c i j = cij at hc
              clear hcc
              by_cases hin : i < N
              · have hiN' : (i : Int) < N := by omega
                obtain ⟨b, o, q, cq, rfl, t1, t2⟩ := (HT.out.up HU3.out) i hin
                by_cases hjR : j < R i
                · obtain ⟨b', o', rfl, t3⟩ := t2 j hjR
                  have hjR' : (j : Int) < R i := by omega
                  by_cases hT : 0 ≤ T i j
                  · have HX : Hid (C i j = T i j) := by show _ = _; rw [HCC.out, if_pos ⟨hin, hjR, hT⟩]
                    have HR4 : Hid (SR (((wy.setCell ⟨H + i, j, none⟩ (.int .i64 281474976710657)).setCell ⟨H + i, j, none⟩ (.int .i64 (T i j))).drew) L n (i + 1) H { s with c := upd2 s.c i j (T i j) }) := by
                      have := (HR3.out.setc (i0 := i) (by omega) hlj (T i j)).drewN 1
                      simp only [upd2_upd2] at this
                      exact this
                    have HU4 : Hid (Up w (((wy.setCell ⟨H + i, j, none⟩ (.int .i64 281474976710657)).setCell ⟨H + i, j, none⟩ (.int .i64 (T i j))).drew)) := below_drewN (Below.setCell HU3.out (by show _ ≤ H + i; have := HLA.out.st; omega) _) 1
                    have HNN : Hid (NW n i (j + 1) C { s with c := upd2 s.c i j (T i j) }) := HN2.out.set rfl HX.out
                    generalize T i j = tij at *
                    generalize R i = ri at *
                    clear HCC t2
                    go_wp2_with fail
                    go_region
                    try go_wp2_with fail
                    go_roundw
                    case rel => exact ⟨j + 1, _, by omega, by go_num, HR4.out, HNN.out, HU4.out⟩
                    case measure => simp [intOf]; omega
                  · have HX : Hid (C i j = 281474976710657) := by show _ = _; rw [HCC.out, if_neg (fun e => hT e.2.2)]
                    have HNN : Hid (NW n i (j + 1) C { s with c := upd2 s.c i j 281474976710657 }) := HN2.out.set rfl HX.out
                    have hT' : decide (0 ≤ T i j) = false := decide_eq_false hT
                    generalize T i j = tij at *
                    generalize R i = ri at *
                    clear HCC t2
                    go_wp2_with fail
                    go_roundw
                    case rel => exact ⟨j + 1, _, by omega, by go_num, HR3.out, HNN.out, HU3.out⟩
                    case measure => simp [intOf]; omega
                · have HX : Hid (C i j = 281474976710657) := by show _ = _; rw [HCC.out, if_neg (fun e => hjR e.2.1)]
                  have HNN : Hid (NW n i (j + 1) C { s with c := upd2 s.c i j 281474976710657 }) := HN2.out.set rfl HX.out
                  have hjR' : ¬ (j : Int) < R i := by omega
                  generalize R i = ri at *
                  clear HCC t2
                  go_wp2_with fail
                  go_roundw
                  case rel => exact ⟨j + 1, _, by omega, by go_num, HR3.out, HNN.out, HU3.out⟩
                  case measure => simp [intOf]; omega
              · have HX : Hid (C i j = 281474976710657) := by show _ = _; rw [HCC.out, if_neg (fun e => hin e.1)]
                have HNN : Hid (NW n i (j + 1) C { s with c := upd2 s.c i j 281474976710657 }) := HN2.out.set rfl HX.out
                have hiN' : ¬ (i : Int) < N := by omega
                go_wp2_with fail
                go_roundw
                case rel => exact ⟨j + 1, _, by omega, by go_num, HR3.out, HNN.out, HU3.out⟩
                case measure => simp [intOf]; omega
            · obtain rfl : j = n := by omega
              have HNR : Hid (NV j (i + 1) C s) := HN2.out.row
              go_wp2_with fail
              go_roundw
              case rel => exact ⟨i + 1, s, by omega, by go_num, HR2.out, HNR.out, HU2.out⟩
              case measure => simp [intOf]; omega
        · obtain rfl : i = n := by omega
          obtain ⟨D1, D2⟩ := HSR.out.done HLA.out
          have HD1 : Hid (SQ wr L i s1) := D1
          have HD2 : Hid (L.Ok w.heap.size i) := D2
          have HD3 : Hid (Inv i 0 s1) := HNV.out.inv HC.out HG.out
          have HD4 : Hid (∀ a b, a < i → b < i → s1.c a b = if a < N ∧ b < R a ∧ 0 ≤ T a b then T a b else 281474976710657) := fun a b ha hb => by rw [(HNV.out.row a ha).2.2.2 b hb]; exact HC.out a b
          clear D1 D2
          go_wp2_with fail
          go_ret
          exact ⟨L, s1, rfl, HD1, HD2, HD3, HD4, HUP⟩
end Go.Proofs.Ytdajgnchgealhaa
