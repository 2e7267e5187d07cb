/- Join. -/
import Derived.Test.YtijfmaepoamkgabJd
namespace Go.Proofs.Ytijfmaepoamkgab.Fo
open Go.ChangeShapes Go.WideShapes Go.ChangeAt Go.RowKit

theorem cell_up {w w' : World} {b o : Nat} {v : Value} (h : w.cell? ⟨b, o, none⟩ = some v) (hu : Up w w') : w'.cell? ⟨b, o, none⟩ = some v := by
  rw [Below.cell hu (World.block_lt_of_cell? w _ h)]; exact h
/-- The cells of a slice hold these whole numbers. -/
def IR (w : World) (p : Option Addr) (n : Nat) (f : Nat → Int) : Prop := ∀ i, i < n → ∃ blk off, p = some ⟨blk, off, none⟩ ∧ w.cell? ⟨blk, off + i, none⟩ = some (.int .i64 (f i))
theorem IR.up {w w' : World} {p : Option Addr} {n : Nat} {f : Nat → Int} (h : IR w p n f) (hu : Up w w') : IR w' p n f := by
  intro i hi
  obtain ⟨blk, off, hp, hc⟩ := h i hi
  exact ⟨blk, off, hp, cell_up hc hu⟩
theorem join_ok {r m : Nat → Int} {i : Nat} (h : (joinF r m i).2.2 = 0) : 1 ≤ (joinF r m i).2.1 ∧ (joinF r m i).2.1 ≤ 4611686018427387904 ∧ 0 ≤ (joinF r m i).1 ∧ (joinF r m i).1 < (joinF r m i).2.1 := by
  have e : joinF r m i = ((joinF r m i).1, (joinF r m i).2.1, 0) := by rw [← h]
  obtain ⟨hj, hb⟩ := join_inv r m i _ _ e
  exact ⟨hj.one, hb, hj.lo, hj.hi⟩
/-- What Join answers. -/
def joinT (r m : Nat → Int) (n1 n2 : Nat) : Int × Int × Int := if min n1 n2 ≤ 8 then joinF r m (min n1 n2) else (0, 0, 3)
theorem joinF_end (r m : Nat → Int) {i n : Nat} (h : i ≤ n) (hc : (joinF r m i).2.2 ≠ 0) : joinF r m n = joinF r m i := by
  have := joinF_over r m i hc (n - i)
  rwa [show i + (n - i) = n by omega] at this
def J2 (w : World) (g : Nat) (wr : World) (x a : Int) : Prop := Up w wr ∧ R2 wr g x a ∧ w.heap.size ≤ g
theorem J2.up {w : World} {g : Nat} {wr w' : World} {x a : Int} (h : J2 w g wr x a) (hu : Up wr w') : J2 w g w' x a := ⟨h.1.trans hu, h.2.1.up hu, h.2.2⟩
theorem keepJ {w : World} {g : Nat} {wr w' : World} {x a : Int} {b1 o1 b2 o2 : Nat} {v1 v2 : Value} (h : Hid (J2 w g wr x a) ∧ wr.cell? ⟨b1, o1, none⟩ = some v1 ∧ wr.cell? ⟨b2, o2, none⟩ = some v2) (hu : Up wr w') : Hid (J2 w g w' x a) ∧ w'.cell? ⟨b1, o1, none⟩ = some v1 ∧ w'.cell? ⟨b2, o2, none⟩ = some v2 :=
  ⟨h.1.out.up hu, cell_up h.2.1 hu, cell_up h.2.2 hu⟩
theorem new_after {w w' : World} (h : Up ((w.alloc (.cells #[.int .i64 0, .int .i64 0] 70)).drew) w') : (w'.cell? ⟨w.heap.size, 0, none⟩ = some (.int .i64 0) ∧ w'.cell? ⟨w.heap.size, 1, none⟩ = some (.int .i64 0)) ∧ w'.frozen? ⟨w.heap.size, 0, none⟩ = false ∧ w'.frozen? ⟨w.heap.size, 1, none⟩ = false := by
  have h1 : R2 w' w.heap.size 0 0 := ((R2.new w 0 0).up (Up.drew _)).up h
  exact ⟨h1.cells, h1.frz 0, h1.frz 1⟩
theorem t29n (r m : Int) (hm : 1 ≤ m) (hm2 : m ≤ 1099511627776) (w : World) : Calls Try.prog 29 #[.int .i64 r, .int .i64 m] (w.alloc (.cells #[.int .i64 0, .int .i64 0] 70)).drew fun e w' => e = .returned (.tuple #[.agg #[.int .i64 (r % m), .int .i64 m], .int .i64 0]) ∧ Hid (Up ((w.alloc (.cells #[.int .i64 0, .int .i64 0] 70)).drew) w') ∧ (w'.cell? ⟨w.heap.size, 0, none⟩ = some (.int .i64 0) ∧ w'.cell? ⟨w.heap.size, 1, none⟩ = some (.int .i64 0)) ∧ w'.frozen? ⟨w.heap.size, 0, none⟩ = false ∧ w'.frozen? ⟨w.heap.size, 1, none⟩ = false :=
  (t29 r m hm hm2 _).mono fun _ _ h => ⟨h.1, h.2, new_after h.2.out⟩
theorem t29en (r m : Int) (hm : m < 1 ∨ 1099511627776 < m) (w : World) : Calls Try.prog 29 #[.int .i64 r, .int .i64 m] (w.alloc (.cells #[.int .i64 0, .int .i64 0] 70)).drew fun e w' => e = .returned (.tuple #[.agg #[.int .i64 0, .int .i64 0], .int .i64 2]) ∧ Hid (Up ((w.alloc (.cells #[.int .i64 0, .int .i64 0] 70)).drew) w') ∧ (w'.cell? ⟨w.heap.size, 0, none⟩ = some (.int .i64 0) ∧ w'.cell? ⟨w.heap.size, 1, none⟩ = some (.int .i64 0)) ∧ w'.frozen? ⟨w.heap.size, 0, none⟩ = false ∧ w'.frozen? ⟨w.heap.size, 1, none⟩ = false :=
  (t29e r m hm _).mono fun _ _ h => ⟨h.1, h.2, new_after h.2.out⟩
theorem keepJ_st {w : World} {g : Nat} {wr w4 : World} {x a : Int} {b1 o1 b2 o2 : Nat} {v1 v2 u1 u2 : Value} (h0 : Hid (J2 w g wr x a) ∧ wr.cell? ⟨b1, o1, none⟩ = some v1 ∧ wr.cell? ⟨b2, o2, none⟩ = some v2) (h : Hid (J2 w g w4 x a) ∧ w4.cell? ⟨b1, o1, none⟩ = some v1 ∧ w4.cell? ⟨b2, o2, none⟩ = some v2) :
    Hid (J2 w g ((w4.setCell ⟨wr.heap.size, 0, none⟩ u1).setCell ⟨wr.heap.size, 1, none⟩ u2) x a) ∧ ((w4.setCell ⟨wr.heap.size, 0, none⟩ u1).setCell ⟨wr.heap.size, 1, none⟩ u2).cell? ⟨b1, o1, none⟩ = some v1 ∧ ((w4.setCell ⟨wr.heap.size, 0, none⟩ u1).setCell ⟨wr.heap.size, 1, none⟩ u2).cell? ⟨b2, o2, none⟩ = some v2 := by
  obtain ⟨k1, k2, k3⟩ := h0
  obtain ⟨j1, j2, j3⟩ := h
  have l1 := World.block_lt_of_cell? wr _ k2
  have l2 := World.block_lt_of_cell? wr _ k3
  have l3 := k1.out.2.1.lt
  simp only at l1 l2
  have lw := k1.out.1.size
  refine ⟨⟨Below.setCell (Below.setCell j1.out.1 lw _) lw _, ?_, j1.out.2.2⟩, ?_, ?_⟩
  · have := j1.out.2.1
    unfold R2 at *
    rw [Below.heap_setCell _ _ _ _ (by simp only; omega), Below.heap_setCell _ _ _ _ (by simp only; omega)]; exact this
  · rw [World.cell?_setCell_far _ _ _ _ (by simp only; omega), World.cell?_setCell_far _ _ _ _ (by simp only; omega)]; exact j2
  · rw [World.cell?_setCell_far _ _ _ _ (by simp only; omega), World.cell?_setCell_far _ _ _ _ (by simp only; omega)]; exact j3
/-- The known one and the next one. -/
def JB (w : World) (g gn : Nat) (w5 : World) (x a r m : Int) : Prop := J2 w g w5 x a ∧ R2 w5 gn r m ∧ g ≠ gn
theorem JB.new {w : World} {g : Nat} {w4 : World} {x a r m : Int} (h : J2 w g w4 x a) : JB w g w4.heap.size (w4.alloc (.cells #[.int .i64 r, .int .i64 m] 70)) x a r m :=
  ⟨h.up (Up.alloc _ _), R2.new _ _ _, by have := h.2.1.lt; omega⟩
theorem JB.old {w : World} {g : Nat} {wr w4 : World} {x a r m : Int} (h0 : J2 w g wr x a) (h : Up ((wr.alloc (.cells #[.int .i64 0, .int .i64 0] 70)).drew) w4) : JB w g wr.heap.size ((w4.setCell ⟨wr.heap.size, 0, none⟩ (.int .i64 r)).setCell ⟨wr.heap.size, 1, none⟩ (.int .i64 m)) x a r m := by
  have h1 : R2 w4 wr.heap.size 0 0 := ((R2.new wr 0 0).up (Up.drew _)).up h
  have h2 : J2 w g w4 x a := h0.up (((Up.alloc _ _).trans (Up.drew _)).trans h)
  have hl := h0.2.1.lt
  have lw := h0.1.size
  refine ⟨⟨Below.setCell (Below.setCell h2.1 lw _) lw _, ?_, h2.2.2⟩, ((h1.set r).1.set m).2, by omega⟩
  have := h2.2.1
  unfold R2 at *
  rw [Below.heap_setCell _ _ _ _ (by simp only; omega), Below.heap_setCell _ _ _ _ (by simp only; omega)]; exact this
theorem JB.cells {w : World} {g gn : Nat} {w5 : World} {x a r m : Int} (h : JB w g gn w5 x a r m) : (w5.cell? ⟨g, 0, none⟩ = some (.int .i64 x) ∧ w5.cell? ⟨g, 1, none⟩ = some (.int .i64 a)) ∧ w5.cell? ⟨gn, 0, none⟩ = some (.int .i64 r) ∧ w5.cell? ⟨gn, 1, none⟩ = some (.int .i64 m) :=
  ⟨h.1.2.1.cells, h.2.1.cells⟩
theorem step_err {x a r m : Int} (h : (stepF x a r m).2.2 ≠ 0) : (stepF x a r m).1 = 0 ∧ (stepF x a r m).2.1 = 0 := by
  unfold stepF at *
  split
  · exact ⟨rfl, rfl⟩
  · split
    · exact ⟨rfl, rfl⟩
    · rename_i h1 h2
      rw [if_neg h1, if_neg h2] at h
      exact absurd rfl h
theorem t13b (p q : Option Addr) (n1 n2 c1 c2 : Nat) (r m : Nat → Int) (w : World) (h8 : 8 < min n1 n2) : Calls Try.prog 13 #[.slice p n1 c1, .slice q n2 c2] w fun e w' => e = .returned (.tuple #[.int .i64 (joinT r m n1 n2).1, .int .i64 (joinT r m n1 n2).2.1, .int .i64 (joinT r m n1 n2).2.2]) ∧ Hid (Up w w') := by
  rw [joinT, if_neg (by omega)]
  go_enter Try.func13, Try.ntmps13
  go_wp2_with (go_at_call 28; refine (t28b p q n1 n2 c1 c2 _ h8).mono ?_; rintro e w' ⟨rfl, rfl⟩)
  go_ret3
  exact ⟨rfl, Up.refl _⟩
set_option maxHeartbeats 4000000 in
theorem t13a (p q : Option Addr) (n1 n2 c1 c2 : Nat) (r m : Nat → Int) (w : World) (h8 : min n1 n2 ≤ 8) (hr : IR w p n1 r) (hm : IR w q n2 m) : Calls Try.prog 13 #[.slice p n1 c1, .slice q n2 c2] w fun e w' => e = .returned (.tuple #[.int .i64 (joinT r m n1 n2).1, .int .i64 (joinT r m n1 n2).2.1, .int .i64 (joinT r m n1 n2).2.2]) ∧ Hid (Up w w') := by
  rw [joinT, if_pos h8]
  obtain ⟨k, hk⟩ : ∃ k, min n1 n2 = k := ⟨_, rfl⟩
  have hk1 : k ≤ n1 := by omega
  have hk2 : k ≤ n2 := by omega
  have h25 : Hid (∀ w, Calls Try.prog 28 #[.slice p n1 c1, .slice q n2 c2] w fun e w' => e = .returned (.tuple #[.int .i64 (k : Int), .int .i64 0]) ∧ w' = w) := fun w => by
    have := t28 p q n1 n2 c1 c2 w h8
    rw [hk] at this
    exact this
  rw [hk]
  have HR : Hid (IR w p n1 r) := hr
  have HM : Hid (IR w q n2 m) := hm
  obtain ⟨S, hS⟩ : ∃ S, joinF r m k = S := ⟨_, rfl⟩
  rw [hS]
  have HS : Hid (joinF r m k = S) := hS
  have HK : (k : Int) ≤ 8 := by omega
  clear hS hr hm hk h8
  go_enter Try.func13, Try.ntmps13
  go_wp2_with (go_at_call 28; (with_reducible refine (h25.out _).mono ?_); rintro e w ⟨rfl, rfl⟩)
  have HJ : Hid (J2 w w.heap.size (w.alloc (.cells #[.int .i64 0, .int .i64 1] 70)) 0 1) := ⟨Up.alloc _ _, R2.new _ _ _, Nat.le_refl _⟩
  generalize w.alloc (.cells #[.int .i64 0, .int .i64 1] 70) = w1 at *
  generalize w.heap.size = g at *
  go_loopw [23] (fun vi wr => ∃ i : Nat, i ≤ k ∧ vi = .int .i64 i ∧ Hid ((joinF r m i).2.2 = 0 ∧ J2 w g wr (joinF r m i).1 (joinF r m i).2.1)) (fun vi _ => k - (intOf vi).toNat)
  case atStart => exact ⟨0, by omega, rfl, ⟨rfl, HJ.out⟩⟩
  case round =>
    clear HJ
    obtain ⟨i, hi, rfl, HI⟩ := hrel
    obtain ⟨h0, hJ⟩ := HI.out
    by_cases hlt : i < k
    · obtain ⟨b1, o1, rfl, cr⟩ := HR.out i (by omega)
      obtain ⟨b2, o2, rfl, cm⟩ := HM.out i (by omega)
      have cr' := cell_up cr hJ.1
      have cm' := cell_up cm hJ.1
      have HLT : Hid (i < k) := hlt
      have hiz : (i : Int) < (k : Int) := by omega
      have hiz1 : (i : Int) < (n1 : Int) := by omega
      have hiz2 : (i : Int) < (n2 : Int) := by omega
      have hiz0 : (0 : Int) ≤ (i : Int) := by omega
      have HJ : Hid (J2 w g wr (joinF r m i).1 (joinF r m i).2.1) := hJ
      obtain ⟨ri, hri⟩ : ∃ t, r i = t := ⟨_, rfl⟩
      obtain ⟨mi, hmi⟩ : ∃ t, m i = t := ⟨_, rfl⟩
      rw [hri] at cr'
      rw [hmi] at cm'
      obtain ⟨f1, f2, f3, f4⟩ := join_ok h0
      by_cases hg : 1 ≤ mi ∧ mi ≤ 1099511627776
      · have HN : Hid (joinF r m (i + 1) = stepF (joinF r m i).1 (joinF r m i).2.1 (ri % mi) mi) := by
          show _ = _
          rw [joinF_next r m i h0 (by rw [hmi]; exact hg), hri, hmi, step_mod f1 hg.1 ⟨f3, f4⟩]
        generalize (joinF r m i).1 = x at *
        generalize (joinF r m i).2.1 = a at *
        clear HI h0 hJ cr cm
        go_wp2_with fail
        go_region_held3 (fun w' => Hid (J2 w g w' x a) ∧ w'.cell? ⟨b1, o1 + i, none⟩ = some (.int .i64 ri) ∧ w'.cell? ⟨b2, o2 + i, none⟩ = some (.int .i64 mi))
          (first | (exact keepJ ⟨HJ, cr', cm'⟩ (Up.drewN _ 1)) | (exact keepJ ⟨HJ, cr', cm'⟩ ((Up.alloc _ _).trans (Up.drewN _ 1))) | (exact keepJ ‹_› HU.out) | (exact keepJ ‹_› (Up.drewN _ 1)) | (exact keepJ ‹_› (Up.alloc _ _)) | (exact keepJ ⟨HJ, cr', cm'⟩ (((Up.drewN _ 1).trans HU.out).trans (Up.alloc _ _))) | (exact keepJ_st ⟨HJ, cr', cm'⟩ ‹_›) | go_keep)
          (first | (go_at_call 29; (with_reducible refine (t29n ri mi hg.1 hg.2 wr).mono ?_); rintro e w4 ⟨rfl, HU, ⟨z0, z1⟩, z2, z3⟩) | (go_at_call 29; (with_reducible refine (t29 ri mi hg.1 hg.2 _).mono ?_); rintro e w4 ⟨rfl, HU⟩))
        all_goals
          first
            | (have HB : Hid (JB w g w4.heap.size (w4.alloc (.cells #[.int .i64 (ri % mi), .int .i64 mi] 70)) x a (ri % mi) mi) := JB.new (HJ.out.up ((Up.drewN _ 1).trans HU.out))
               generalize w4.alloc (.cells #[.int .i64 (ri % mi), .int .i64 mi] 70) = w5 at *
               generalize w4.heap.size = gn at *)
            | (have HB : Hid (JB w g wr.heap.size ((w4.setCell ⟨wr.heap.size, 0, none⟩ (.int .i64 (ri % mi))).setCell ⟨wr.heap.size, 1, none⟩ (.int .i64 mi)) x a (ri % mi) mi) := JB.old HJ.out HU.out
               generalize (w4.setCell ⟨wr.heap.size, 0, none⟩ (.int .i64 (ri % mi))).setCell ⟨wr.heap.size, 1, none⟩ (.int .i64 mi) = w5 at *
               generalize wr.heap.size = gn at *)
        all_goals
          clear HU
          obtain ⟨s1, s2, s3, hs⟩ : ∃ s1 s2 s3, stepF x a (ri % mi) mi = (s1, s2, s3) := ⟨_, _, _, rfl⟩
          have hm0 := Int.emod_nonneg ri (show mi ≠ 0 by omega)
          have hm1 := Int.emod_lt_of_pos ri (show 0 < mi by omega)
          have H27 : Hid (∀ w, Calls Try.prog 30 #[.agg #[.int .i64 x, .int .i64 a], .agg #[.int .i64 (ri % mi), .int .i64 mi]] w fun e w' => e = .returned (.tuple #[.agg #[.int .i64 s1, .int .i64 s2], .int .i64 s3]) ∧ Hid (Up w w')) := fun w => by
            have := t30 x a (ri % mi) mi f1 f2 f3 f4 hm0 hm1 hg.2 w
            rw [hs] at this
            exact this
          have HN2 : Hid (joinF r m (i + 1) = (s1, s2, s3)) := by show _ = _; rw [HN.out]; exact hs
          have HZ : Hid (s3 ≠ 0 → s1 = 0 ∧ s2 = 0) := fun h => by
            have := step_err (x := x) (a := a) (r := ri % mi) (m := mi) (by rw [hs]; exact h)
            rw [hs] at this
            exact this
          obtain ⟨⟨k0, k1⟩, k2, k3⟩ := HB.out.cells
          clear HN hs
          by_cases hz : s3 = 0
          · subst hz
            go_wp2_with (first
              | (go_at_call 30; (with_reducible refine (H27.out _).mono ?_); rintro e w6 ⟨rfl, HU6⟩)
              | (refine wpList_store2 (r := s1) (m := s2) ((HB.out.1.up HU6.out).2.1) rfl _ _ rfl rfl rfl ?_))
            go_roundw
            case rel =>
              refine ⟨i + 1, HLT.out, by go_num, ?_⟩
              show _ ∧ _
              rw [HN2.out]
              have hq := HB.out.1.up HU6.out
              exact ⟨rfl, hq.1.set2 hq.2.2 _ _, hq.2.1.put _ _, hq.2.2⟩
            case measure => have := HLT.out; simp [intOf]; omega
          · have hzb : (s3 != 0) = true := by simp [hz]
            go_wp2_with (first
              | (go_at_call 30; (with_reducible refine (H27.out _).mono ?_); rintro e w6 ⟨rfl, HU6⟩)
              | (refine wpList_store2 (r := s1) (m := s2) ((HB.out.1.up HU6.out).2.1) rfl _ _ rfl rfl rfl ?_))
            go_ret3
            have hq := HB.out.1.up HU6.out
            refine ⟨?_, hq.1.set2 hq.2.2 _ _⟩
            rw [← HS.out, joinF_end r m (i := i + 1) HLT.out (by rw [HN2.out]; exact hz), HN2.out, (HZ.out hz).1, (HZ.out hz).2]
            rfl
      · have HN : Hid (joinF r m k = (0, 0, 2)) := by
          show _ = _
          rw [← joinF_bad r m i h0 (by rw [hmi]; exact hg)]
          exact joinF_end r m (i := i + 1) (by omega) (by rw [joinF_bad r m i h0 (by rw [hmi]; exact hg)]; decide)
        have hg' : mi < 1 ∨ 1099511627776 < mi := by omega
        generalize (joinF r m i).1 = x at *
        generalize (joinF r m i).2.1 = a at *
        clear HI h0 hJ cr cm hg
        go_wp2_with fail
        go_region_held3 (fun w' => Hid (J2 w g w' x a) ∧ w'.cell? ⟨b1, o1 + i, none⟩ = some (.int .i64 ri) ∧ w'.cell? ⟨b2, o2 + i, none⟩ = some (.int .i64 mi))
          (first | (exact keepJ ⟨HJ, cr', cm'⟩ (Up.drewN _ 1)) | (exact keepJ ⟨HJ, cr', cm'⟩ ((Up.alloc _ _).trans (Up.drewN _ 1))) | (exact keepJ ‹_› HU.out) | (exact keepJ ‹_› (Up.drewN _ 1)) | (exact keepJ ‹_› (Up.alloc _ _)) | (exact keepJ ⟨HJ, cr', cm'⟩ (((Up.drewN _ 1).trans HU.out).trans (Up.alloc _ _))) | (exact keepJ_st ⟨HJ, cr', cm'⟩ ‹_›) | go_keep)
          (first | (go_at_call 29; (with_reducible refine (t29en ri mi hg' wr).mono ?_); rintro e w4 ⟨rfl, HU, ⟨z0, z1⟩, z2, z3⟩) | (go_at_call 29; (with_reducible refine (t29e ri mi hg' _).mono ?_); rintro e w4 ⟨rfl, HU⟩))
        all_goals
          first
            | (have HB : Hid (JB w g w4.heap.size (w4.alloc (.cells #[.int .i64 0, .int .i64 0] 70)) x a 0 0) := JB.new (HJ.out.up ((Up.drewN _ 1).trans HU.out))
               generalize w4.alloc (.cells #[.int .i64 0, .int .i64 0] 70) = w5 at *
               generalize w4.heap.size = gn at *)
            | (have HB : Hid (JB w g wr.heap.size ((w4.setCell ⟨wr.heap.size, 0, none⟩ (.int .i64 0)).setCell ⟨wr.heap.size, 1, none⟩ (.int .i64 0)) x a 0 0) := JB.old HJ.out HU.out
               generalize (w4.setCell ⟨wr.heap.size, 0, none⟩ (.int .i64 0)).setCell ⟨wr.heap.size, 1, none⟩ (.int .i64 0) = w5 at *
               generalize wr.heap.size = gn at *)
        all_goals
          go_wp2
          go_ret3
          exact ⟨by rw [← HS.out, HN.out]; rfl, HB.out.1.1⟩
    · obtain rfl : i = k := by omega
      obtain ⟨k0, k1⟩ := hJ.2.1.cells
      have HU : Hid (Up w wr) := hJ.1
      obtain ⟨s1, s2, s3, hs⟩ : ∃ s1 s2 s3, joinF r m i = (s1, s2, s3) := ⟨_, _, _, rfl⟩
      rw [hs] at k0 k1 h0 HS
      simp only at k0 k1 h0
      clear hJ HI hlt
      go_wp2_with fail
      go_quiet (fail)
      all_goals (try go_wp2)
      go_ret3
      exact ⟨by rw [← HS.out, h0]; rfl, HU.out.trans (Up.drewN _ _)⟩
theorem t13 (p q : Option Addr) (n1 n2 c1 c2 : Nat) (r m : Nat → Int) (w : World) (hr : IR w p n1 r) (hm : IR w q n2 m) : Calls Try.prog 13 #[.slice p n1 c1, .slice q n2 c2] w fun e w' => e = .returned (.tuple #[.int .i64 (joinT r m n1 n2).1, .int .i64 (joinT r m n1 n2).2.1, .int .i64 (joinT r m n1 n2).2.2]) ∧ Hid (Up w w') := by
  by_cases h : min n1 n2 ≤ 8
  · exact t13a p q n1 n2 c1 c2 r m w h hr hm
  · exact t13b p q n1 n2 c1 c2 r m w (by omega)
end Go.Proofs.Ytijfmaepoamkgab.Fo
