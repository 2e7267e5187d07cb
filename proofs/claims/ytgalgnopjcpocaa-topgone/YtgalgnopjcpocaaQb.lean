/- The reference's Weights. -/
import Derived.Test.YtgalgnopjcpocaaQa
namespace Go.Proofs.Ytgalgnopjcpocaa
open Go.ChangeShapes Go.WideShapes Go.ChangeAt Go.RowKit Go.Fl Ieee

theorem pas_len : ∀ n, n < 9 → (pas n).length = n + 1 := by decide +kernel
theorem pre_one : ∀ o, o < 8 → (pas (o + 1)).take 1 = [1] := by decide +kernel
theorem pre_next : ∀ o : Nat, o < 8 → ∀ j : Nat, j < o → (pas (o + 1)).take (j + 2) = (pas (o + 1)).take (j + 1) ++ [(pas o)[j]! + (pas o)[j + 1]!] := by decide +kernel
theorem pre_end : ∀ o, o < 8 → (pas (o + 1)).take (o + 1) ++ [1] = pas (o + 1) := by decide +kernel
theorem pas_small : ∀ n : Nat, n < 9 → ∀ j : Nat, j < n + 1 → 0 ≤ (pas n)[j]! ∧ (pas n)[j]! ≤ 70 := by decide +kernel
/-- The signs of the first j are laid. -/
def sg (n j : Nat) : List Int := (wts n).take j ++ (pas n).drop j
theorem sg_end : ∀ n, n < 9 → sg n (n + 1) = wts n := by decide +kernel
theorem sg_at : ∀ n : Nat, n < 9 → ∀ j : Nat, j < n + 1 → (sg n j)[j]! = (pas n)[j]! ∧ (sg n j).length = n + 1 := by decide +kernel
theorem sg_odd : ∀ n : Nat, n < 9 → ∀ j : Nat, j < n + 1 → ((n : Int) - j).tmod 2 = 1 → (sg n j).set j (-(pas n)[j]!) = sg n (j + 1) := by decide +kernel
theorem sg_even : ∀ n : Nat, n < 9 → ∀ j : Nat, j < n + 1 → ¬ ((n : Int) - j).tmod 2 = 1 → sg n j = sg n (j + 1) := by decide +kernel
theorem OR.lit {α : Type} (enc : α → Value) (t : TypeId) {b : Nat} (w : World) (x : α) (hb : b ≤ w.heap.size) : OR enc t b (w.alloc (.cells #[enc x] t)) (.slice (some ⟨w.heap.size, 0, none⟩) 1 1) [x] :=
  World.ownsRow_lit w #[enc x] 1 hb (by unfold maxLen; omega) rfl
set_option maxRecDepth 20000 in
theorem t10n {o : Int} (h : o < 0 ∨ 8 < o) (w : World) : Calls Try.prog 10 #[.int .i64 o] w (WL w []) := by
  rcases h with h | h
  · go_enter Try.func10, Try.ntmps10
    go_wp2
    go_ret
    exact ⟨none, 0, rfl, OR.nil _ _ _ _, Up.refl _⟩
  · have h0 : ¬ o < 0 := by omega
    go_enter Try.func10, Try.ntmps10
    go_wp2
    go_ret
    exact ⟨none, 0, rfl, OR.nil _ _ _ _, Up.refl _⟩
theorem IRw.app {w wr w1 : World} {v : Value} {d : List Int} {x : Int} {g n cap : Nat} {o : Obj} {k : Nat} (h : IRw w.heap.size wr v d) (hu : Up w wr) (hn : d.length = n) (hown : w1.ownsRow w.heap.size 2 1 (.slice (some ⟨g, 0, none⟩) (n + 1) cap) (n + 1) (d.map (Value.int .i64) ++ [.int .i64 x])) (hg : ((wr.alloc o).drewN k).grownBy w1 v.ownBlock) : IRw w.heap.size w1 (.slice (some ⟨g, 0, none⟩) (n + 1) cap) (d ++ [x]) ∧ Up w w1 := by
  subst hn
  refine ⟨?_, Below.grown (hu.trans ((Up.alloc _ _).trans (Up.drewN _ k))) hg (Nat.le_trans hu.size (Up.alloc _ _).size) (fun j hj => (h.lt j hj).1)⟩
  show OR _ _ _ _ _ _
  unfold OR
  rw [List.map_append, List.length_append]
  exact hown
theorem keep_far {w w1 : World} {row : Option Nat} {o : Obj} {g k : Nat} {u : Value} (hg : (w.alloc o).drew.grownBy w1 row) (hne : some g ≠ row) (hc : w.cell? ⟨g, k, none⟩ = some u) : w1.cell? ⟨g, k, none⟩ = some u := by
  have h := World.block_lt_of_cell? w _ hc
  rw [hg.cell_far _ (Nat.lt_of_lt_of_le h (Up.alloc _ _).size) hne]
  exact cell_up hc ((Up.alloc _ _).trans (Up.drewN _ 1))
set_option maxRecDepth 20000 in
set_option maxHeartbeats 2000000 in
theorem t10 {n : Nat} (h : n < 9) (w : World) : Calls Try.prog 10 #[.int .i64 n] w (WL w (wts n)) := by
  obtain ⟨i0, hi, hz0, hz1, hz2⟩ := info_parts info2
  have hb1 : ¬ (8 : Int) < (n : Int) := by omega
  have hb2 : (n : Int) ≤ 8 := by omega
  have hb0 : ¬ (n : Int) < 0 := by omega
  have HO0 : Hid (IRw w.heap.size (w.alloc (.cells #[.int .i64 1] 2)) (.slice (some ⟨w.heap.size, 0, none⟩) 1 1) (pas 0) ∧ Up w (w.alloc (.cells #[.int .i64 1] 2))) := ⟨OR.lit _ _ w 1 (Nat.le_refl _), Up.alloc _ _⟩
  go_enter Try.func10, Try.ntmps10
  go_wp2
  go_loopw [3, 4] (fun v3 v4 wr => ∃ (o m g cap : Nat), o ≤ n ∧ v4 = .int .i64 o ∧ v3 = .slice (some ⟨g, 0, none⟩) m cap ∧ Hid (m = o + 1) ∧ Hid (IRw w.heap.size wr (.slice (some ⟨g, 0, none⟩) m cap) (pas o) ∧ Up w wr)) (fun _ v4 _ => n - (intOf v4).toNat)
  case atStart => exact ⟨0, _, _, _, by omega, rfl, rfl, rfl, HO0⟩
  case round =>
    clear HO0
    obtain ⟨o, m, g, cap, ho, rfl, rfl, HM, HO⟩ := hrel
    by_cases hlt : o < n
    · have z1 : (o : Int) < (n : Int) := by omega
      generalize hW : wr = W at *
      clear hW
      have HN0 : Hid (IRw W.heap.size (W.alloc (.cells #[.int .i64 1] 2)) (.slice (some ⟨W.heap.size, 0, none⟩) 1 1) ((pas (o + 1)).take 1) ∧ Up W (W.alloc (.cells #[.int .i64 1] 2))) := by
        refine ⟨?_, Up.alloc _ _⟩
        rw [pre_one o (by omega)]
        exact OR.lit _ _ W 1 (Nat.le_refl _)
      have hgl := (OR.at_ HO.out.1).2
      go_wp2
      go_loopw [5, 6] (fun v5 v6 wr => ∃ (j g5 cap5 : Nat), 1 ≤ j ∧ j ≤ m ∧ v6 = .int .i64 j ∧ v5 = .slice (some ⟨g5, 0, none⟩) j cap5 ∧ Hid (IRw W.heap.size wr (.slice (some ⟨g5, 0, none⟩) j cap5) ((pas (o + 1)).take j) ∧ Up W wr)) (fun _ v6 _ => m - (intOf v6).toNat)
      case atStart => exact ⟨1, _, _, by omega, by have := HM.out; omega, rfl, rfl, HN0⟩
      case round =>
        clear HN0
        obtain ⟨j, g5, cap5, hj1, hj, rfl, rfl, HQ⟩ := hrel
        have hg5 := OR.at_ HQ.out.1
        have hsz := HQ.out.2.size
        have hlen : ((pas (o + 1)).take j).length = j := OR.len HQ.out.1
        have HR : Hid (wr.ownsRow W.heap.size 2 1 (.slice (some ⟨g5, 0, none⟩) j cap5) j (((pas (o + 1)).take j).map (Value.int .i64))) := by
          have := HQ.out.1
          unfold IRw OR at this
          rw [hlen] at this; exact this
        by_cases hjl : j < m
        · have hmo := HM.out
          obtain ⟨k, hk⟩ : ∃ k, j = k + 1 := ⟨j - 1, by omega⟩
          have HK : Hid (j = k + 1) := hk
          have c0 := cell_up (HO.out.1.cell (i := k) (by rw [pas_len o (by omega)]; omega)) HQ.out.2
          have c1 := cell_up (HO.out.1.cell (i := j) (by rw [pas_len o (by omega)]; omega)) HQ.out.2
          obtain ⟨p1, p2⟩ := pas_small o (by omega) k (by omega)
          obtain ⟨p3, p4⟩ := pas_small o (by omega) j (by omega)
          have HP : Hid ((pas (o + 1)).take (j + 1) = (pas (o + 1)).take j ++ [(pas o)[k]! + (pas o)[j]!]) := by
            show _ = _
            rw [hk]; exact pre_next o (by omega) k (by omega)
          generalize (pas o)[k]! = a at c0 p1 p2 HP
          generalize (pas o)[j]! = b at c1 p3 p4 HP
          obtain ⟨c, hc⟩ : ∃ c, a + b = c := ⟨_, rfl⟩
          rw [hc] at HP
          have c2 : -1000 ≤ c ∧ c ≤ 1000 := by omega
          obtain ⟨c3, c4⟩ := c2
          have z2 : (j : Int) - 1 = (k : Int) := by omega
          have z3 : (j : Int) < (m : Int) := by omega
          have z4 : (k : Int) < (m : Int) := by omega
          have e1 : IntKind.i64.wrap (k : Int) = k := i64_id (by omega)
          have e2 : IntKind.i64.wrap c = c := i64_id (by omega)
          have z5 : (0 : Int) ≤ (k : Int) := by omega
          have z6 : (0 : Int) ≤ (j : Int) := by omega
          have ag : (some g : Option Nat) ≠ (Value.slice (some ⟨g5, 0, none⟩) j cap5).ownBlock := by simp [Value.ownBlock]; omega
          have j9 : j ≤ 9 := by omega
          have gl2 : g < wr.heap.size := by omega
          clear hk hmo
          go_wp2_with fail
          go_region_held3 (fun w' => w'.cell? ⟨g, k, none⟩ = some (.int .i64 a) ∧ w'.cell? ⟨g, j, none⟩ = some (.int .i64 b))
              (first
                | go_keep
                | exact ⟨keep_far hgrow ag c0, keep_far hgrow ag c1⟩)
              ((refine step_append_lies _ (by rfl) _ _ _ (by rfl) W.heap.size 2 i0 _ 1 8 Try.underlying22 hi hz0 hz1 hz2 rfl (by omega) (.slice (some ⟨g5, 0, none⟩) j cap5) j _ (by rfl) ((HR.out.alloc _).drew)
                  ⟨wr.heap.size, 0, none⟩ 1 1 [.int .i64 c] (by rfl) (by rfl) (World.news_of_block (cs := #[.int .i64 c]) (t := 2) (fr := (0, 0)) (heap_alloc_new wr _)) (by simp [Value.oneCell'])
                  (by omega) (by unfold maxLen; omega) (by omega) (by simp; omega) (wr.heap.size + 1) (by simp) ?_; intro gg cap' w1 hown1 hgrow hat hlt2))
          all_goals
            have RO : Hid (IRw W.heap.size w1 (.slice (some ⟨gg, 0, none⟩) (j + 1) cap') ((pas (o + 1)).take (j + 1)) ∧ Up W w1) := by
              rw [HP.out]; exact IRw.app (k := 1) HQ.out.1 HQ.out.2 hlen hown1 hgrow
            clear hown1 hgrow hat hlt2 HQ c0 c1 HR
            try go_wp2
            go_roundw
            case rel => exact ⟨j + 1, gg, cap', by omega, by omega, by go_num, rfl, RO⟩
            case measure => simp [intOf]; omega
        · obtain rfl : j = m := by omega
          have hmo := HM.out
          have j9 : j ≤ 9 := by omega
          have hnz : (o : Int) + 1 = (j : Int) := by omega
          have z8 : (j : Int) ≤ 9 := by omega
          have HE : Hid ((pas (o + 1)).take j ++ [1] = pas (o + 1)) := by show _ = _; rw [hmo]; exact pre_end o (by omega)
          clear hmo
          go_wp2_with (at_builtin; refine wpList_append_lies _ rfl _ _ 22 rfl W.heap.size 2 i0 (.int .i64 0) 1 8 Try.underlying22 hi hz0 hz1 hz2 rfl (by omega) _ _ _ rfl (HR.out.alloc _) ⟨wr.heap.size, 0, none⟩ 1 1 [.int .i64 1] rfl rfl (one_new _ _ _) (one_cell rfl) (by omega) (by unfold maxLen; omega) (by omega) (by simp; omega) (wr.heap.size + 1) (by simp) ?_; intro gg cap' w1 hown1 hgrow hat hlt2
                       have RO : Hid (IRw w.heap.size w1 (.slice (some ⟨gg, 0, none⟩) (j + 1) cap') (pas (o + 1)) ∧ Up w w1) := by
                         rw [← HE.out]
                         have R := IRw.app (k := 0) HQ.out.1 HQ.out.2 hlen hown1 hgrow
                         exact ⟨OR.base R.1 HO.out.2.size, HO.out.2.trans R.2⟩
                       clear hown1 hgrow hat hlt2 HQ HR)
          go_roundw
          case rel => exact ⟨o + 1, j + 1, gg, cap', by omega, by go_num, rfl, by show _ = _; rw [HM.out], RO⟩
          case measure => simp [intOf]; omega
    · obtain rfl : o = n := by omega
      have HO1 : Hid (IRw w.heap.size wr (.slice (some ⟨g, 0, none⟩) m cap) (sg o 0) ∧ Up w wr) := HO
      clear HO
      go_wp2
      go_loopw [7] (fun v7 wq => ∃ (j : Nat), j ≤ m ∧ v7 = .int .i64 j ∧ Hid (IRw w.heap.size wq (.slice (some ⟨g, 0, none⟩) m cap) (sg o j) ∧ Up w wq)) (fun v7 _ => m - (intOf v7).toNat)
      case atStart => exact ⟨0, by omega, rfl, HO1⟩
      case round =>
        clear HO1
        obtain ⟨j, hj, rfl, HQ⟩ := hrel
        have hmo := HM.out
        by_cases hjm : j < m
        · obtain ⟨s1, s2⟩ := sg_at o h j (by omega)
          have c0 := HQ.out.1.cell (i := j) (by rw [s2]; omega)
          rw [s1] at c0
          have f0 := HQ.out.1.frz j
          obtain ⟨p1, p2⟩ := pas_small o h j (by omega)
          have HZ : Hid (∀ z, IRw w.heap.size (wr.setCell ⟨g, j, none⟩ (.int .i64 z)) (.slice (some ⟨g, 0, none⟩) m cap) ((sg o j).set j z) ∧ Up w (wr.setCell ⟨g, j, none⟩ (.int .i64 z))) := fun z => by
            obtain ⟨s1, s2⟩ := OR.put HQ.out.1 j z
            exact ⟨s1, s2.up HQ.out.2 (OR.at_ HQ.out.1).1⟩
          have z1 : (j : Int) < (m : Int) := by omega
          have z2 : (0 : Int) ≤ (j : Int) := by omega
          obtain ⟨u, hu⟩ : ∃ u : Int, (o : Int) - (j : Int) = u := ⟨_, rfl⟩
          have u1 : 0 ≤ u := by omega
          have u2 : u ≤ 8 := by omega
          by_cases hodd : u.tmod 2 = 1
          · have HS := sg_odd o h j (by omega) (by rw [hu]; exact hodd)
            replace HS : Hid ((sg o j).set j (-(pas o)[j]!) = sg o (j + 1)) := HS
            generalize (pas o)[j]! = a at c0 p1 p2 HS
            have hr2 : u % 2 = 1 := by rw [← hodd, Int.tmod_eq_emod_of_nonneg u1]
            clear hmo
            go_wp2
            go_roundw
            case rel => exact ⟨j + 1, by omega, by go_num, by rw [← HS.out]; exact HZ.out _⟩
            case measure => simp [intOf]; omega
          · have HS := sg_even o h j (by omega) (by rw [hu]; exact hodd)
            replace HS : Hid (sg o j = sg o (j + 1)) := HS
            have hr2 : ¬ u % 2 = 1 := by rw [Int.tmod_eq_emod_of_nonneg u1] at hodd; exact hodd
            clear hmo
            go_wp2
            go_roundw
            case rel => exact ⟨j + 1, by omega, by go_num, by rw [← HS.out]; exact HQ⟩
            case measure => simp [intOf]; omega
        · obtain rfl : j = m := by omega
          clear hmo
          go_wp2
          go_ret
          have e1 : sg o j = wts o := by rw [HM.out]; exact sg_end o h
          have e2 : (wts o).length = j := by rw [wts_len]; exact HM.out.symm
          refine ⟨some ⟨g, 0, none⟩, cap, by rw [e2]; rfl, ?_, HQ.out.2⟩
          rw [e2, ← e1]; exact HQ.out.1
end Go.Proofs.Ytgalgnopjcpocaa
