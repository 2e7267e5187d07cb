/- Moduli as many as count; FoldBack. -/
import Derived.Test.YtpahjenfkgcdlaaR
namespace Go.Proofs.Ytpahjenfkgcdlaa
open Go.ChangeShapes Go.WideShapes Go.ChangeAt Go.RowKit

/-- The moduli of a list: k of them. -/
def modL (f : Nat → Int) (k : Nat) : List Int := (List.range k).map fun i => f i % 4096 + 1
theorem modL_len (f : Nat → Int) (k : Nat) : (modL f k).length = k := by simp [modL]
theorem modL_succ (f : Nat → Int) (k : Nat) : modL f (k + 1) = modL f k ++ [f k % 4096 + 1] := by
  unfold modL
  rw [List.range_succ, List.map_append]
  rfl
theorem modL_at (f : Nat → Int) {k i : Nat} (h : i < k) : (modL f k)[i]! = f i % 4096 + 1 := by
  rw [getElem!_pos _ i (by rw [modL_len]; exact h)]
  simp [modL]
theorem modL_in (f : Nat → Int) {k i : Nat} (h : i < k) : 1 ≤ (modL f k)[i]! ∧ (modL f k)[i]! ≤ 4096 := by
  rw [modL_at f h]
  have := Int.emod_nonneg (f i) (show (4096 : Int) ≠ 0 by decide)
  have := Int.emod_lt_of_pos (f i) (show (0 : Int) < 4096 by decide)
  omega
set_option maxHeartbeats 1000000 in
set_option maxRecDepth 20000 in
theorem t22 (p : Option Addr) (n c : Nat) (f : Nat → Int) (w : World) (hm : IR w p n f) : Calls Try.prog 22 #[.slice p n c] w fun e w' => ∃ q cap, e = .returned (.slice q (min n 5) cap) ∧ Hid (OI w.heap.size w' (.slice q (min n 5) cap) (modL f (min n 5)) ∧ Up w w') := by
  have HM : Hid (IR w p n f) := hm
  obtain ⟨i0, hi, hz0, hz1, hz2⟩ := info_parts info2
  clear hm
  go_enter Try.func22, Try.ntmps22
  go_wp2
  go_loopw [3, 4] (fun v3 v4 wr => ∃ (i : Nat) (q : Option Addr) (cap : Nat), i ≤ n ∧ i ≤ 5 ∧ v3 = .slice q i cap ∧ v4 = .int .i64 i ∧ Hid (OI w.heap.size wr (.slice q i cap) (modL f i) ∧ Up w wr)) (fun _ v4 _ => 5 - (intOf v4).toNat)
  case atStart => exact ⟨0, none, 0, by omega, by omega, rfl, rfl, OI.nil _ _, Up.refl _⟩
  case round =>
    obtain ⟨i, q, cap, hi1, hi5, rfl, rfl, HI⟩ := hrel
    by_cases hc : i < n ∧ i < 5
    · obtain ⟨hin, hi6⟩ := hc
      obtain ⟨b1, o1, rfl, d1⟩ := HM.out i hin
      have e1 := cell_up d1 HI.out.2
      obtain ⟨z, hz⟩ : ∃ z, f i = z := ⟨_, rfl⟩
      rw [hz] at e1
      have HZ : Hid (modL f (i + 1) = modL f i ++ [z % 4096 + 1]) := by show _ = _; rw [modL_succ, hz]
      have HLen : Hid ((modL f i).length = i) := modL_len f i
      have hiz : (i : Int) < (n : Int) := by omega
      have hiz5 : (i : Int) < 5 := by omega
      have hiz0 : (0 : Int) ≤ (i : Int) := by omega
      have hz0' := Int.emod_nonneg z (show (4096 : Int) ≠ 0 by decide)
      have hz1' := Int.emod_lt_of_pos z (show (0 : Int) < 4096 by decide)
      have hsz := HI.out.2.size
      clear d1
      go_wp2_with (first
        | (go_at_call 23; (with_reducible refine (t23 z 4096 (by omega) _).mono ?_); rintro e wr ⟨rfl, rfl⟩)
        | (at_builtin; refine wpList_append_own _ rfl _ _ 27 rfl w.heap.size 2 i0 (.int .i64 0) 1 8 Try.underlying27 hi hz0 hz1 hz2 rfl (by decide) _ _ _ rfl (HI.out.1.alloc _) ⟨wr.heap.size, 0, none⟩ 1 1 [.int .i64 (z % 4096 + 1)] rfl rfl (one_new _ _ _) (one_one _) (by rw [HLen.out]; unfold maxLen; omega) (by rw [HLen.out]; omega) (by simp; omega) ?_; intro v2 w3 h2 hg2 _; have HO3 : Hid (OI w.heap.size w3 v2 (modL f i ++ [z % 4096 + 1]) ∧ Up w w3) := app_own HI.out.1 HI.out.2 h2 hg2; clear h2 hg2))
      obtain ⟨p2, cap2, hv, _⟩ := own_form HO3.out.1
      rw [← HZ.out, modL_len] at hv
      subst hv
      rw [← HZ.out] at HO3
      go_roundw
      case rel => exact ⟨i + 1, p2, cap2, by omega, by omega, rfl, by go_num, HO3⟩
      case measure => simp [intOf]; omega
    · have HK : Hid (min n 5 = i) := by show _ = _; omega
      clear hc
      by_cases hin : i < n
      · obtain rfl : i = 5 := by have := HK.out; omega
        have hiz : (5 : Int) < (n : Int) := by omega
        clear hin hi1 hi5
        go_wp2
        go_ret
        rw [HK.out]
        exact ⟨q, cap, rfl, HI⟩
      · have hiz : (n : Int) ≤ (i : Int) := by omega
        go_wp2
        go_ret
        rw [HK.out]
        exact ⟨q, cap, rfl, HI⟩
theorem joinT_self (r m : Nat → Int) {k : Nat} (h : k ≤ 5) : joinT r m k k = joinF r m k := by
  unfold joinT
  rw [Nat.min_self, if_pos (by omega)]
/-- All that is asked of the least common multiple. -/
theorem back_all (m : Nat → Int) {k : Nat} (hk : k ≤ 5) (hm : ∀ j, j < k → 1 ≤ m j ∧ m j ≤ 4096) : ∃ all, 1 ≤ all ∧ all ≤ 1152921504606846976 ∧ (∀ j, j < k → m j ∣ all) ∧ ∀ (r : Nat → Int) (X : Int), (∀ j, j < k → m j ∣ X - r j) → joinT r m k k = (X % all, all, 0) := by
  obtain ⟨all, h1, h2⟩ := join_of (fun _ => 0) m 0 k hm hk (fun j hj => by simp)
  obtain ⟨hJ, _⟩ := join_inv _ _ _ _ _ h1
  refine ⟨all, hJ.one, ?_, hJ.dv, fun r X hX => ?_⟩
  · have : (4096 : Int) ^ k ≤ 4096 ^ 5 := by
      rcases (show k = 0 ∨ k = 1 ∨ k = 2 ∨ k = 3 ∨ k = 4 ∨ k = 5 by omega) with rfl | rfl | rfl | rfl | rfl | rfl <;> decide
    have e : (4096 : Int) ^ 5 = 1152921504606846976 := by decide
    omega
  · obtain ⟨all', g1, g2⟩ := join_of r m X k hm hk hX
    obtain ⟨hJ', _⟩ := join_inv _ _ _ _ _ g1
    have d1 := hJ.least _ hJ'.dv
    have d2 := hJ'.least _ hJ.dv
    have l1 := Int.le_of_dvd (by have := hJ'.one; omega) d1
    have l2 := Int.le_of_dvd (by have := hJ.one; omega) d2
    obtain rfl : all' = all := by omega
    rw [joinT_self _ _ hk, g1]
theorem OI.cellsome {b : Nat} {w : World} {p : Option Addr} {n cap : Nat} {d : List Int} (h : OI b w (.slice p n cap) d) {i : Nat} (hi : i < n) : ∃ g, p = some ⟨g, 0, none⟩ ∧ w.cell? ⟨g, i, none⟩ = some (.int .i64 d[i]!) ∧ b ≤ g ∧ g < w.heap.size := by
  obtain ⟨p', cap', he, hp⟩ := own_form h
  simp only [Value.slice.injEq] at he
  obtain ⟨rfl, rfl, rfl⟩ := he
  obtain ⟨g, rfl⟩ := hp (by omega)
  have hl := h.lt g rfl
  exact ⟨g, rfl, h.cell hi, hl.1, hl.2⟩
theorem OI.frz {b : Nat} {w : World} {g n cap : Nat} {d : List Int} (h : OI b w (.slice (some ⟨g, 0, none⟩) n cap) d) (hd : d.length = n) (i : Nat) : w.frozen? ⟨g, i, none⟩ = false := by
  unfold OI at h
  rw [hd] at h
  exact World.ownsRow.frozenAt h i
/-- The state of FoldBack's loops: l as it was, r of one's own. -/
def BK (w w1 : World) (vl : Value) (L : List Int) (k : Nat) (R : List Int) (wr : World) : Prop := R.length = k ∧ OI w1.heap.size wr (.slice (some ⟨w1.heap.size, 0, none⟩) k k) R ∧ OI w.heap.size wr vl L ∧ Up w wr ∧ w.heap.size ≤ w1.heap.size ∧ ∀ j, vl.ownBlock = some j → j < w1.heap.size
theorem BK.up {w w1 : World} {vl : Value} {L : List Int} {k : Nat} {R : List Int} {wr w' : World} (h : BK w w1 vl L k R wr) (hu : Up wr w') : BK w w1 vl L k R w' := ⟨h.1, h.2.1.up hu, h.2.2.1.up hu, h.2.2.2.1.trans hu, h.2.2.2.2⟩
theorem BK.put {w w1 : World} {vl : Value} {L : List Int} {k : Nat} {R : List Int} {wr : World} (h : BK w w1 vl L k R wr) (i : Nat) (z : Int) : BK w w1 vl L k (R.set i z) (wr.setCell ⟨w1.heap.size, i, none⟩ (.int .i64 z)) := by
  obtain ⟨h1, h2, h3, h4, h5, h6⟩ := h
  obtain ⟨s1, s2⟩ := h2.put h1 i z
  exact ⟨by simp [h1], s1, grow_own s2 h3 (fun j hj e => by cases e; have := h6 _ hj; omega), Below.grown h4 s2 h4.size (fun x hx => by cases hx; exact h5), h5, h6⟩
theorem BK.new {w w1 w2 : World} {vl : Value} {L : List Int} {k : Nat} (hl : OI w.heap.size w1 vl L) (hu : Up w w1) (h : w2.ownsRow w1.heap.size 2 1 (.slice (some ⟨w1.heap.size, 0, none⟩) k k) k (madeCells (Value.int .i64 0).cells (k * 1)).toList) (hg : w1.grownBy w2 none) : BK w w1 vl L k (List.replicate k 0) w2 := by
  have u2 : Up w1 w2 := Below.grown (Below.refl _ _) hg (Nat.le_refl _) (fun j hj => by cases hj)
  refine ⟨by simp, ?_, hl.up u2, hu.trans u2, hu.size, fun j hj => (hl.lt j hj).2⟩
  have e8 : (madeCells (Value.int .i64 0).cells (k * 1)).toList = List.replicate k (.int .i64 0) := by
    rw [Nat.mul_one]; exact toList_madeCells_one _ _
  rw [e8] at h
  unfold OI
  simpa using h
theorem BK.ir {w w1 : World} {vl : Value} {L : List Int} {k : Nat} {R : List Int} {wr : World} (h : BK w w1 vl L k R wr) : IR wr (some ⟨w1.heap.size, 0, none⟩) k (fun i => R[i]!) := h.2.1.ir.2
theorem BK.irl {w w1 : World} {p : Option Addr} {cap : Nat} {L : List Int} {k : Nat} {R : List Int} {wr : World} (h : BK w w1 (.slice p k cap) L k R wr) : IR wr p k (fun i => L[i]!) := h.2.2.1.ir.2
theorem get_set (R : List Int) (i : Nat) (z : Int) {j : Nat} (hj : j < R.length) : (R.set i z)[j]! = if j = i then z else R[j]! := by
  rw [getElem!_pos _ j (by simpa using hj), List.getElem_set, getElem!_pos R j hj]
  by_cases e : i = j
  · subst e; simp
  · rw [if_neg e, if_neg (by omega)]
theorem rep0 (k j : Nat) : (List.replicate k (0 : Int))[j]! = 0 := by
  by_cases h : j < k
  · rw [getElem!_pos _ j (by simpa using h)]; simp
  · rw [getElem!_neg _ j (by simpa using h)]; rfl
theorem back_call {L : List Int} {k : Nat} {all : Int} (hA : ∀ (r : Nat → Int) (X : Int), (∀ j, j < k → L[j]! ∣ X - r j) → joinT r (fun i => L[i]!) k k = (X % all, all, 0)) {w w1 wr : World} {pl : Option Addr} {cl : Nat} {R : List Int} (hB : BK w w1 (.slice pl k cl) L k R wr) {X Y : Int} (hX : ∀ j, j < k → L[j]! ∣ X - R[j]!) (hY : X % all = Y) : Calls Try.prog 13 #[.slice (some ⟨w1.heap.size, 0, none⟩) k k, .slice pl k cl] wr fun e w' => e = .returned (.tuple #[.int .i64 Y, .int .i64 all, .int .i64 0]) ∧ Hid (Up wr w') := by
  have := t13 (some ⟨w1.heap.size, 0, none⟩) pl k k k cl (fun i => R[i]!) (fun i => L[i]!) wr hB.ir hB.irl
  rw [hA _ X hX, hY] at this
  exact this
set_option maxHeartbeats 8000000 in
set_option maxRecDepth 100000 in
theorem t7 (x : Int) (p : Option Addr) (n c : Nat) (f : Nat → Int) (w : World) (hm : IR w p n f) : Calls Try.prog 7 #[.int .i64 x, .slice p n c] w (TU w) := by
  have H22 : Hid (∀ w, IR w p n f → _) := fun w h => t22 p n c f w h
  have HM : Hid (IR w p n f) := hm
  obtain ⟨k, hk⟩ : ∃ k, min n 5 = k := ⟨_, rfl⟩
  have hk5 : k ≤ 5 := by omega
  rw [hk] at H22
  have HLin : Hid (∀ j, j < k → 1 ≤ (modL f k)[j]! ∧ (modL f k)[j]! ≤ 4096) := fun j hj => modL_in f hj
  have HLl : Hid ((modL f k).length = k) := modL_len f k
  generalize modL f k = L at *
  obtain ⟨all, a1, a2, a3, a4⟩ := back_all (fun i => L[i]!) hk5 HLin.out
  have HA3 : Hid (∀ j, j < k → L[j]! ∣ all) := a3
  have HA4 : Hid (∀ (r : Nat → Int) (X : Int), (∀ j, j < k → L[j]! ∣ X - r j) → joinT r (fun i => L[i]!) k k = (X % all, all, 0)) := a4
  have x0 := Int.emod_nonneg x (show all ≠ 0 by omega)
  have x1 := Int.emod_lt_of_pos x (show 0 < all by omega)
  obtain ⟨X, hX⟩ : ∃ X, x % all = X := ⟨_, rfl⟩
  rw [hX] at x0 x1
  have HX : Hid (X % all = X) := Int.emod_eq_of_lt x0 x1
  have hkz : (k : Int) ≤ 5 := by omega
  obtain ⟨i0, hi, hz0, hz1, hz2⟩ := info_parts info2
  clear hm hk a3 a4
  go_enter Try.func7, Try.ntmps7
  go_wp2_with (first
    | (go_at_call 22; (with_reducible refine (H22.out _ HM.out).mono ?_); rintro e w1 ⟨pl, cl, rfl, HL⟩)
    | (refine wpList_make_full _ rfl _ _ 27 rfl w1.heap.size 2 i0 (.int .i64 0) 1 Try.underlying27 hi hz0 hz1 .i64 .i64 _ _ k rfl rfl rfl rfl (by rw [hz2]; omega) (by unfold maxLen; omega) (Nat.le_refl _) ?_; intro w2 hown hgr; have HB : Hid (BK w w1 (.slice pl k cl) L k (List.replicate k 0) w2) := BK.new HL.out.1 HL.out.2 hown hgr; clear hown hgr))
  have c13' : Hid (Calls Try.prog 13 #[.slice (some ⟨w1.heap.size, 0, none⟩) k k, .slice pl k cl] w2 fun e w' => e = .returned (.tuple #[.int .i64 0, .int .i64 all, .int .i64 0]) ∧ Hid (Up w2 w')) := back_call HA4.out HB.out (X := 0) (fun j hj => by rw [rep0]; exact Int.dvd_zero _) (Int.zero_emod _)
  refine c13'.out.mono ?_
  rintro e w3 ⟨rfl, HU3⟩
  go_wp2_with (go_at_call 23; (with_reducible refine (t23 x all (by omega) _).mono ?_); rintro e w3 ⟨rfl, rfl⟩; rw [hX])
  have HB3 : Hid (BK w w1 (.slice pl k cl) L k (List.replicate k 0) w3) := HB.out.up HU3.out
  clear HB HL H22 HM c13' HU3
  go_loopw [10] (fun vi wr => ∃ (i : Nat) (R : List Int), i ≤ k ∧ vi = .int .i64 i ∧ Hid (BK w w1 (.slice pl k cl) L k R wr ∧ ∀ j, j < i → R[j]! = X % L[j]!)) (fun vi _ => k - (intOf vi).toNat)
  case atStart => exact ⟨0, List.replicate k 0, by omega, rfl, HB3.out, fun j hj => by omega⟩
  case round =>
    clear HB3
    obtain ⟨i, R, hik, rfl, HI⟩ := hrel
    by_cases hlt : i < k
    · obtain ⟨gl, rfl, cl1, gl1, gl2⟩ := HI.out.1.2.2.1.cellsome hlt
      have cr1 := HI.out.1.2.1.cell (i := i) (by rw [HI.out.1.1]; exact hlt)
      have fr1 := HI.out.1.2.1.frz HI.out.1.1 i
      obtain ⟨q1, q2⟩ := HLin.out i hlt
      have q3 := Int.emod_eq_zero_of_dvd (HA3.out i hlt)
      have HN : Hid (∀ z, z = X % L[i]! → ∀ j, j < i + 1 → (R.set i z)[j]! = X % L[j]!) := fun z hz j hj => by
        rw [get_set R i z (by rw [HI.out.1.1]; omega)]
        by_cases e : j = i
        · subst e; rw [if_pos rfl]; exact hz
        · rw [if_neg e]; exact HI.out.2 j (by omega)
      obtain ⟨li, hli⟩ : ∃ t, L[i]! = t := ⟨_, rfl⟩
      rw [hli] at cl1 q1 q2 q3 HN
      generalize R[i]! = z0 at cr1
      have HLT : Hid (i < k) := hlt
      have hiz : (i : Int) < (k : Int) := by omega
      have hiz0 : (0 : Int) ≤ (i : Int) := by omega
      have hli0 : ¬ li = 0 := by omega
      have hne : w1.heap.size ≠ gl := by
        have := HI.out.1.2.2.2.2.2 gl rfl
        omega
      go_wp2
      go_roundw
      case rel => exact ⟨i + 1, R.set i (X % li), HLT.out, by go_num, HI.out.1.put i _, HN.out _ rfl⟩
      case measure => have := HLT.out; simp [intOf]; omega
    · obtain rfl : i = k := by omega
      have c13b : Hid (Calls Try.prog 13 #[.slice (some ⟨w1.heap.size, 0, none⟩) i i, .slice pl i cl] wr fun e w' => e = .returned (.tuple #[.int .i64 X, .int .i64 all, .int .i64 0]) ∧ Hid (Up wr w')) := back_call HA4.out HI.out.1 (X := X) (fun j hj => by
        rw [HI.out.2 j hj]
        exact Int.dvd_self_sub_emod) HX.out
      go_wp2_with (go_at_call 13; (with_reducible refine c13b.out.mono ?_); rintro e w4 ⟨rfl, HU4⟩)
      have HI4 : Hid (BK w w1 (.slice pl i cl) L i R w4 ∧ ∀ j, j < i → R[j]! = X % L[j]!) := ⟨HI.out.1.up HU4.out, HI.out.2⟩
      clear HI c13b HU4
      go_loopw [14] (fun vi wr => ∃ (i' : Nat) (R' : List Int), i' ≤ i ∧ vi = .int .i64 i' ∧ Hid (BK w w1 (.slice pl i cl) L i R' wr ∧ ∀ j, j < i → R'[j]! = X % L[j]! - if j < i' then 3 * L[j]! else 0)) (fun vi _ => i - (intOf vi).toNat)
      case atStart => exact ⟨0, R, by omega, rfl, HI4.out.1, fun j hj => by rw [HI4.out.2 j hj, if_neg (by omega)]; omega⟩
      case round =>
        clear HI4
        obtain ⟨j', R', hik', rfl, HJ⟩ := hrel
        by_cases hlt' : j' < i
        · obtain ⟨gl, rfl, cl1, gl1, gl2⟩ := HJ.out.1.2.2.1.cellsome hlt'
          have cr1 := HJ.out.1.2.1.cell (i := j') (by rw [HJ.out.1.1]; exact hlt')
          have fr1 := HJ.out.1.2.1.frz HJ.out.1.1 j'
          obtain ⟨q1, q2⟩ := HLin.out j' hlt'
          have HN : Hid (∀ z, z = R'[j']! - 3 * L[j']! → ∀ j, j < i → (R'.set j' z)[j]! = X % L[j]! - if j < j' + 1 then 3 * L[j]! else 0) := fun z hz j hj => by
            rw [get_set R' j' z (by rw [HJ.out.1.1]; omega)]
            by_cases e : j = j'
            · subst e
              rw [if_pos rfl, if_pos (by omega), hz, HJ.out.2 j hj, if_neg (by omega)]; omega
            · rw [if_neg e, HJ.out.2 j hj]
              by_cases e2 : j < j'
              · rw [if_pos e2, if_pos (by omega)]
              · rw [if_neg e2, if_neg (by omega)]
          have hzb : 0 ≤ R'[j']! ∧ R'[j']! ≤ 4096 := by
            rw [HJ.out.2 j' hlt', if_neg (by omega)]
            have := Int.emod_nonneg X (show L[j']! ≠ 0 by omega)
            have := Int.emod_lt_of_pos X (show 0 < L[j']! by omega)
            omega
          obtain ⟨li, hli⟩ : ∃ t, L[j']! = t := ⟨_, rfl⟩
          obtain ⟨z, hz⟩ : ∃ t, R'[j']! = t := ⟨_, rfl⟩
          rw [hli] at cl1 q1 q2 HN
          rw [hz] at cr1 hzb HN
          have HLT : Hid (j' < i) := hlt'
          have hiz : (j' : Int) < (i : Int) := by omega
          have hiz0 : (0 : Int) ≤ (j' : Int) := by omega
          have hw1 : IntKind.i64.wrap (3 * li) = 3 * li := IntWalk.i64_in _ (by omega)
          have hw2 : IntKind.i64.wrap (z - 3 * li) = z - 3 * li := IntWalk.i64_in _ (by omega)
          have cl1d := cell_up cl1 (Up.drew wr)
          have cr1d := cell_up cr1 (Up.drew wr)
          go_wp2_with fail
          refine wp_region_ord 13 [(0, none), (1, none), (2, none), (3, none), (4, none), (5, some false), (6, none), (7, none), (8, none), (9, some false), (10, none), (11, none), (12, none)] (fun w' => w'.cell? ⟨w1.heap.size, j', none⟩ = some (.int .i64 z) ∧ w'.cell? ⟨gl, j', none⟩ = some (.int .i64 li)) (by kernel_rfl) (by decide) rfl (by kernel_rfl) (fun _ _ _ _ _ h => by simpa (config := { zetaDelta := true }) only [Exit.inBlock, Exit.then, bodyPost, put_def] using h) ⟨cr1d, cl1d⟩ ?_
          refine ⟨_, .slice (some ⟨w1.heap.size, 0, none⟩) i i, some 83, rfl, rfl, Or.inl ⟨rfl, fun w' _ => ?_⟩, ?_⟩
          · go_simp
          refine ⟨_, .int .i64 j', some 84, rfl, rfl, Or.inl ⟨rfl, fun w' _ => ?_⟩, ?_⟩
          · go_simp
          refine ⟨_, .slice (some ⟨w1.heap.size, 0, none⟩) i i, some 85, rfl, rfl, Or.inl ⟨rfl, fun w' _ => ?_⟩, ?_⟩
          · go_simp
          refine ⟨_, .int .i64 j', some 86, rfl, rfl, Or.inl ⟨rfl, fun w' _ => ?_⟩, ?_⟩
          · go_simp
          refine ⟨_, .pointer (some ⟨w1.heap.size, j', none⟩), some 87, rfl, rfl, Or.inl ⟨rfl, fun w' _ => ?_⟩, ?_⟩
          · go_simp
          refine ⟨_, .int .i64 z, some 88, rfl, rfl, Or.inl ⟨rfl, fun w' hS => ?_⟩, ?_⟩
          · obtain ⟨q1, q2⟩ := hS
            go_simp
          refine ⟨_, .slice (some ⟨gl, 0, none⟩) i cl, some 89, rfl, rfl, Or.inl ⟨rfl, fun w' _ => ?_⟩, ?_⟩
          · go_simp
          refine ⟨_, .int .i64 j', some 90, rfl, rfl, Or.inl ⟨rfl, fun w' _ => ?_⟩, ?_⟩
          · go_simp
          refine ⟨_, .pointer (some ⟨gl, j', none⟩), some 91, rfl, rfl, Or.inl ⟨rfl, fun w' _ => ?_⟩, ?_⟩
          · go_simp
          refine ⟨_, .int .i64 li, some 92, rfl, rfl, Or.inl ⟨rfl, fun w' hS => ?_⟩, ?_⟩
          · obtain ⟨q1, q2⟩ := hS
            go_simp
          refine ⟨_, .int .i64 (3 * li), some 93, rfl, rfl, Or.inl ⟨rfl, fun w' _ => ?_⟩, ?_⟩
          · go_simp
          refine ⟨_, .int .i64 (z - 3 * li), some 94, rfl, rfl, Or.inl ⟨rfl, fun w' _ => ?_⟩, ?_⟩
          · go_simp
          refine ⟨_, .pointer (some ⟨w1.heap.size, j', none⟩), some 95, rfl, rfl, Or.inl ⟨rfl, fun w' _ => ?_⟩, ?_⟩
          · go_simp
          simp only [OrdW, List.drop, Act.put, List.setIfInBounds_toArray, List.set_cons_succ, List.set_cons_zero]
          have HJ4 : Hid (BK w w1 (.slice (some ⟨gl, 0, none⟩) i cl) L i R' wr.drew) := HJ.out.1.up (Up.drew _)
          have fr1d := HJ4.out.2.1.frz HJ4.out.1 j'
          clear cl1 cr1 fr1 HJ
          generalize wr.drew = wq at *
          go_wp2
          go_roundw
          case rel => exact ⟨j' + 1, R'.set j' (z - 3 * li), HLT.out, by go_num, HJ4.out.put j' _, HN.out _ rfl⟩
          case measure => have := HLT.out; simp [intOf]; omega
        · obtain rfl : j' = i := by omega
          have c13c : Hid (Calls Try.prog 13 #[.slice (some ⟨w1.heap.size, 0, none⟩) j' j', .slice pl j' cl] wr fun e w' => e = .returned (.tuple #[.int .i64 X, .int .i64 all, .int .i64 0]) ∧ Hid (Up wr w')) := back_call HA4.out HJ.out.1 (X := X) (fun j hj => by
            rw [HJ.out.2 j hj, if_pos hj]
            have h1 : L[j]! ∣ X - X % L[j]! := Int.dvd_self_sub_emod
            obtain ⟨t, ht⟩ := h1
            exact ⟨t + 3, by generalize L[j]! = l at *; generalize X % l = y at *; grind⟩) HX.out
          go_wp2_with (first
            | (go_at_call 13; (with_reducible refine c13c.out.mono ?_); rintro e w5 ⟨rfl, HU5⟩)
            | (go_at_call 11; (with_reducible refine (t11 _).mono ?_); rintro e w6 ⟨rfl, HU6⟩))
          go_ret
          exact ⟨rfl, (HJ.out.1.2.2.2.1.trans HU5.out).trans HU6.out⟩
end Go.Proofs.Ytpahjenfkgcdlaa
