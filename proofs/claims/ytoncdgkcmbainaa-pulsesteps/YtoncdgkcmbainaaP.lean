/- What the document says of pulses: the reference's Frank, Steps, Barker, Code. -/
import Derived.Test.YtoncdgkcmbainaaN
namespace Go.Proofs.Ytoncdgkcmbainaa
open Go.ChangeShapes Go.WideShapes Go.ChangeAt Go.RowKit Go.Fl Ieee
attribute [local go_sem] run_store_float run_store_complex call41 call40 run_neg fold_eq fold_ne fold_lt fold_gt abs_eq

set_option maxHeartbeats 1000000 in
theorem t14ok (m : Nat) (w : World) (h1 : 1 ≤ m) (h2 : m ≤ 128) : Calls Try.prog 14 #[.int .i64 m] w (QL w ((List.range (m * m)).map (frankF m)) 0) := by
  obtain ⟨i0, hi, hz0, hz1, hz2⟩ := info_parts info47
  have hmm : m * m ≤ 16384 := Nat.le_trans (Nat.mul_le_mul h2 h2) (by omega)
  obtain ⟨M, hM⟩ : ∃ M, M = m * m := ⟨_, rfl⟩
  rw [← hM] at hmm ⊢
  have HMM : Hid (M = m * m) := hM
  clear hM
  go_enter Try.func14, Try.ntmps14
  go_wp2
  go_loopw [4, 5, 6, 7] (fun v vi _ _ wr => ∃ i : Nat, i ≤ m ∧ vi = .int .i64 i ∧ Hid (Grow w wr v (frankF m) (i * m))) (fun _ vi _ _ _ => m - (intOf vi).toNat)
  case atStart => exact ⟨0, by omega, rfl, by rw [Nat.zero_mul]; exact Grow.nil _ _⟩
  case round =>
    obtain ⟨i, hi', rfl, HF⟩ := hrel
    by_cases hlt : i < m
    · have hiz : (i : Int) < (m : Int) := by omega
      obtain ⟨q, hq⟩ : ∃ q, q = i * m := ⟨_, rfl⟩
      have hqm : q + m ≤ M := by
        rw [hq, HMM.out, ← Nat.succ_mul]; exact Nat.mul_le_mul_right _ hlt
      have HQ : Hid (q = i * m) := hq
      rw [← hq] at HF
      clear hq
      go_wp2
      go_loopw [4, 6, 7] (fun v vj _ wr => ∃ j : Nat, j ≤ m ∧ vj = .int .i64 j ∧ Hid (Grow w wr v (frankF m) (q + j))) (fun _ vj _ _ => m - (intOf vj).toNat)
      case atStart => exact ⟨0, by omega, rfl, HF⟩
      case round =>
        clear HF
        obtain ⟨j, hj', rfl, HF⟩ := hrel
        by_cases hlt2 : j < m
        · have hjz : (j : Int) < (m : Int) := by omega
          obtain ⟨p, hp⟩ : ∃ p, p = q + j := ⟨_, rfl⟩
          have hpM : p < M := by omega
          obtain ⟨r, hr⟩ : ∃ r, r = i * j := ⟨_, rfl⟩
          have er : (i : Int) * j = r := by rw [hr]; exact (Int.natCast_mul _ _).symm
          have hr2 : r ≤ 16384 := by rw [hr]; exact Nat.le_trans (Nat.mul_le_mul (Nat.le_of_lt hlt) (Nat.le_of_lt hlt2)) (by rw [← HMM.out]; omega)
          have HU : Hid (frankF m p = unitP r m) := by
            show _ = _
            rw [hp, HQ.out, hr]; exact frank_at hlt2
          have HP : Hid (p = q + j) := hp
          rw [← hp] at HF
          clear hp hr
          go_wp2_with (first
            | (go_at_call 32; refine (t32 _ _ _ (by omega) (by omega)).mono ?_; rintro e w2 ⟨c, s, rfl, hc, hs, hu⟩; have HF2 : Hid (Grow w w2 u4 (frankF m) p) := HF.out.up hu; obtain ⟨⟨O, o1, o2, o3⟩, o4⟩ := HF2.out; have sz : w.heap.size ≤ w2.heap.size := o4.size; clear HF hu)
            | (at_builtin; refine wpList_append_own _ rfl _ _ 23 rfl w.heap.size 47 i0 (.agg #[.float .f64 0, .float .f64 0]) 2 16 Try.underlying23 hi hz0 hz1 hz2 rfl (by decide) _ _ _ rfl (owns_up o2 (up_new _ _ _)) ⟨w2.heap.size + 1, 0, none⟩ 1 1 [.float .f64 c, .float .f64 s] rfl rfl (cell_new2b _ _ _ _ _) (two_cell _ _) (by unfold maxLen; omega) (by omega) (by simp; omega) ?_))
          intro v' w3 hown' hgrow _
          have HG : Hid (Grow w w3 v' (frankF m) (q + (j + 1))) := by
            rw [← Nat.add_assoc, ← HP.out]
            exact Grow.push o1 o2 o3 o4 (up_new _ _ _) hown' hgrow (by rw [HU.out]; exact hc.out) (by rw [HU.out]; exact hs.out)
          clear hown' hgrow o1 o2 o3 o4 HF2
          go_wp2
          go_roundw
          case rel => exact ⟨j + 1, by omega, by go_num, HG⟩
          case measure => simp [intOf]; omega
        · obtain rfl : m = j := by omega
          go_wp2
          go_roundw
          case rel => exact ⟨i + 1, by omega, by go_num, by rw [Nat.succ_mul, ← HQ.out]; exact HF⟩
          case measure => simp [intOf]; omega
    · obtain rfl : m = i := by omega
      go_wp2
      go_ret2
      exact Grow.ql (by rw [← HMM.out] at HF; exact HF.out) rfl
theorem t14 (m : Int) (w : World) : Calls Try.prog 14 #[.int .i64 m] w (QL w (frankL m) (frankE m)) := by
  by_cases h1 : m < 1
  · rw [frankL, frankE, if_pos h1, if_pos h1]
    go_enter Try.func14, Try.ntmps14
    go_wp2
    go_ret2
    exact QL.none _ _
  · by_cases h2 : m > 128
    · rw [frankL, frankE, if_neg h1, if_neg h1, if_pos h2, if_pos h2]
      go_enter Try.func14, Try.ntmps14
      go_wp2
      go_ret2
      exact QL.none _ _
    · obtain ⟨N, rfl⟩ := Int.eq_ofNat_of_zero_le (show 0 ≤ m by omega)
      rw [frankL, frankE, if_neg h1, if_neg h1, if_neg h2, if_neg h2]
      exact t14ok N w (by omega) (by omega)

theorem tmod_emod {k n : Int} (h1 : 1 ≤ n) : (if k.tmod n < 0 then k.tmod n + n else k.tmod n) = k % n := by
  have e : k.tmod n = k - n * k.tdiv n := Int.tmod_def k n
  have b1 := Int.tmod_lt_of_pos k (show 0 < n by omega)
  have b2 : -n < k.tmod n := Int.lt_tmod_of_pos k (show 0 < n by omega)
  split
  · rename_i h
    have : (k.tmod n + n) % n = k % n := by
      rw [e, Int.add_emod_right, Int.sub_mul_emod_self_left]
    rw [← this, Int.emod_eq_of_lt (by omega) (by omega)]
  · rename_i h
    have : (k.tmod n) % n = k % n := by
      rw [e, Int.sub_mul_emod_self_left]
    rw [← this, Int.emod_eq_of_lt (by omega) (by omega)]
theorem t36 (k n : Int) (w : World) (h1 : 1 ≤ n) (h2 : n ≤ 4611686018427387904) : Calls Try.prog 36 #[.int .i64 k, .int .i64 n] w fun e w' => e = .returned (.int .i64 (k % n)) ∧ w' = w := by
  have b1 := Int.tmod_lt_of_pos k (show 0 < n by omega)
  have b2 : -n < k.tmod n := Int.lt_tmod_of_pos k (show 0 < n by omega)
  rw [← tmod_emod h1]
  go_enter Try.func36, Try.ntmps36
  go_wp2
  all_goals (go_ret; go_tidy; refine ⟨?_, rfl⟩)
  all_goals simp_all
theorem unit_mod {a b n : Int} (h1 : 1 ≤ n) (h : a % n = b % n) : unitP a n = unitP b n := by
  have e : unitR a n = unitR b n := by
    unfold unitR
    simp only [tmod_emod h1, h]
  unfold unitP unitC unitS unitX
  rw [e]
theorem steps_mod {f : Int} {n j : Nat} (h1 : 1 ≤ n) : unitP ((f % n * j) % n) n = unitP (f.tmod n * j) n := by
  refine unit_mod (by omega) ?_
  rw [Int.emod_emod_of_dvd _ (Int.dvd_refl _), Int.mul_emod, Int.emod_emod_of_dvd _ (Int.dvd_refl _), ← Int.mul_emod]
  rw [Int.mul_emod (f.tmod n), Int.mul_emod f]
  have : f.tmod n % n = f % n := by
    rw [Int.tmod_def, Int.sub_mul_emod_self_left]
  rw [this]
end Go.Proofs.Ytoncdgkcmbainaa
