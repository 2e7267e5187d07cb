/- What the document says of pulses: the reference's Steps, Barker, Code. -/
import Derived.Test.YtflngnnoibkkoaaGreatM
namespace Go.Proofs.YtflngnnoibkkoaaGreat.Rf
open Go.ChangeShapes Go.WideShapes Go.ChangeAt Go.RowKit Go.Fl Ieee
set_option maxRecDepth 200000
set_option maxHeartbeats 8000000
attribute [local go_sem] run_store_float run_store_complex call34 call33 run_neg fold_eq fold_ne fold_lt fold_gt abs_eq

theorem t46e (p : Option Addr) (cap : Nat) (n : Int) (w : World) (h1 : 1 ≤ n) : Calls Tryz.prog 46 #[.slice p 0 cap, .int .i64 n] w (QL w [] 0) := by
  go_enter Tryz.func46, Tryz.ntmps46
  go_wp2
  go_loopw [6, 7, 8, 9, 10] (fun v vi _ _ _ wr => v = .slice none 0 0 ∧ vi = .int .i64 0 ∧ wr = w) (fun _ _ _ _ _ _ => 0)
  case atStart => exact ⟨rfl, rfl, rfl⟩
  case round =>
    obtain ⟨rfl, rfl, rfl⟩ := hrel
    go_wp2
    go_ret2
    exact QL.none _ _
set_option maxHeartbeats 1000000 in
theorem t46ok (o : List Int) (v : Value) (n : Nat) (w : World) (hR : IRow w v o) (h1 : 1 ≤ n) (hK0 : 0 < o.length) (h2 : o.length * n ≤ 16384) : Calls Tryz.prog 46 #[v, .int .i64 n] w (QL w ((List.range (o.length * n)).map (stepsF o n)) 0) := by
  obtain ⟨i0, hi, hz0, hz1, hz2⟩ := info_parts info47
  obtain ⟨pp, cap, rfl, hpp⟩ := hR
  have HPP : Hid (∀ i, i < o.length → ∃ blk off, pp = some ⟨blk, off, none⟩ ∧ w.cell? ⟨blk, off + i, none⟩ = some (.int .i64 o[i]!)) := hpp
  clear hpp
  have hM0 : decide ((n : Int) > Int.tdiv 16384 o.length) = false := many_no hK0 (by rw [Nat.mul_comm]; exact h2)
  have q1 : 0 ≤ Int.tdiv 16384 (o.length : Int) := Int.tdiv_nonneg (by omega) (by omega)
  have q2 : Int.tdiv 16384 (o.length : Int) ≤ 16384 := Int.tdiv_le_self _ (by omega)
  have hK1 : o.length ≤ 16384 := Nat.le_trans (by have := Nat.mul_le_mul_left o.length h1; omega) h2
  have hn2 : n ≤ 16384 := Nat.le_trans (by have := Nat.mul_le_mul_right n hK0; omega) h2
  obtain ⟨M, hM⟩ : ∃ M, M = o.length * n := ⟨_, rfl⟩
  rw [← hM] at h2 ⊢
  have HMM : Hid (M = o.length * n) := hM
  clear hM
  generalize hN : o.length = K at *
  have HN : Hid (o.length = K) := hN
  clear hN
  have hk1 : decide ((K : Int) > 0) = true := by simp; omega
  go_enter Tryz.func46, Tryz.ntmps46
  go_wp2
  go_loopw [6, 7, 8, 9, 10] (fun v vi _ _ _ wr => ∃ i : Nat, i ≤ K ∧ vi = .int .i64 i ∧ Hid (Grow w wr v (stepsF o n) (i * n))) (fun _ vi _ _ _ _ => K - (intOf vi).toNat)
  case atStart => exact ⟨0, by omega, rfl, by rw [Nat.zero_mul]; exact Grow.nil _ _⟩
  case round =>
    obtain ⟨i, hi', rfl, HF⟩ := hrel
    by_cases hlt : i < K
    · have hiz : (i : Int) < (K : Int) := by omega
      obtain ⟨blk, off, hp, hc0⟩ := HPP.out i (by have := HN.out; omega)
      subst hp
      have hc1 := cell_up hc0 HF.out.below
      generalize hf : o[i]! = f at hc0 hc1
      have HFF : Hid (o[i]! = f) := hf
      clear hf hc0
      have b1 := Int.emod_lt_of_pos f (show (0 : Int) < n by omega)
      have b2 := Int.emod_nonneg f (show (n : Int) ≠ 0 by omega)
      obtain ⟨q, hq⟩ : ∃ q, q = i * n := ⟨_, rfl⟩
      have hqm : q + n ≤ M := by
        rw [hq, HMM.out, ← Nat.succ_mul]; exact Nat.mul_le_mul_right _ hlt
      have HQ : Hid (q = i * n) := hq
      rw [← hq] at HF
      clear hq
      obtain ⟨F, hF⟩ : ∃ F : Nat, f % n = F := ⟨(f % n).toNat, by omega⟩
      have HFm : Hid (f % n = F) := hF
      have HM36 : Hid (∀ w, Calls Tryz.prog 72 #[.int .i64 f, .int .i64 n] w fun e w' => e = .returned (.int .i64 F) ∧ w' = w) := fun w => by rw [← hF]; exact t72 f n w (by omega) (by omega)
      have hFn : F < n := by omega
      clear hF b1 b2
      go_wp2_with (go_at_call 72; refine (HM36.out _).mono ?_; rintro e w' ⟨rfl, rfl⟩)
      go_loopw [6, 9, 10] (fun v vj _ wr => ∃ j : Nat, j ≤ n ∧ vj = .int .i64 j ∧ Hid (Grow w wr v (stepsF o n) (q + j))) (fun _ vj _ _ => n - (intOf vj).toNat)
      case atStart => exact ⟨0, by omega, rfl, HF⟩
      case round =>
        clear HF
        obtain ⟨j, hj', rfl, HF⟩ := hrel
        by_cases hlt2 : j < n
        · have hjz : (j : Int) < (n : Int) := by omega
          obtain ⟨p, hp⟩ : ∃ p, p = q + j := ⟨_, rfl⟩
          have hpM : p < M := by omega
          have m1 : (0 : Int) ≤ (F : Int) * j := Int.mul_nonneg (by omega) (by omega)
          have m2 : (F : Int) * j ≤ 16384 * 16384 := Int.mul_le_mul (by omega) (by omega) (by omega) (by omega)
          have HU : Hid (stepsF o n p = unitP (((F : Int) * j) % n) n) := by
            show _ = _
            rw [hp, HQ.out, steps_at hlt2, HFF.out, ← HFm.out, steps_mod h1]
          have HP : Hid (p = q + j) := hp
          rw [← hp] at HF
          clear hp
          go_wp2_with (first
            | (go_at_call 72; refine (t72 _ _ _ (by omega) (by omega)).mono ?_; rintro e w'' ⟨rfl, rfl⟩)
            | (go_at_call 70; refine (t70 _ _ _ (by omega) (by omega)).mono ?_; rintro e w2 ⟨c, s, rfl, hc, hs, hu⟩; have HF2 : Hid (Grow w w2 u6 (stepsF o n) p) := HF.out.up hu; obtain ⟨⟨O, o1, o2, o3⟩, o4⟩ := HF2.out; have sz : w.heap.size ≤ w2.heap.size := o4.size; clear HF hu)
            | (at_builtin; refine wpList_append_own _ rfl _ _ 56 rfl w.heap.size 82 i0 (.agg #[.float .f64 0, .float .f64 0]) 2 16 Tryz.underlying56 hi hz0 hz1 hz2 rfl (by decide) _ _ _ rfl (owns_up o2 (up_new _ _ _)) ⟨w2.heap.size + 1, 0, none⟩ 1 1 [.float .f64 c, .float .f64 s] rfl rfl (cell_new2b _ _ _ _ _) (two_cell _ _) (by unfold maxLen; omega) (by omega) (by simp; omega) ?_))
          intro v' w3 hown' hgrow _
          have HG : Hid (Grow w w3 v' (stepsF o n) (q + (j + 1))) := by
            rw [← Nat.add_assoc, ← HP.out]
            exact Grow.push o1 o2 o3 o4 (up_new _ _ _) hown' hgrow (by rw [HU.out]; exact hc.out) (by rw [HU.out]; exact hs.out)
          clear hown' hgrow o1 o2 o3 o4 HF2
          go_wp2
          go_roundw
          case rel => exact ⟨j + 1, by omega, by go_num, HG⟩
          case measure => simp [intOf]; omega
        · obtain rfl : n = j := by omega
          go_wp2
          go_roundw
          case rel => exact ⟨i + 1, by omega, by go_num, by rw [Nat.succ_mul, ← HQ.out]; exact HF⟩
          case measure => simp [intOf]; omega
    · obtain rfl : K = i := by omega
      go_wp2
      go_ret2
      exact Grow.ql (by rw [← HMM.out] at HF; exact HF.out) rfl
theorem t46 (o : List Int) (v : Value) (n : Int) (w : World) (hR : IRow w v o) (hK : o.length < 1000000000) (hn : n ≤ 9223372036854775807) : Calls Tryz.prog 46 #[v, .int .i64 n] w (QL w (stepsL o n) (stepsE o n)) := by
  by_cases h1 : n < 1
  · rw [stepsL, stepsE, if_pos h1, if_pos h1]
    obtain ⟨pp, cap, rfl, hpp⟩ := hR
    clear hpp
    go_enter Tryz.func46, Tryz.ntmps46
    go_wp2
    go_ret2
    exact QL.none _ _
  · obtain ⟨N, rfl⟩ := Int.eq_ofNat_of_zero_le (show 0 ≤ n by omega)
    by_cases h2 : 16384 < o.length * (N : Int).toNat
    · rw [stepsL, stepsE, if_neg h1, if_neg h1, if_pos h2, if_pos h2]
      obtain ⟨pp, cap, rfl, hpp⟩ := hR
      have hK0 : 0 < o.length := by
        rcases Nat.eq_zero_or_pos o.length with h | h
        · rw [h] at h2; omega
        · exact h
      have hM : decide ((N : Int) > Int.tdiv 16384 o.length) = true := many_yes hK0 (by rw [Nat.mul_comm]; exact h2)
      have q1 : 0 ≤ Int.tdiv 16384 (o.length : Int) := Int.tdiv_nonneg (by omega) (by omega)
      have q2 : Int.tdiv 16384 (o.length : Int) ≤ 16384 := Int.tdiv_le_self _ (by omega)
      have hk1 : decide ((o.length : Int) > 0) = true := by simp; omega
      clear hpp h2
      go_enter Tryz.func46, Tryz.ntmps46
      go_wp2
      go_ret2
      exact QL.none _ _
    · rw [stepsL, stepsE, if_neg h1, if_neg h1, if_neg h2, if_neg h2]
      rcases Nat.eq_zero_or_pos o.length with h | h
      · obtain ⟨pp, cap, rfl, hpp⟩ := hR
        rw [h, Nat.zero_mul]
        exact t46e pp cap N w (by omega)
      · exact t46ok o v N w hR (by omega) h (by simpa using h2)
end Go.Proofs.YtflngnnoibkkoaaGreat.Rf
