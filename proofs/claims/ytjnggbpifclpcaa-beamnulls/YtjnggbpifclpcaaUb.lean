/- Steer as the document says it. -/
import Derived.Test.YtjnggbpifclpcaaUa
namespace Go.Proofs.Ytjnggbpifclpcaa
open Go.ChangeShapes Go.WideShapes Go.ChangeAt Go.RowKit Go.Fl Ieee
attribute [local go_sem] run_store_float run_store_complex call34 call33 run_neg fold_eq fold_ne fold_lt fold_gt abs_eq

set_option maxHeartbeats 2000000 in
set_option maxRecDepth 20000 in
theorem t7ok (N x y : Nat) (w : World) (h1 : 1 ≤ N) (h2 : N ≤ 64) (hf : (fin (ab x) && fin (ab y)) = true) : Calls Try.prog 7 #[.int .i64 N, .float .f64 x, .float .f64 y] w (QL w ((List.range N).map (steerF (ab x) (ab y))) 0) := by
  obtain ⟨i0, hi, hz0, hz1, hz2⟩ := info_parts info47
  rw [Bool.and_eq_true] at hf
  have HT : Hid (∀ w, Calls Try.prog 19 #[.float .f64 x] w fun e w' => e = .returned (.bool true) ∧ w' = w) := fun w => by rw [← hf.1]; exact t19 x w
  have HT2 : Hid (∀ w, Calls Try.prog 19 #[.float .f64 y] w fun e w' => e = .returned (.bool true) ∧ w' = w) := fun w => by rw [← hf.2]; exact t19 y w
  clear hf
  go_enter Try.func7, Try.ntmps7
  go_wp2_with (first
    | (go_at_call 19; (with_reducible refine (HT.out _).mono ?_); rintro e w' ⟨rfl, hw⟩; subst w')
    | (go_at_call 19; (with_reducible refine (HT2.out _).mono ?_); rintro e w' ⟨rfl, hw⟩; subst w')
    | (go_at_call 20; (with_reducible refine (t20 _ _ _).mono ?_); rintro e w' ⟨a, rfl, ha, hu⟩; have HU : Hid (Up w w') := hu; clear hu))
  go_loopw [11, 12, 13] (fun v i _ wr => ∃ k : Nat, k ≤ N ∧ i = .int .i64 k ∧ Hid (Grow w' wr v (steerF (ab x) (ab y)) k)) (fun _ i _ _ => N - (intOf i).toNat)
  case atStart => exact ⟨0, by omega, rfl, Grow.nil _ _⟩
  case round =>
    obtain ⟨k, hk, rfl, HF⟩ := hrel
    by_cases hlt : k < N
    · have hkz : (k : Int) < (N : Int) := by omega
      go_wp2_with (first
        | ((with_reducible refine upon_fl (by simp) ?_); intro r n hr)
        | (go_at_call 21; refine (t21 _ _).mono ?_; rintro e w2 ⟨c, s, rfl, hc, hs, hu⟩; have HF2 : Hid (Grow w' w2 u11 (steerF (ab x) (ab y)) k) := HF.out.up (Up.trans (Up.drewN _ _) hu); obtain ⟨⟨O, o1, o2, o3⟩, o4⟩ := HF2.out; have sz : w'.heap.size ≤ w2.heap.size := o4.size; clear HF hu)
        | (at_builtin; refine wpList_append_own _ rfl _ _ 23 rfl w'.heap.size 48 i0 (.agg #[.float .f64 0, .float .f64 0]) 2 16 Try.underlying23 hi hz0 hz1 hz2 rfl (by decide) _ _ _ rfl (owns_up o2 (up_new _ _ _)) ⟨w2.heap.size + 1, 0, none⟩ 1 1 [.float .f64 c, .float .f64 s] rfl rfl (cell_new2b _ _ _ _ _) (two_cell _ _) (by unfold maxLen; omega) (by omega) (by simp; omega) ?_))
      intro v' w3 hown' hgrow _
      have HG : Hid (Grow w' w3 v' (steerF (ab x) (ab y)) (k + 1)) := Grow.push o1 o2 o3 o4 (up_new _ _ _) hown' hgrow (by show _ = turnC _; rw [← ha.out, ← hr.out]; exact hc.out) (by show _ = turnS _; rw [← ha.out, ← hr.out]; exact hs.out)
      clear hown' hgrow o1 o2 o3 o4 HF2
      go_wp2
      go_roundw
      case rel => exact ⟨k + 1, by omega, by go_num, HG⟩
      case measure => simp [intOf]; omega
    · obtain rfl : N = k := by omega
      go_wp2
      go_ret2
      exact QL.from HU.out (HF.out.ql rfl)
set_option maxHeartbeats 1000000 in
set_option maxRecDepth 20000 in
theorem t7 (n : Int) (x y : Nat) (w : World) : Calls Try.prog 7 #[.int .i64 n, .float .f64 x, .float .f64 y] w (QL w (steerL n (ab x) (ab y)) (steerE n (ab x) (ab y))) := by
  by_cases h1 : n < 1
  · rw [steerL, steerE, if_pos h1, if_pos h1]
    go_enter Try.func7, Try.ntmps7
    go_wp2
    go_ret2
    exact QL.none _ _
  · by_cases h2 : n > 64
    · rw [steerL, steerE, if_neg h1, if_neg h1, if_pos h2, if_pos h2]
      go_enter Try.func7, Try.ntmps7
      go_wp2
      go_ret2
      exact QL.none _ _
    · obtain ⟨N, rfl⟩ := Int.eq_ofNat_of_zero_le (show 0 ≤ n by omega)
      rw [steerL, steerE, if_neg h1, if_neg h1, if_neg h2, if_neg h2]
      cases hf : fin (ab x) && fin (ab y)
      · cases hx : fin (ab x) with
        | false =>
          have HT : Hid (∀ w, Calls Try.prog 19 #[.float .f64 x] w fun e w' => e = .returned (.bool false) ∧ w' = w) := fun w => by rw [← hx]; exact t19 x w
          obtain ⟨b, hb⟩ : ∃ b, fin (ab y) = b := ⟨_, rfl⟩
          have HT2 : Hid (∀ w, Calls Try.prog 19 #[.float .f64 y] w fun e w' => e = .returned (.bool b) ∧ w' = w) := fun w => by rw [← hb]; exact t19 y w
          clear hf hx hb
          go_enter Try.func7, Try.ntmps7
          go_wp2_with (first
            | (go_at_call 19; (with_reducible refine (HT.out _).mono ?_); rintro e w' ⟨rfl, hw⟩; subst w')
            | (go_at_call 19; (with_reducible refine (HT2.out _).mono ?_); rintro e w' ⟨rfl, hw⟩; subst w'))
          go_ret2
          exact QL.none _ _
        | true =>
          have hy : fin (ab y) = false := by rw [hx, Bool.true_and] at hf; exact hf
          have HT : Hid (∀ w, Calls Try.prog 19 #[.float .f64 x] w fun e w' => e = .returned (.bool true) ∧ w' = w) := fun w => by rw [← hx]; exact t19 x w
          have HT2 : Hid (∀ w, Calls Try.prog 19 #[.float .f64 y] w fun e w' => e = .returned (.bool false) ∧ w' = w) := fun w => by rw [← hy]; exact t19 y w
          clear hf hx hy
          go_enter Try.func7, Try.ntmps7
          go_wp2_with (first
            | (go_at_call 19; (with_reducible refine (HT.out _).mono ?_); rintro e w' ⟨rfl, hw⟩; subst w')
            | (go_at_call 19; (with_reducible refine (HT2.out _).mono ?_); rintro e w' ⟨rfl, hw⟩; subst w'))
          go_ret2
          exact QL.none _ _
      · exact t7ok N x y w (by omega) (by omega) hf
end Go.Proofs.Ytjnggbpifclpcaa
