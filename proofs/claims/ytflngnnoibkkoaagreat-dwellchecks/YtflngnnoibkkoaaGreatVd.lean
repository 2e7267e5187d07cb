/- What the document says of pulses: the reference's Barker and Code. -/
import Derived.Test.YtflngnnoibkkoaaGreatVc
namespace Go.Proofs.YtflngnnoibkkoaaGreat.Rf
open Go.ChangeShapes Go.WideShapes Go.ChangeAt Go.RowKit Go.Fl Ieee
set_option maxRecDepth 200000
set_option maxHeartbeats 8000000
attribute [local go_sem] run_store_float run_store_complex call34 call33 run_neg fold_eq fold_ne fold_lt fold_gt abs_eq

theorem t69 (n : Int) (w : World) : Calls Tryz.prog 69 #[.int .i64 n] w fun e w' => e = .returned (.string (rowS n)) ∧ w' = w := by
  go_enter Tryz.func69, Tryz.ntmps69
  go_wp2
  all_goals (go_ret; go_tidy; refine ⟨?_, rfl⟩)
  all_goals simp_all [rowS]
set_option maxHeartbeats 1000000 in
theorem t43ok (n : Int) (N : Nat) (s : ByteArray) (w : World) (hs : rowS n = s) (hN : s.size = N) (h2 : 2 ≤ N) (h13 : N ≤ 13) (he : s.toList.isEmpty = false) (hb : ∀ k, k < s.size → s.get! k = 43 ∨ s.get! k = 45) : Calls Tryz.prog 43 #[.int .i64 n] w (QL w ((List.range N).map (signF s)) 0) := by
  obtain ⟨i0, hi, hz0, hz1, hz2⟩ := info_parts info47
  have HRow : Hid (∀ w : World, Calls Tryz.prog 69 #[.int .i64 n] w fun e w' => e = .returned (.string s) ∧ w' = w) := fun w => by rw [← hs]; exact t69 n w
  have HB : Hid (∀ k, k < s.size → s.get! k = 43 ∨ s.get! k = 45) := hb
  clear hs hb
  go_enter Tryz.func43, Tryz.ntmps43
  go_wp2_with (go_at_call 69; refine (HRow.out _).mono ?_; rintro e w' ⟨rfl, rfl⟩)
  go_loopw [5, 6, 7] (fun v i _ wr => ∃ k : Nat, k ≤ N ∧ i = .int .i64 k ∧ Hid (Grow w' wr v (signF s) k)) (fun _ i _ _ => N - (intOf i).toNat)
  case atStart => exact ⟨0, by omega, rfl, Grow.nil _ _⟩
  case round =>
    obtain ⟨k, hk, rfl, HF⟩ := hrel
    by_cases hlt : k < N
    · have hlt' : k < s.size := by rw [hN]; exact hlt
      have hkz : (k : Int) < (s.size : Int) := by omega
      have hkz2 : (k : Int) < (N : Int) := by omega
      obtain ⟨⟨O, o1, o2, o3⟩, o4⟩ := HF.out
      have sz : w'.heap.size ≤ wr.heap.size := o4.size
      rcases HB.out k hlt' with hs | hs
      · have hsk : (s[k]'hlt').toNat = 43 := by rw [← get_at hlt', hs]; rfl
        have HS : Hid (signF s k = (some 4607182418800017408, some 0)) := by
          show _ = _
          simp [signF, hs]
        clear hs
        go_wp2_with (at_builtin; refine wpList_append_own _ rfl _ _ 56 rfl w'.heap.size 82 i0 (.agg #[.float .f64 0, .float .f64 0]) 2 16 Tryz.underlying56 hi hz0 hz1 hz2 rfl (by decide) _ _ _ rfl (owns_up o2 (up_new _ _ _)) ⟨wr.heap.size + 1, 0, none⟩ 1 1 [.float .f64 4607182418800017408, .float .f64 0] rfl rfl (cell_new2b _ _ _ _ _) (two_cell _ _) (by unfold maxLen; omega) (by omega) (by simp; omega) ?_)
        intro v' w3 hown' hgrow _
        have HG : Hid (Grow w' w3 v' (signF s) (k + 1)) := Grow.push o1 o2 o3 o4 (up_new _ _ _) hown' hgrow (by rw [HS.out]; decide +kernel) (by rw [HS.out]; decide +kernel)
        clear hown' hgrow o1 o2 o3 o4 HF
        go_wp2
        go_roundw
        case rel => exact ⟨k + 1, by omega, by go_num, HG⟩
        case measure => simp [intOf]; omega
      · have hsk : (s[k]'hlt').toNat = 45 := by rw [← get_at hlt', hs]; rfl
        have HS : Hid (signF s k = (some 13830554455654793216, some 0)) := by
          show _ = _
          simp [signF, hs]
        clear hs
        go_wp2_with (at_builtin; refine wpList_append_own _ rfl _ _ 56 rfl w'.heap.size 82 i0 (.agg #[.float .f64 0, .float .f64 0]) 2 16 Tryz.underlying56 hi hz0 hz1 hz2 rfl (by decide) _ _ _ rfl (owns_up o2 (up_new _ _ _)) ⟨wr.heap.size + 1, 0, none⟩ 1 1 [.float .f64 13830554455654793216, .float .f64 0] rfl rfl (cell_new2b _ _ _ _ _) (two_cell _ _) (by unfold maxLen; omega) (by omega) (by simp; omega) ?_)
        intro v' w3 hown' hgrow _
        have HG : Hid (Grow w' w3 v' (signF s) (k + 1)) := Grow.push o1 o2 o3 o4 (up_new _ _ _) hown' hgrow (by rw [HS.out]; decide +kernel) (by rw [HS.out]; decide +kernel)
        clear hown' hgrow o1 o2 o3 o4 HF
        go_wp2
        go_roundw
        case rel => exact ⟨k + 1, by omega, by go_num, HG⟩
        case measure => simp [intOf]; omega
    · obtain rfl : N = k := by omega
      go_wp2
      go_ret2
      exact HF.out.ql rfl
theorem t43 (n : Int) (w : World) : Calls Tryz.prog 43 #[.int .i64 n] w (QL w (barkerL n) (barkerE n)) := by
  rcases row_facts n with h | ⟨h1, h2, h3, h4, h5⟩
  · have e1 : barkerL n = [] := by rw [barkerL, h]; rfl
    have e2 : barkerE n = 40 := by rw [barkerE, h]; rfl
    rw [e1, e2]
    have HRow : Hid (∀ w : World, Calls Tryz.prog 69 #[.int .i64 n] w fun e w' => e = .returned (.string ⟨#[]⟩) ∧ w' = w) := fun w => by rw [← h]; exact t69 n w
    clear h e1 e2
    go_enter Tryz.func43, Tryz.ntmps43
    go_wp2_with (go_at_call 69; refine (HRow.out _).mono ?_; rintro e w' ⟨rfl, rfl⟩)
    go_ret2
    exact QL.none _ _
  · have e2 : barkerE n = 0 := by rw [barkerE, h1, if_neg (by omega)]
    rw [barkerL, e2]
    exact t43ok n (rowS n).size (rowS n) w rfl rfl (by omega) (by omega) h4 h5
theorem QL.under {w0 w w' : World} {L : List (Option Nat × Option Nat)} {c : Int} {e : Ending} (h : QL w L c e w') (hu : Up w0 w) : QL w0 L c e w' := by
  obtain ⟨v, d, he, h1, h2, h3⟩ := h
  exact ⟨v, d, he, World.ownsRow.mono h1.out hu.size, hu.trans h2.out, h3⟩
theorem t22b (n : Int) (w : World) (m : Int) (hn : n = 1 ∧ m = 2 ∨ n = 2 ∧ m = 3 ∨ n = 3 ∧ m = 4 ∨ n = 4 ∧ m = 5 ∨ n = 5 ∧ m = 7 ∨ n = 6 ∧ m = 11 ∨ n = 7 ∧ m = 13) : Calls Tryz.prog 22 #[.int .i64 n] w (QL w (barkerL m) (barkerE m)) := by
  rcases hn with ⟨rfl, rfl⟩ | ⟨rfl, rfl⟩ | ⟨rfl, rfl⟩ | ⟨rfl, rfl⟩ | ⟨rfl, rfl⟩ | ⟨rfl, rfl⟩ | ⟨rfl, rfl⟩ <;>
  · go_enter Tryz.func22, Tryz.ntmps22
    go_wp2_with (go_at_call 43; refine (t43 _ _).mono ?_; intro e w1 hp; obtain ⟨v, d, rfl, h1, h2, h3⟩ := QL.under hp (Up.alloc _ _))
    go_ret2
    exact ⟨_, _, rfl, h1, h2, h3⟩
theorem t22f (n : Int) (w : World) (m : Int) (hn : n = 8 ∧ m = 4 ∨ n = 9 ∧ m = 8) : Calls Tryz.prog 22 #[.int .i64 n] w (QL w (frankL m) (frankE m)) := by
  rcases hn with ⟨rfl, rfl⟩ | ⟨rfl, rfl⟩ <;>
  · go_enter Tryz.func22, Tryz.ntmps22
    go_wp2_with (go_at_call 44; refine (t44 _ _).mono ?_; intro e w1 hp; obtain ⟨v, d, rfl, h1, h2, h3⟩ := QL.under hp (Up.alloc _ _))
    go_ret2
    exact ⟨_, _, rfl, h1, h2, h3⟩
theorem t22c (w : World) : Calls Tryz.prog 22 #[.int .i64 10] w (QL w (chirpL 32 (ab 4620693217682128896)) (chirpE 32 (ab 4620693217682128896))) := by
  go_enter Tryz.func22, Tryz.ntmps22
  go_wp2_with (go_at_call 45; refine (t45 _ _ _).mono ?_; intro e w1 hp; obtain ⟨v, d, rfl, h1, h2, h3⟩ := QL.under hp (Up.alloc _ _))
  go_ret2
  exact ⟨_, _, rfl, h1, h2, h3⟩
theorem t22d (w : World) : Calls Tryz.prog 22 #[.int .i64 11] w (QL w (chirpL 64 (ab 4625196817309499392)) (chirpE 64 (ab 4625196817309499392))) := by
  go_enter Tryz.func22, Tryz.ntmps22
  go_wp2_with (go_at_call 45; refine (t45 _ _ _).mono ?_; intro e w1 hp; obtain ⟨v, d, rfl, h1, h2, h3⟩ := QL.under hp (Up.alloc _ _))
  go_ret2
  exact ⟨_, _, rfl, h1, h2, h3⟩
theorem irow_new2 (w : World) (o : List Int) (b : Obj) (t : TypeId) {cs : Array Value} {n cap : Nat} (hn : n = o.length) (h : cs = (o.map (Value.int .i64)).toArray) : IRow ((w.alloc b).alloc (.cells cs t)) (.slice (some ⟨w.heap.size + 1, 0, none⟩) n cap) o := by
  have e : w.heap.size + 1 = (w.alloc b).heap.size := by simp
  rw [e]
  exact irow_new (w.alloc b) o t hn h
theorem t22s (w : World) : Calls Tryz.prog 22 #[.int .i64 12] w (QL w (stepsL order12 16) (stepsE order12 16)) := by
  go_enter Tryz.func22, Tryz.ntmps22
  go_wp2_with (go_at_call 46; refine (t46 order12 _ _ _ (irow_new2 _ order12 _ _ rfl rfl) (by decide) (by omega)).mono ?_; intro e w1 hp; obtain ⟨v, d, rfl, h1, h2, h3⟩ := QL.under hp (up_new _ _ _))
  go_ret2
  exact ⟨_, _, rfl, h1, h2, h3⟩
theorem t22z (w : World) : Calls Tryz.prog 22 #[.int .i64 0] w (QL w [(some 4607182418800017408, some 0)] 0) := by
  go_enter Tryz.func22, Tryz.ntmps22
  go_wp2
  go_ret2
  refine ⟨_, [(4607182418800017408, 0)], rfl, ?_, up_new _ _ _, by show _ = _; decide +kernel⟩
  have h := World.ownsRow_lit (base := w.heap.size) (e := 82) (size := 2) (w.alloc (.cells #[.int .i64 2, .int .i64 3, .int .i64 4, .int .i64 5, .int .i64 7, .int .i64 11, .int .i64 13] 3)) #[.float .f64 4607182418800017408, .float .f64 0] 1 (by simp) (by decide) rfl
  simp at h
  exact h
theorem t22n (n : Int) (w : World) (h : ¬ (0 ≤ n ∧ n ≤ 12)) : Calls Tryz.prog 22 #[.int .i64 n] w (QL w [] 40) := by
  have h0 : (n == 0) = false := by rw [beq_eq_false_iff_ne]; omega
  have h8 : (n == 8) = false := by rw [beq_eq_false_iff_ne]; omega
  have h9 : (n == 9) = false := by rw [beq_eq_false_iff_ne]; omega
  have h10 : (n == 10) = false := by rw [beq_eq_false_iff_ne]; omega
  have h11 : (n == 11) = false := by rw [beq_eq_false_iff_ne]; omega
  have h12 : (n == 12) = false := by rw [beq_eq_false_iff_ne]; omega
  rcases Int.lt_or_le n 1 with hl | hl
  · go_enter Tryz.func22, Tryz.ntmps22
    go_wp2
    go_ret2
    exact ⟨_, [], rfl, World.ownsRow_nil _ _ _ _, Up.alloc _ _, rfl⟩
  · have hl7 : ¬ n ≤ 7 := by omega
    go_enter Tryz.func22, Tryz.ntmps22
    go_wp2
    go_ret2
    exact ⟨_, [], rfl, World.ownsRow_nil _ _ _ _, Up.alloc _ _, rfl⟩
theorem t22 (n : Int) (w : World) : Calls Tryz.prog 22 #[.int .i64 n] w (QL w (codeL n) (codeE n)) := by
  by_cases h : 0 ≤ n ∧ n ≤ 12
  · obtain ⟨N, rfl⟩ := Int.eq_ofNat_of_zero_le h.1
    have hN : N ≤ 12 := by omega
    clear h
    match N, hN with
    | 0, _ => exact t22z w
    | 1, _ => exact t22b 1 w 2 (by omega)
    | 2, _ => exact t22b 2 w 3 (by omega)
    | 3, _ => exact t22b 3 w 4 (by omega)
    | 4, _ => exact t22b 4 w 5 (by omega)
    | 5, _ => exact t22b 5 w 7 (by omega)
    | 6, _ => exact t22b 6 w 11 (by omega)
    | 7, _ => exact t22b 7 w 13 (by omega)
    | 8, _ => exact t22f 8 w 4 (by omega)
    | 9, _ => exact t22f 9 w 8 (by omega)
    | 10, _ => exact t22c w
    | 11, _ => exact t22d w
    | 12, _ => exact t22s w
    | k + 13, h => omega
  · have e1 : codeL n = [] := by simp only [codeL]; repeat' rw [if_neg (by omega)]
    have e2 : codeE n = 40 := by simp only [codeE]; repeat' rw [if_neg (by omega)]
    rw [e1, e2]
    exact t22n n w h
end Go.Proofs.YtflngnnoibkkoaaGreat.Rf
