/- Ahead, the program's. -/
import Derived.Test.YtcgbmcnefolgcaaAa
namespace Go.Proofs.Ytcgbmcnefolgcaa
open Go.ChangeShapes Go.WideShapes Go.ChangeAt Go.RowKit Go.Fl Ieee
attribute [local go_sem] run_store_float call22 call54 run_neg fold_eq fold_ne fold_lt fold_gt abs_eq

def aheadF (s : S5) (t q : Option Nat) : S5 :=
  if gtF t (ab 0) = true then
    let a := bin .mul s.b t
    let b := bin .mul s.c t
    let k := bin .mul q t
    let kt := bin .mul k t
    ⟨bin .add s.x (bin .mul s.v t), s.v, posF (bin .add (bin .add (bin .add (bin .add s.a a) a) (bin .mul b t)) (bin .quo (bin .mul kt t) (ab 4613937818241073152))), bin .add (bin .add s.b b) (bin .quo kt (ab 4611686018427387904)), bin .add s.c k⟩
  else s
set_option maxHeartbeats 2000000 in
theorem t26 (x v a b c t q : Nat) (w : World) : Calls Try.prog 26 #[.agg #[.float .f64 x, .float .f64 v, .float .f64 a, .float .f64 b, .float .f64 c], .float .f64 t, .float .f64 q] w (SR w (aheadF ⟨ab x, ab v, ab a, ab b, ab c⟩ (ab t) (ab q))) := by
  have HB := BC.new w x v a b c
  obtain ⟨b0, b1, b2, b3, b4⟩ := HB
  cases HG : gtF (ab t) (ab 0) with
  | false =>
    have HK : Hid (aheadF ⟨ab x, ab v, ab a, ab b, ab c⟩ (ab t) (ab q) = ⟨ab x, ab v, ab a, ab b, ab c⟩) := by show _ = _; unfold aheadF; rw [if_neg (by simp [HG])]
    go_enter Try.func26, Try.ntmps26
    go_wp2_with (first | (go_at_call 51; (with_reducible refine (t51 _ _).mono ?_); rintro e w' ⟨rfl, rfl⟩))
    exact bodyPost_ret (results_cell_row Try.results26 _ _ _ 27 #[.float .f64 x, .float .f64 v, .float .f64 a, .float .f64 b, .float .f64 c] (0, 0) _ rfl (alloc2_last _ _ _) Try.underlying27 rfl (by kernel_rfl)) rfl ⟨x, v, a, b, c, rfl, by rw [HK.out]; exact ⟨rfl, rfl, rfl, rfl, rfl⟩, Up.alloc2 _ _ _⟩
  | true =>
    go_enter Try.func26, Try.ntmps26
    go_wp2_with (first | (go_at_call 51; (with_reducible refine (t51 _ _).mono ?_); rintro e w' ⟨rfl, rfl⟩))
    refine wp_region_sp 13 [.val (.pointer (some ⟨w.heap.size, 3, none⟩)), .val (.float .f64 b), .val (.float .f64 t), .fl (bin .mul (ab b) (ab t)), .val (.pointer (some ⟨w.heap.size, 4, none⟩)), .val (.float .f64 c), .val (.float .f64 t), .fl (bin .mul (ab c) (ab t)), .val (.float .f64 q), .val (.float .f64 t), .fl (bin .mul (ab q) (ab t)), .fl (bin .mul (ab b) (ab t)), .fl (bin .mul (ab c) (ab t))] (DrW _) (by kernel_rfl) (by decide) rfl (by kernel_rfl) ⟨good_bin _ _ _, good_bin _ _ _, good_bin _ _ _, good_bin _ _ _, good_bin _ _ _, trivial⟩ (DrW.start _) ?_
    intro rs hF
    obtain ⟨h3, h7, h10, h11, h12, _⟩ := hF
    simp only [List.take_succ_cons, List.take_zero, valsL, FillL, Act.put, List.setIfInBounds_toArray, List.set_cons_succ, List.set_cons_zero, Nat.zero_add, Nat.reduceAdd]
    refine ⟨⟨LoosO.is rfl (fun w hw => by obtain ⟨N, rfl⟩ := hw; go_simp),
      LoosO.is rfl (fun w hw => by obtain ⟨N, rfl⟩ := hw; go_simp),
      LoosO.is rfl (fun w hw => by obtain ⟨N, rfl⟩ := hw; go_simp),
      LoosO.st (DrW.on _) rfl rfl (Or.inr (Or.inr (Or.inl rfl))) b t rfl rfl rfl rfl,
      LoosO.is rfl (fun w hw => by obtain ⟨N, rfl⟩ := hw; go_simp),
      LoosO.is rfl (fun w hw => by obtain ⟨N, rfl⟩ := hw; go_simp),
      LoosO.is rfl (fun w hw => by obtain ⟨N, rfl⟩ := hw; go_simp),
      LoosO.st (DrW.on _) rfl rfl (Or.inr (Or.inr (Or.inl rfl))) c t rfl rfl rfl rfl,
      LoosO.is rfl (fun w hw => by obtain ⟨N, rfl⟩ := hw; go_simp),
      LoosO.is rfl (fun w hw => by obtain ⟨N, rfl⟩ := hw; go_simp),
      LoosO.st (DrW.on _) rfl rfl (Or.inr (Or.inr (Or.inl rfl))) q t rfl rfl rfl rfl,
      LoosO.mv (r := rs 3) rfl (fun w hw => by obtain ⟨N, rfl⟩ := hw; go_simp) h3.out,
      LoosO.mv (r := rs 7) rfl (fun w hw => by obtain ⟨N, rfl⟩ := hw; go_simp) h7.out, trivial⟩, ?_⟩
    rintro w9 ⟨N9, rfl⟩
    simp only [List.drop_succ_cons, List.drop_zero]
    go_wp2_with (first
      | ((with_reducible refine upon_fl (op := .mul) (x := rs 10) (by simp) ?_); intro r5 n5 k5)
      | ((with_reducible refine upon_fl (op := .quo) (y := 4611686018427387904) (by simp) ?_); intro r6 n6 k6)
      | ((with_reducible refine upon_fl (op := .mul) (by simp) ?_); intro r7 n7 k7)
      | ((with_reducible refine upon_fl (op := .quo) (by simp) ?_); intro r8 n8 k8))
    refine wp_region_sp 32 [.val (.pointer (some ⟨w.heap.size, 0, none⟩)), .val (.float .f64 x), .val (.pointer (some ⟨w.heap.size, 1, none⟩)), .val (.float .f64 v), .val (.float .f64 t), .fl (bin .mul (ab v) (ab t)), .fl (bin .add (ab x) (bin .mul (ab v) (ab t))), .val (.pointer (some ⟨w.heap.size, 1, none⟩)), .val (.float .f64 v), .val (.pointer (some ⟨w.heap.size, 2, none⟩)), .val (.float .f64 a), .val (.float .f64 (rs 11)), .fl (bin .add (ab a) (ab (rs 11))), .val (.float .f64 (rs 11)), .fl (bin .add (bin .add (ab a) (ab (rs 11))) (ab (rs 11))), .val (.float .f64 (rs 12)), .val (.float .f64 t), .fl (bin .mul (ab (rs 12)) (ab t)), .fl (bin .add (bin .add (bin .add (ab a) (ab (rs 11))) (ab (rs 11))) (bin .mul (ab (rs 12)) (ab t))), .val (.float .f64 r8), .fl (bin .add (bin .add (bin .add (bin .add (ab a) (ab (rs 11))) (ab (rs 11))) (bin .mul (ab (rs 12)) (ab t))) (ab r8)), .fl (posF (bin .add (bin .add (bin .add (bin .add (ab a) (ab (rs 11))) (ab (rs 11))) (bin .mul (ab (rs 12)) (ab t))) (ab r8))), .val (.pointer (some ⟨w.heap.size, 3, none⟩)), .val (.float .f64 b), .val (.float .f64 (rs 12)), .fl (bin .add (ab b) (ab (rs 12))), .val (.float .f64 r6), .fl (bin .add (bin .add (ab b) (ab (rs 12))) (ab r6)), .val (.pointer (some ⟨w.heap.size, 4, none⟩)), .val (.float .f64 c), .val (.float .f64 (rs 10)), .fl (bin .add (ab c) (ab (rs 10)))] (DrW _) (by kernel_rfl) (by decide) rfl (by kernel_rfl) ⟨good_bin _ _ _, good_bin _ _ _, good_bin _ _ _, good_bin _ _ _, good_bin _ _ _, good_bin _ _ _, good_bin _ _ _, good_pos (good_bin _ _ _), good_bin _ _ _, good_bin _ _ _, good_bin _ _ _, trivial⟩ (DrW.start _) ?_
    intro us hF
    obtain ⟨g5, g6, g12, g14, g17, g18, g20, g21, g25, g27, g31, _⟩ := hF
    simp only [List.take_succ_cons, List.take_zero, valsL, FillL, Act.put, List.setIfInBounds_toArray, List.set_cons_succ, List.set_cons_zero, Nat.zero_add, Nat.reduceAdd]
    refine ⟨⟨LoosO.is rfl (fun w hw => by obtain ⟨N, rfl⟩ := hw; go_simp),
      LoosO.is rfl (fun w hw => by obtain ⟨N, rfl⟩ := hw; go_simp),
      LoosO.is rfl (fun w hw => by obtain ⟨N, rfl⟩ := hw; go_simp),
      LoosO.is rfl (fun w hw => by obtain ⟨N, rfl⟩ := hw; go_simp),
      LoosO.is rfl (fun w hw => by obtain ⟨N, rfl⟩ := hw; go_simp),
      LoosO.st (DrW.on _) rfl rfl (Or.inr (Or.inr (Or.inl rfl))) v t rfl rfl rfl rfl,
      LoosO.st (DrW.on _) rfl rfl (Or.inl rfl) x (us 5) rfl rfl rfl g5.out,
      LoosO.is rfl (fun w hw => by obtain ⟨N, rfl⟩ := hw; go_simp),
      LoosO.is rfl (fun w hw => by obtain ⟨N, rfl⟩ := hw; go_simp),
      LoosO.is rfl (fun w hw => by obtain ⟨N, rfl⟩ := hw; go_simp),
      LoosO.is rfl (fun w hw => by obtain ⟨N, rfl⟩ := hw; go_simp),
      LoosO.is rfl (fun w hw => by obtain ⟨N, rfl⟩ := hw; go_simp),
      LoosO.st (DrW.on _) rfl rfl (Or.inl rfl) a (rs 11) rfl rfl rfl rfl,
      LoosO.is rfl (fun w hw => by obtain ⟨N, rfl⟩ := hw; go_simp),
      LoosO.st (DrW.on _) rfl rfl (Or.inl rfl) (us 12) (rs 11) rfl rfl g12.out rfl,
      LoosO.is rfl (fun w hw => by obtain ⟨N, rfl⟩ := hw; go_simp),
      LoosO.is rfl (fun w hw => by obtain ⟨N, rfl⟩ := hw; go_simp),
      LoosO.st (DrW.on _) rfl rfl (Or.inr (Or.inr (Or.inl rfl))) (rs 12) t rfl rfl rfl rfl,
      LoosO.st (DrW.on _) rfl rfl (Or.inl rfl) (us 14) (us 17) rfl rfl g14.out g17.out,
      LoosO.is rfl (fun w hw => by obtain ⟨N, rfl⟩ := hw; go_simp),
      LoosO.st (DrW.on _) rfl rfl (Or.inl rfl) (us 18) r8 rfl rfl g18.out rfl,
      LoosO.call (DrW.on _) rfl rfl #[.float .f64 (us 20)] (by kernel_rfl) (eg52 _) (fun w => by rw [← g20.out]; exact t52 (us 20) w),
      LoosO.is rfl (fun w hw => by obtain ⟨N, rfl⟩ := hw; go_simp),
      LoosO.is rfl (fun w hw => by obtain ⟨N, rfl⟩ := hw; go_simp),
      LoosO.is rfl (fun w hw => by obtain ⟨N, rfl⟩ := hw; go_simp),
      LoosO.st (DrW.on _) rfl rfl (Or.inl rfl) b (rs 12) rfl rfl rfl rfl,
      LoosO.is rfl (fun w hw => by obtain ⟨N, rfl⟩ := hw; go_simp),
      LoosO.st (DrW.on _) rfl rfl (Or.inl rfl) (us 25) r6 rfl rfl g25.out rfl,
      LoosO.is rfl (fun w hw => by obtain ⟨N, rfl⟩ := hw; go_simp),
      LoosO.is rfl (fun w hw => by obtain ⟨N, rfl⟩ := hw; go_simp),
      LoosO.is rfl (fun w hw => by obtain ⟨N, rfl⟩ := hw; go_simp),
      LoosO.st (DrW.on _) rfl rfl (Or.inl rfl) c (rs 10) rfl rfl rfl rfl, trivial⟩, ?_⟩
    rintro w9 ⟨N9, rfl⟩
    simp only [List.drop_succ_cons, List.drop_zero]
    go_wp2
    refine bodyPost_ret (results_cell_row Try.results26 _ _ _ 27 #[.float .f64 (us 6), .float .f64 v, .float .f64 (us 21), .float .f64 (us 27), .float .f64 (us 31)] (0, 0) _ rfl (set5 (alloc2_last _ _ _) rfl _ _ _ _ _) Try.underlying27 rfl (by kernel_rfl)) rfl ⟨us 6, v, us 21, us 27, us 31, rfl, ?_, up_set5 (Up.three _ _ _ _) (by omega) _ _ _ _ _⟩
    show _ ∧ _ ∧ _ ∧ _ ∧ _
    unfold aheadF
    rw [if_pos HG]
    simp only [g6.out, g21.out, g27.out, g31.out, h10.out, h11.out, h12.out, k5.out, k6.out, k7.out, k8.out, and_self]
end Go.Proofs.Ytcgbmcnefolgcaa
