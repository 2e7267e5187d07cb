/- Seen, the program's. -/
import Derived.Test.YtcgbmcnefolgcaaAa
namespace Go.Proofs.Ytcgbmcnefolgcaa
open Go.ChangeShapes Go.WideShapes Go.ChangeAt Go.RowKit Go.Fl Ieee
attribute [local go_sem] run_store_float call22 call54 run_neg fold_eq fold_ne fold_lt fold_gt abs_eq

/-- How sure both are together. -/
def widF (s : S5) (n : Option Nat) : Option Nat := bin .add s.a n
def seenF (s : S5) (p n : Option Nat) : S5 :=
  if gtF (widF s n) (ab 0) = true then
    let y := bin .sub p s.x
    let k := bin .quo s.a (widF s n)
    let h := bin .quo s.b (widF s n)
    ⟨bin .add s.x (bin .mul k y), bin .add s.v (bin .mul h y), lesF s.a (bin .mul k n), bin .mul h n, posF (bin .sub s.c (bin .mul h s.b))⟩
  else s
set_option maxHeartbeats 2000000 in
theorem t27 (x v a b c p q : Nat) (w : World) : Calls Try.prog 27 #[.agg #[.float .f64 x, .float .f64 v, .float .f64 a, .float .f64 b, .float .f64 c], .float .f64 p, .float .f64 q] w (SR w (seenF ⟨ab x, ab v, ab a, ab b, ab c⟩ (ab p) (ab q))) := by
  have HB := BC.new w x v a b c
  obtain ⟨b0, b1, b2, b3, b4⟩ := HB
  cases HG : gtF (bin .add (ab a) (ab q)) (ab 0) with
  | false =>
    have HK : Hid (seenF ⟨ab x, ab v, ab a, ab b, ab c⟩ (ab p) (ab q) = ⟨ab x, ab v, ab a, ab b, ab c⟩) := by show _ = _; unfold seenF widF; rw [if_neg (by simp [HG])]
    go_enter Try.func27, Try.ntmps27
    go_wp2_with (first
      | ((with_reducible refine upon_fl (op := .add) (by simp) ?_); intro rw nw kw)
      | (go_at_call 51; (with_reducible refine (t51 _ _).mono ?_); rintro e w' ⟨rfl, rfl⟩; rw [kw.out, HG]))
    exact bodyPost_ret (results_cell_row Try.results27 _ _ _ 27 #[.float .f64 x, .float .f64 v, .float .f64 a, .float .f64 b, .float .f64 c] (0, 0) _ rfl (set5 (alloc2_last _ _ _) rfl _ _ _ _ _) Try.underlying27 rfl (by kernel_rfl)) rfl ⟨x, v, a, b, c, rfl, by rw [HK.out]; exact ⟨rfl, rfl, rfl, rfl, rfl⟩, up_set5 (Up.three _ _ _ _) (by omega) _ _ _ _ _⟩
  | true =>
    go_enter Try.func27, Try.ntmps27
    go_wp2_with (first
      | ((with_reducible refine upon_fl (op := .add) (by simp) ?_); intro rw nw kw)
      | (go_at_call 51; (with_reducible refine (t51 _ _).mono ?_); rintro e w' ⟨rfl, rfl⟩; rw [kw.out, HG]))
    refine wp_region_sp 14 [.val (.float .f64 p), .val (.pointer (some ⟨w.heap.size, 0, none⟩)), .val (.float .f64 x), .fl (bin .sub (ab p) (ab x)), .val (.pointer (some ⟨w.heap.size, 2, none⟩)), .val (.float .f64 a), .val (.float .f64 rw), .fl (bin .quo (ab a) (ab rw)), .val (.pointer (some ⟨w.heap.size, 3, none⟩)), .val (.float .f64 b), .val (.float .f64 rw), .fl (bin .quo (ab b) (ab rw)), .fl (bin .sub (ab p) (ab x)), .fl (bin .quo (ab a) (ab rw))] (DrW _) (by kernel_rfl) (by decide) rfl (by kernel_rfl) ⟨good_bin _ _ _, good_bin _ _ _, good_bin _ _ _, good_bin _ _ _, good_bin _ _ _, trivial⟩ (DrW.start _) ?_
    intro rs hF
    obtain ⟨h3, h7, h11, h12, h13, _⟩ := hF
    simp only [List.take_succ_cons, List.take_zero, valsL, FillL, Act.put, List.setIfInBounds_toArray, List.set_cons_succ, List.set_cons_zero, Nat.zero_add, Nat.reduceAdd]
    refine ⟨⟨LoosO.is rfl (fun w hw => by obtain ⟨N, rfl⟩ := hw; go_simp),
      LoosO.is rfl (fun w hw => by obtain ⟨N, rfl⟩ := hw; go_simp),
      LoosO.is rfl (fun w hw => by obtain ⟨N, rfl⟩ := hw; go_simp),
      LoosO.st (DrW.on _) rfl rfl (Or.inr (Or.inl rfl)) p x rfl rfl rfl rfl,
      LoosO.is rfl (fun w hw => by obtain ⟨N, rfl⟩ := hw; go_simp),
      LoosO.is rfl (fun w hw => by obtain ⟨N, rfl⟩ := hw; go_simp),
      LoosO.is rfl (fun w hw => by obtain ⟨N, rfl⟩ := hw; go_simp),
      LoosO.st (DrW.on _) rfl rfl (Or.inr (Or.inr (Or.inr rfl))) a rw rfl rfl rfl rfl,
      LoosO.is rfl (fun w hw => by obtain ⟨N, rfl⟩ := hw; go_simp),
      LoosO.is rfl (fun w hw => by obtain ⟨N, rfl⟩ := hw; go_simp),
      LoosO.is rfl (fun w hw => by obtain ⟨N, rfl⟩ := hw; go_simp),
      LoosO.st (DrW.on _) rfl rfl (Or.inr (Or.inr (Or.inr rfl))) b rw rfl rfl rfl rfl,
      LoosO.mv (r := rs 3) rfl (fun w hw => by obtain ⟨N, rfl⟩ := hw; go_simp) h3.out,
      LoosO.mv (r := rs 7) rfl (fun w hw => by obtain ⟨N, rfl⟩ := hw; go_simp) h7.out, trivial⟩, ?_⟩
    rintro w9 ⟨N9, rfl⟩
    simp only [List.drop_succ_cons, List.drop_zero]
    go_wp2
    refine wp_region_sp 29 [.val (.pointer (some ⟨w.heap.size, 0, none⟩)), .val (.float .f64 x), .val (.float .f64 (rs 13)), .val (.float .f64 (rs 12)), .fl (bin .mul (ab (rs 13)) (ab (rs 12))), .fl (bin .add (ab x) (bin .mul (ab (rs 13)) (ab (rs 12)))), .val (.pointer (some ⟨w.heap.size, 1, none⟩)), .val (.float .f64 v), .val (.float .f64 (rs 11)), .val (.float .f64 (rs 12)), .fl (bin .mul (ab (rs 11)) (ab (rs 12))), .fl (bin .add (ab v) (bin .mul (ab (rs 11)) (ab (rs 12)))), .val (.pointer (some ⟨w.heap.size, 2, none⟩)), .val (.float .f64 a), .val (.float .f64 (rs 13)), .val (.float .f64 q), .fl (bin .mul (ab (rs 13)) (ab q)), .fl (lesF (ab a) (bin .mul (ab (rs 13)) (ab q))), .val (.float .f64 (rs 11)), .val (.float .f64 q), .fl (bin .mul (ab (rs 11)) (ab q)), .val (.pointer (some ⟨w.heap.size, 4, none⟩)), .val (.float .f64 c), .val (.float .f64 (rs 11)), .val (.pointer (some ⟨w.heap.size, 3, none⟩)), .val (.float .f64 b), .fl (bin .mul (ab (rs 11)) (ab b)), .fl (bin .sub (ab c) (bin .mul (ab (rs 11)) (ab b))), .fl (posF (bin .sub (ab c) (bin .mul (ab (rs 11)) (ab b))))] (DrW _) (by kernel_rfl) (by decide) rfl (by kernel_rfl) ⟨good_bin _ _ _, good_bin _ _ _, good_bin _ _ _, good_bin _ _ _, good_bin _ _ _, good_les (good_ab _) (good_bin _ _ _), good_bin _ _ _, good_bin _ _ _, good_bin _ _ _, good_pos (good_bin _ _ _), trivial⟩ (DrW.start _) ?_
    intro us hF
    obtain ⟨g4, g5, g10, g11, g16, g17, g20, g26, g27, g28, _⟩ := hF
    simp only [List.take_succ_cons, List.take_zero, valsL, FillL, Act.put, List.setIfInBounds_toArray, List.set_cons_succ, List.set_cons_zero, Nat.zero_add, Nat.reduceAdd]
    refine ⟨⟨LoosO.is rfl (fun w hw => by obtain ⟨N, rfl⟩ := hw; go_simp),
      LoosO.is rfl (fun w hw => by obtain ⟨N, rfl⟩ := hw; go_simp),
      LoosO.is rfl (fun w hw => by obtain ⟨N, rfl⟩ := hw; go_simp),
      LoosO.is rfl (fun w hw => by obtain ⟨N, rfl⟩ := hw; go_simp),
      LoosO.st (DrW.on _) rfl rfl (Or.inr (Or.inr (Or.inl rfl))) (rs 13) (rs 12) rfl rfl rfl rfl,
      LoosO.st (DrW.on _) rfl rfl (Or.inl rfl) x (us 4) rfl rfl rfl g4.out,
      LoosO.is rfl (fun w hw => by obtain ⟨N, rfl⟩ := hw; go_simp),
      LoosO.is rfl (fun w hw => by obtain ⟨N, rfl⟩ := hw; go_simp),
      LoosO.is rfl (fun w hw => by obtain ⟨N, rfl⟩ := hw; go_simp),
      LoosO.is rfl (fun w hw => by obtain ⟨N, rfl⟩ := hw; go_simp),
      LoosO.st (DrW.on _) rfl rfl (Or.inr (Or.inr (Or.inl rfl))) (rs 11) (rs 12) rfl rfl rfl rfl,
      LoosO.st (DrW.on _) rfl rfl (Or.inl rfl) v (us 10) rfl rfl rfl g10.out,
      LoosO.is rfl (fun w hw => by obtain ⟨N, rfl⟩ := hw; go_simp),
      LoosO.is rfl (fun w hw => by obtain ⟨N, rfl⟩ := hw; go_simp),
      LoosO.is rfl (fun w hw => by obtain ⟨N, rfl⟩ := hw; go_simp),
      LoosO.is rfl (fun w hw => by obtain ⟨N, rfl⟩ := hw; go_simp),
      LoosO.st (DrW.on _) rfl rfl (Or.inr (Or.inr (Or.inl rfl))) (rs 13) q rfl rfl rfl rfl,
      LoosO.call (DrW.on _) rfl rfl #[.float .f64 a, .float .f64 (us 16)] (by kernel_rfl) (eg53 _) (fun w => by rw [← g16.out]; exact t53 a (us 16) w),
      LoosO.is rfl (fun w hw => by obtain ⟨N, rfl⟩ := hw; go_simp),
      LoosO.is rfl (fun w hw => by obtain ⟨N, rfl⟩ := hw; go_simp),
      LoosO.st (DrW.on _) rfl rfl (Or.inr (Or.inr (Or.inl rfl))) (rs 11) q rfl rfl rfl rfl,
      LoosO.is rfl (fun w hw => by obtain ⟨N, rfl⟩ := hw; go_simp),
      LoosO.is rfl (fun w hw => by obtain ⟨N, rfl⟩ := hw; go_simp),
      LoosO.is rfl (fun w hw => by obtain ⟨N, rfl⟩ := hw; go_simp),
      LoosO.is rfl (fun w hw => by obtain ⟨N, rfl⟩ := hw; go_simp),
      LoosO.is rfl (fun w hw => by obtain ⟨N, rfl⟩ := hw; go_simp),
      LoosO.st (DrW.on _) rfl rfl (Or.inr (Or.inr (Or.inl rfl))) (rs 11) b rfl rfl rfl rfl,
      LoosO.st (DrW.on _) rfl rfl (Or.inr (Or.inl rfl)) c (us 26) rfl rfl rfl g26.out,
      LoosO.call (DrW.on _) rfl rfl #[.float .f64 (us 27)] (by kernel_rfl) (eg52 _) (fun w => by rw [← g27.out]; exact t52 (us 27) w), trivial⟩, ?_⟩
    rintro w9 ⟨N9, rfl⟩
    simp only [List.drop_succ_cons, List.drop_zero]
    go_wp2
    refine bodyPost_ret (results_cell_row Try.results27 _ _ _ 27 #[.float .f64 (us 5), .float .f64 (us 11), .float .f64 (us 17), .float .f64 (us 20), .float .f64 (us 28)] (0, 0) _ rfl (set5 (alloc2_last _ _ _) rfl _ _ _ _ _) Try.underlying27 rfl (by kernel_rfl)) rfl ⟨us 5, us 11, us 17, us 20, us 28, rfl, ?_, up_set5 (Up.three _ _ _ _) (by omega) _ _ _ _ _⟩
    show _ ∧ _ ∧ _ ∧ _ ∧ _
    unfold seenF widF
    rw [if_pos HG]
    simp only [g5.out, g11.out, g17.out, g20.out, g28.out, h11.out, h12.out, h13.out, kw.out, and_self]
end Go.Proofs.Ytcgbmcnefolgcaa
