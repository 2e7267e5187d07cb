/- The law StateStays. -/
import Derived.Test.YtdolfkgnehiecaaCa
import Derived.Test.YtdolfkgnehiecaaBa
import Derived.Test.YtdolfkgnehiecaaLq
import Derived.Deep.DeepCutAuto
namespace Go.Proofs.Ytdolfkgnehiecaa
open Go.ChangeShapes Go.WideShapes Go.ChangeAt Go.RowKit Go.Fl Ieee
attribute [local go_sem] run_store_float call28 call35 run_neg fold_eq fold_ne fold_lt fold_gt abs_eq

theorem eg14 (args : Array Value) (w : World) : (callFunc 14 args).run Try.prog w = .ok (.enter 14 args) w := enters Try.func14 (by kernel_rfl) (by kernel_rfl) _ _
theorem eg18 (args : Array Value) (w : World) : (callFunc 18 args).run Try.prog w = .ok (.enter 18 args) w := enters Try.func18 (by kernel_rfl) (by kernel_rfl) _ _
/-- Ahead by nothing, bit by bit. -/
theorem t14z {t : Nat} (x v a b c q : Nat) (HG : gtF (ab t) (ab 0) = false) (w : World) : Calls Try.prog 14 #[.agg #[.float .f64 x, .float .f64 v, .float .f64 a, .float .f64 b, .float .f64 c], .float .f64 t, .float .f64 q] w (SE w x v a b c) := by
  obtain ⟨b0, b1, b2, b3, b4⟩ := BC.new w x v a b c
  go_enter Try.func14, Try.ntmps14
  go_wp2_with (first | (go_at_call 29; (with_reducible refine (t29 _ _).mono ?_); rintro e w' ⟨rfl, rfl⟩))
  exact bodyPost_ret (results_cell_row Try.results14 _ _ _ 24 #[.float .f64 x, .float .f64 v, .float .f64 a, .float .f64 b, .float .f64 c] (0, 0) _ rfl (alloc2_last _ _ _) Try.underlying24 rfl (by kernel_rfl)) rfl ⟨rfl, Up.alloc2 _ _ _⟩
/-- Less than nothing is not above nothing. -/
theorem neg_abs_not (t : Nat) : gtF (ab (neg (abs t))) (ab 0) = false := by
  cases hN : isN t with
  | true => rw [ab_none (by rw [isN_neg, isN_abs]; exact hN)]; simp [gtF, ord]
  | false =>
    have h1 : isN (neg (abs t)) = false := by rw [isN_neg, isN_abs]; exact hN
    rw [gtF_lin h1 zero_fnt.num, lin0]
    have h2 : neg (abs t) / 2 ^ 63 % 2 = 1 := by
      have h4 : abs t < 2 ^ 63 := Nat.mod_lt _ (by decide)
      have h5 : (abs t ^^^ 2 ^ 63) >>> 63 = abs t >>> 63 ^^^ 2 ^ 63 >>> 63 := Nat.shiftRight_xor_distrib
      rw [Nat.shiftRight_eq_div_pow, Nat.shiftRight_eq_div_pow, Nat.div_eq_of_lt h4] at h5
      have h6 : neg (abs t) / 2 ^ 63 = 1 := h5
      rw [h6]
    unfold lin sgn
    rw [h2]
    simp; omega
/-- Seen where it stands: a number to which nothing is added stays. -/
theorem stay {x k y : Nat} (fx : Fnt x) (fk : Fnt k) (fy : Fnt y) : eqF (bin .add (ab y) (bin .mul (ab k) (bin .sub (ab x) (ab x)))) (ab y) = true := by
  obtain ⟨d, hd⟩ := bin_some_sub fx fx
  have v0 : val x - val x = 0 := by grind
  have hdN : isN d = false := bits_ok (op := .sub) (x := x) (y := x) hd
  have d1 := (sub_lin fx fx zero_fnt hd).1 (by rw [v0, val0]; exact Rat.le_refl)
  have d2 := (sub_lin fx fx zero_fnt hd).2 (by rw [v0, val0]; exact Rat.le_refl)
  rw [lin0] at d1 d2
  have fd : Fnt d := by
    unfold Fnt
    unfold lin sgn at d1 d2
    split at d1
    · rename_i q; rw [if_pos q] at d2; omega
    · omega
  have vd : val d = 0 := by
    have h1 := (val_le_lin fd zero_fnt).2 (by rw [lin0]; exact d1)
    have h2 := (val_le_lin zero_fnt fd).2 (by rw [lin0]; exact d2)
    rw [val0] at h1 h2
    grind
  obtain ⟨m, hm⟩ := bin_some_mul fk fd
  have vz : val k * val d = 0 := by rw [vd, Rat.mul_zero]
  have m1 := (mul_lin fk fd zero_fnt hm).1 (by rw [vz, val0]; exact Rat.le_refl)
  have m2 := (mul_lin fk fd zero_fnt hm).2 (by rw [vz, val0]; exact Rat.le_refl)
  rw [lin0] at m1 m2
  have fm : Fnt m := by
    unfold Fnt
    unfold lin sgn at m1 m2
    split at m1
    · rename_i q; rw [if_pos q] at m2; omega
    · omega
  have vm : val m = 0 := by
    have h1 := (val_le_lin fm zero_fnt).2 (by rw [lin0]; exact m1)
    have h2 := (val_le_lin zero_fnt fm).2 (by rw [lin0]; exact m2)
    rw [val0] at h1 h2
    grind
  obtain ⟨r, hr⟩ := bin_some_add fy fm
  have hrN : isN r = false := bits_ok (op := .add) (x := y) (y := m) hr
  have vs : val y + val m = val y := by rw [vm, Rat.add_zero]
  have r1 := (add_lin fy fm fy hr).1 (by rw [vs]; exact Rat.le_refl)
  have r2 := (add_lin fy fm fy hr).2 (by rw [vs]; exact Rat.le_refl)
  rw [Fnt.ab fx, hd, Fnt.ab fk, hm, Fnt.ab fy, hr, ← ab_some hrN, ← Fnt.ab fy, eqF_lin hrN fy.num]
  simp; omega
theorem seen_stay {x v a b c n rw rk rh : Nat} (h1 : fin (ab x) = true) (h2 : fin (ab v) = true) (h3 : gtF (ab rw) (ab 0) = true) (h4 : fin (ab rk) = true) (h5 : fin (ab rh) = true) (kw : ab rw = bin .add (ab a) (ab n)) (kk : ab rk = bin .quo (ab a) (ab rw)) (kh : ab rh = bin .quo (ab b) (ab rw)) :
    eqF (seenF ⟨ab x, ab v, ab a, ab b, ab c⟩ (ab x) (ab n)).x (ab x) = true ∧ eqF (seenF ⟨ab x, ab v, ab a, ab b, ab c⟩ (ab x) (ab n)).v (ab v) = true := by
  unfold seenF widF
  simp only
  rw [← kw, h3, if_pos rfl, ← kk, ← kh]
  exact ⟨stay (fin_iff h1) (fin_iff h4) (fin_iff h1), stay (fin_iff h1) (fin_iff h5) (fin_iff h2)⟩
theorem cells3 (w : World) (p n t : Nat) : (w.alloc (.cells #[.float .f64 p, .float .f64 n, .float .f64 t] 22)).cell? ⟨w.heap.size, 0, none⟩ = some (.float .f64 p) ∧ (w.alloc (.cells #[.float .f64 p, .float .f64 n, .float .f64 t] 22)).cell? ⟨w.heap.size, 1, none⟩ = some (.float .f64 n) ∧ (w.alloc (.cells #[.float .f64 p, .float .f64 n, .float .f64 t] 22)).cell? ⟨w.heap.size, 2, none⟩ = some (.float .f64 t) := by
  have e := heap_alloc_last w (.cells #[.float .f64 p, .float .f64 n, .float .f64 t] 22)
  refine ⟨?_, ?_, ?_⟩ <;> (unfold World.cell?; simp only [e]; rfl)
set_option maxHeartbeats 4000000 in
set_option maxRecDepth 100000 in
theorem t6 (x v a b c n q t : Nat) (w : World) : Calls Try.prog 6 #[.agg #[.float .f64 x, .float .f64 v, .float .f64 a, .float .f64 b, .float .f64 c], .agg #[.float .f64 n, .float .f64 q, .float .f64 t]] w (TU w) := by
  obtain ⟨b0, b1, b2, b3, b4⟩ := BC.new w x v a b c
  go_enter Try.func6, Try.ntmps6
  go_wp2
  refine wp_region_sp 8 [.val (.pointer (some ⟨w.heap.size + 1, 0, none⟩)), .val (.float .f64 n), .val (.pointer (some ⟨w.heap.size + 1, 1, none⟩)), .val (.float .f64 q), .val (.pointer (some ⟨w.heap.size + 1, 2, none⟩)), .val (.float .f64 t), .val (.float .f64 n), .val (.float .f64 q)] (DrW _) (by kernel_rfl) (by decide) rfl (by kernel_rfl) trivial (DrW.start _) ?_
  intro rs hF
  clear hF
  simp only [List.take_succ_cons, List.take_zero, valsL, FillL, Act.put, List.setIfInBounds_toArray, List.set_cons_succ, List.set_cons_zero]
  refine ⟨⟨LoosO.is rfl (fun w hw => by obtain ⟨N, rfl⟩ := hw; go_simp),
    LoosO.is rfl (fun w hw => by obtain ⟨N, rfl⟩ := hw; go_simp),
    LoosO.is rfl (fun w hw => by obtain ⟨N, rfl⟩ := hw; go_simp),
    LoosO.is rfl (fun w hw => by obtain ⟨N, rfl⟩ := hw; go_simp),
    LoosO.is rfl (fun w hw => by obtain ⟨N, rfl⟩ := hw; go_simp),
    LoosO.is rfl (fun w hw => by obtain ⟨N, rfl⟩ := hw; go_simp),
    LoosO.is rfl (fun w hw => by obtain ⟨N, rfl⟩ := hw; go_simp),
    LoosO.is rfl (fun w hw => by obtain ⟨N, rfl⟩ := hw; go_simp), trivial⟩, ?_⟩
  rintro w9 ⟨N9, rfl⟩
  simp only [List.drop_succ_cons, List.drop_zero]
  clear b0 b1 b2 b3 b4
  have HB : Hid (BC (((w.alloc (.cells #[.float .f64 x, .float .f64 v, .float .f64 a, .float .f64 b, .float .f64 c] 24)).alloc (.cells #[.float .f64 n, .float .f64 q, .float .f64 t] 40)).drew.drewN N9) w.heap.size x v a b c) := (BC.new w x v a b c).up (((Up.alloc _ _).trans (Up.drew _)).dr _)
  have HU : Hid (Up w (((w.alloc (.cells #[.float .f64 x, .float .f64 v, .float .f64 a, .float .f64 b, .float .f64 c] 24)).alloc (.cells #[.float .f64 n, .float .f64 q, .float .f64 t] 40)).drew.drewN N9)) := ((Up.alloc2 _ _ _).trans (Up.drew _)).dr _
  have HR0 : (((w.alloc (.cells #[.float .f64 x, .float .f64 v, .float .f64 a, .float .f64 b, .float .f64 c] 24)).alloc (.cells #[.float .f64 n, .float .f64 q, .float .f64 t] 40)).drew.drewN N9).heap[w.heap.size]? = some (.cells #[.float .f64 x, .float .f64 v, .float .f64 a, .float .f64 b, .float .f64 c] 24) := by
    rw [RowKit.Below.block (((Up.alloc _ _).trans (Up.drew _)).dr N9) _ (by simp)]
    exact heap_alloc_last _ _
  generalize ((w.alloc (.cells #[.float .f64 x, .float .f64 v, .float .f64 a, .float .f64 b, .float .f64 c] 24)).alloc (.cells #[.float .f64 n, .float .f64 q, .float .f64 t] 40)).drew.drewN N9 = W at *
  generalize hg : w.heap.size = g at *
  clear hg
  have HR : Hid (W.heap[g]? = some (.cells #[.float .f64 x, .float .f64 v, .float .f64 a, .float .f64 b, .float .f64 c] 24)) := HR0
  clear HR0
  go_wp2_with (first
    | (go_at_call 24; (with_reducible refine (t24 _ _).mono ?_); rintro e w' ⟨rfl, hw⟩; subst w')
    | (go_at_call 25; (with_reducible refine (t25 _).mono ?_); rintro e w' ⟨rfl, hw⟩; subst w'))
  obtain ⟨c0, c1, c2⟩ := cells3 W 0 (neg (abs t)) 9221120237041090561
  have HB1 : Hid (BC (W.alloc (.cells #[.float .f64 0, .float .f64 (neg (abs t)), .float .f64 9221120237041090561] 22)) g x v a b c) := HB.out.up (Up.alloc _ _)
  have HR1 : Hid ((W.alloc (.cells #[.float .f64 0, .float .f64 (neg (abs t)), .float .f64 9221120237041090561] 22)).heap[g]? = some (.cells #[.float .f64 x, .float .f64 v, .float .f64 a, .float .f64 b, .float .f64 c] 24)) := by
    have hl : g < W.heap.size := World.block_lt_of_cell? W _ HB.out.c0
    exact (RowKit.Below.block (Up.alloc W (.cells #[.float .f64 0, .float .f64 (neg (abs t)), .float .f64 9221120237041090561] 22)) g hl).trans HR.out
  have HU1 : Hid (Up w (W.alloc (.cells #[.float .f64 0, .float .f64 (neg (abs t)), .float .f64 9221120237041090561] 22))) := HU.out.al _
  clear HB HR HU
  generalize W.alloc (.cells #[.float .f64 0, .float .f64 (neg (abs t)), .float .f64 9221120237041090561] 22) = W1 at *
  generalize W.heap.size = h at *
  go_loopw [9] (fun i wr => ∃ k : Nat, (k = 0 ∨ k = 1 ∨ k = 2 ∨ k = 3) ∧ i = .int .i64 k ∧ Hid (Up W1 wr)) (fun i _ => 3 - (intOf i).toNat)
  case atStart => exact ⟨0, by omega, rfl, Up.refl _⟩
  case round =>
    obtain ⟨k, hk, rfl, HT⟩ := hrel
    have HRr : Hid (∀ w, Up wr.drew w → w.heap[g]? = some (.cells #[.float .f64 x, .float .f64 v, .float .f64 a, .float .f64 b, .float .f64 c] 24)) := fun w hw => by
      have hl : g < W1.heap.size := World.block_lt_of_cell? W1 _ HB1.out.c0
      exact (RowKit.Below.block ((HT.out.trans (Up.drew _)).trans hw) g hl).trans HR1.out
    rcases hk with rfl | rfl | rfl | rfl
    · have hk0 := up_cell HT.out c0
      go_upto_region 6 with fail
      refine wp_region_sp 9 [.val (.agg #[.float .f64 x, .float .f64 v, .float .f64 a, .float .f64 b, .float .f64 c]), .val (.slice (some ⟨h, 0, none⟩) 3 3), .val (.int .i64 0), .val (.pointer (some ⟨h, 0, none⟩)), .val (.float .f64 0), .val (.float .f64 q), .val (.agg #[.float .f64 x, .float .f64 v, .float .f64 a, .float .f64 b, .float .f64 c]), .val (.agg #[.float .f64 x, .float .f64 v, .float .f64 a, .float .f64 b, .float .f64 c]), .val (.bool true)] (UpC _) (by kernel_rfl) (by decide) rfl (by kernel_rfl) trivial (UpC.start _) ?_
      intro rs hF
      clear hF
      simp only [List.take_succ_cons, List.take_zero, valsL, FillL, Act.put, List.setIfInBounds_toArray, List.set_cons_succ, List.set_cons_zero]
      refine ⟨⟨LoosO.row (by kernel_rfl) rfl rfl rfl (fun w hw => HRr.out w hw),
        LoosO.is rfl (fun w hw => by go_simp),
        LoosO.is rfl (fun w hw => by go_simp),
        LoosO.is rfl (fun w hw => by go_simp),
        LoosO.is rfl (fun w hw => by have z := up_cell hw (up_cell (Up.drew _) hk0); go_simp),
        LoosO.is rfl (fun w hw => by go_simp),
        LoosO.callV (by kernel_rfl) rfl #[.agg #[.float .f64 x, .float .f64 v, .float .f64 a, .float .f64 b, .float .f64 c], .float .f64 0, .float .f64 q] (by kernel_rfl) (eg14 _) (fun w hw => (t14z x v a b c q (by decide +kernel) w).mono fun _ _ h => ⟨h.1, UpC.then hw h.2.out⟩),
        LoosO.row (by kernel_rfl) rfl rfl rfl (fun w hw => HRr.out w hw),
        LoosO.callV (by kernel_rfl) rfl #[.agg #[.float .f64 x, .float .f64 v, .float .f64 a, .float .f64 b, .float .f64 c], .agg #[.float .f64 x, .float .f64 v, .float .f64 a, .float .f64 b, .float .f64 c]] (by kernel_rfl) (eg18 _) (fun w hw => (t18s x v a b c w).mono fun _ _ h => ⟨h.1, UpC.then hw h.2.out⟩), trivial⟩, ?_⟩
      intro w9 hw9
      simp only [List.drop_succ_cons, List.drop_zero]
      have HT9 : Hid (Up W1 w9) := (HT.out.trans (Up.drew _)).trans hw9
      clear hw9
      go_wp2
      go_roundw
      case rel => exact ⟨1, by omega, rfl, HT9⟩
      case measure => simp [intOf]
    · have hk1 := up_cell HT.out c1
      go_upto_region 6 with fail
      refine wp_region_sp 9 [.val (.agg #[.float .f64 x, .float .f64 v, .float .f64 a, .float .f64 b, .float .f64 c]), .val (.slice (some ⟨h, 0, none⟩) 3 3), .val (.int .i64 1), .val (.pointer (some ⟨h, 1, none⟩)), .val (.float .f64 (neg (abs t))), .val (.float .f64 q), .val (.agg #[.float .f64 x, .float .f64 v, .float .f64 a, .float .f64 b, .float .f64 c]), .val (.agg #[.float .f64 x, .float .f64 v, .float .f64 a, .float .f64 b, .float .f64 c]), .val (.bool true)] (UpC _) (by kernel_rfl) (by decide) rfl (by kernel_rfl) trivial (UpC.start _) ?_
      intro rs hF
      clear hF
      simp only [List.take_succ_cons, List.take_zero, valsL, FillL, Act.put, List.setIfInBounds_toArray, List.set_cons_succ, List.set_cons_zero]
      refine ⟨⟨LoosO.row (by kernel_rfl) rfl rfl rfl (fun w hw => HRr.out w hw),
        LoosO.is rfl (fun w hw => by go_simp),
        LoosO.is rfl (fun w hw => by go_simp),
        LoosO.is rfl (fun w hw => by go_simp),
        LoosO.is rfl (fun w hw => by have z := up_cell hw (up_cell (Up.drew _) hk1); go_simp),
        LoosO.is rfl (fun w hw => by go_simp),
        LoosO.callV (by kernel_rfl) rfl #[.agg #[.float .f64 x, .float .f64 v, .float .f64 a, .float .f64 b, .float .f64 c], .float .f64 (neg (abs t)), .float .f64 q] (by kernel_rfl) (eg14 _) (fun w hw => (t14z x v a b c q (neg_abs_not t) w).mono fun _ _ h => ⟨h.1, UpC.then hw h.2.out⟩),
        LoosO.row (by kernel_rfl) rfl rfl rfl (fun w hw => HRr.out w hw),
        LoosO.callV (by kernel_rfl) rfl #[.agg #[.float .f64 x, .float .f64 v, .float .f64 a, .float .f64 b, .float .f64 c], .agg #[.float .f64 x, .float .f64 v, .float .f64 a, .float .f64 b, .float .f64 c]] (by kernel_rfl) (eg18 _) (fun w hw => (t18s x v a b c w).mono fun _ _ h => ⟨h.1, UpC.then hw h.2.out⟩), trivial⟩, ?_⟩
      intro w9 hw9
      simp only [List.drop_succ_cons, List.drop_zero]
      have HT9 : Hid (Up W1 w9) := (HT.out.trans (Up.drew _)).trans hw9
      clear hw9
      go_wp2
      go_roundw
      case rel => exact ⟨2, by omega, rfl, HT9⟩
      case measure => simp [intOf]
    · have hk2 := up_cell HT.out c2
      go_upto_region 6 with fail
      refine wp_region_sp 9 [.val (.agg #[.float .f64 x, .float .f64 v, .float .f64 a, .float .f64 b, .float .f64 c]), .val (.slice (some ⟨h, 0, none⟩) 3 3), .val (.int .i64 2), .val (.pointer (some ⟨h, 2, none⟩)), .val (.float .f64 9221120237041090561), .val (.float .f64 q), .val (.agg #[.float .f64 x, .float .f64 v, .float .f64 a, .float .f64 b, .float .f64 c]), .val (.agg #[.float .f64 x, .float .f64 v, .float .f64 a, .float .f64 b, .float .f64 c]), .val (.bool true)] (UpC _) (by kernel_rfl) (by decide) rfl (by kernel_rfl) trivial (UpC.start _) ?_
      intro rs hF
      clear hF
      simp only [List.take_succ_cons, List.take_zero, valsL, FillL, Act.put, List.setIfInBounds_toArray, List.set_cons_succ, List.set_cons_zero]
      refine ⟨⟨LoosO.row (by kernel_rfl) rfl rfl rfl (fun w hw => HRr.out w hw),
        LoosO.is rfl (fun w hw => by go_simp),
        LoosO.is rfl (fun w hw => by go_simp),
        LoosO.is rfl (fun w hw => by go_simp),
        LoosO.is rfl (fun w hw => by have z := up_cell hw (up_cell (Up.drew _) hk2); go_simp),
        LoosO.is rfl (fun w hw => by go_simp),
        LoosO.callV (by kernel_rfl) rfl #[.agg #[.float .f64 x, .float .f64 v, .float .f64 a, .float .f64 b, .float .f64 c], .float .f64 9221120237041090561, .float .f64 q] (by kernel_rfl) (eg14 _) (fun w hw => (t14z x v a b c q (by decide +kernel) w).mono fun _ _ h => ⟨h.1, UpC.then hw h.2.out⟩),
        LoosO.row (by kernel_rfl) rfl rfl rfl (fun w hw => HRr.out w hw),
        LoosO.callV (by kernel_rfl) rfl #[.agg #[.float .f64 x, .float .f64 v, .float .f64 a, .float .f64 b, .float .f64 c], .agg #[.float .f64 x, .float .f64 v, .float .f64 a, .float .f64 b, .float .f64 c]] (by kernel_rfl) (eg18 _) (fun w hw => (t18s x v a b c w).mono fun _ _ h => ⟨h.1, UpC.then hw h.2.out⟩), trivial⟩, ?_⟩
      intro w9 hw9
      simp only [List.drop_succ_cons, List.drop_zero]
      have HT9 : Hid (Up W1 w9) := (HT.out.trans (Up.drew _)).trans hw9
      clear hw9
      go_wp2
      go_roundw
      case rel => exact ⟨3, by omega, rfl, HT9⟩
      case measure => simp [intOf]
    · have HB2 : Hid (BC wr g x v a b c) := HB1.out.up HT.out
      have HU2 : Hid (Up w wr) := HU1.out.trans HT.out
      clear HRr HB1 HU1 HT HR1 c0 c1 c2
      obtain ⟨f0, f1, f2, f3, f4⟩ := HB2.out
      go_upto_region 11 with (first
        | ((with_reducible refine upon_fl (op := .add) (by simp) ?_); intro rw nw kw)
        | ((with_reducible refine upon_fl (op := .quo) (x := a) (by simp) ?_); intro rk nk kk)
        | ((with_reducible refine upon_fl (op := .quo) (x := b) (by simp) ?_); intro rh nh kh))
      have HB3 : Hid (BC (wr.drewN (nw + nk + nh)) g x v a b c) := HB2.out.up (Up.drewN _ _)
      have HU3 : Hid (Up w (wr.drewN (nw + nk + nh))) := HU2.out.dr _
      clear HB2 HU2 f0 f1 f2 f3 f4
      generalize wr.drewN (nw + nk + nh) = W3 at *
      obtain ⟨f0, f1, f2, f3, f4⟩ := HB3.out
      go_cut [82] (fun v82 wx => v82 = .bool (!(fin (ab x) && fin (ab v) && gtF (ab rw) (ab 0) && fin (ab rk) && fin (ab rh) && fin (ab n))) ∧ wx = W3)
      case first =>
       as_aux_lemma =>
        go_wp2_with (go_at_call 22; (with_reducible refine (t22 _ _).mono ?_); rintro e w' ⟨rfl, rfl⟩)
        all_goals go_meet
        all_goals exact ⟨by simp_all, rfl⟩
      case rest =>
      obtain ⟨rfl, hw⟩ := hcut
      subst hw
      rename World => W3
      cases HK : (fin (ab x) && fin (ab v) && gtF (ab rw) (ab 0) && fin (ab rk) && fin (ab rh) && fin (ab n))
      · go_wp2_with (go_at_call 19; (with_reducible refine (t19 _).mono ?_); rintro e w5 ⟨rfl, u5⟩)
        go_ret
        exact ⟨rfl, HU3.out.trans u5.out⟩
      · simp only [Bool.and_eq_true] at HK
        obtain ⟨⟨⟨⟨⟨k1, k2⟩, k3⟩, k4⟩, k5⟩, k6⟩ := HK
        have HS := seen_stay (v := v) (c := c) k1 k2 k3 k4 k5 kw.out kk.out kh.out
        go_wp2_with (first
          | (go_at_call 16; (with_reducible refine (t16 _ _ _ _ _ _ _ _).mono ?_); rintro e w2 ⟨x2, v2, a2, c2, d2, rfl, hs, u2⟩; obtain ⟨e1, e2, _, _, _⟩ := hs.out; rw [← e1, ← e2] at HS; clear e1 e2; obtain ⟨s1, s2⟩ := HS; replace f0 := up_cell u2.out f0; replace f1 := up_cell u2.out f1; have l2 := World.block_lt_of_cell? w2 _ f0; obtain ⟨m0, m1, m2, m3, m4⟩ := BC.new w2 x2 v2 a2 c2 d2)
          | (go_at_call 19; (with_reducible refine (t19 _).mono ?_); rintro e w5 ⟨rfl, u5⟩))
        go_ret
        exact ⟨rfl, ((HU3.out.trans u2.out).al _).trans u5.out⟩
end Go.Proofs.Ytdolfkgnehiecaa
