/- within, and the law StateSure. -/
import Derived.Test.YtdolfkgnehiecaaHh
import Derived.Test.YtdolfkgnehiecaaGa
import Derived.Test.YtdolfkgnehiecaaLq
import Derived.Deep.DeepCutAuto
namespace Go.Proofs.Ytdolfkgnehiecaa
open Go.ChangeShapes Go.WideShapes Go.ChangeAt Go.RowKit Go.Fl Ieee
attribute [local go_sem] run_store_float call28 call35 run_neg fold_eq fold_ne fold_lt fold_gt abs_eq

theorem lin_big {x : Nat} (h : ¬ Fnt x) : 0x7ff0000000000000 ≤ lin x ∨ lin x ≤ -0x7ff0000000000000 := by
  have h' : ¬ x % 2 ^ 63 < 0x7ff0000000000000 := h
  unfold lin sgn
  split <;> omega
/-- Is a number from 2^-k to 2^k? -/
def wB (x : Nat) (k : Int) : Bool := decide (x % 2 ^ 63 < 0x7ff0000000000000) && (decide (pw (-k) ≤ val x) && decide (val x ≤ pw k))
theorem wB_parts {x : Nat} {k : Int} (h : wB x k = true) : Fnt x ∧ pw (-k) ≤ val x ∧ val x ≤ pw k := by
  simp only [wB, Bool.and_eq_true, decide_eq_true_eq] at h
  exact ⟨h.1, h.2.1, h.2.2⟩
theorem wB_is {x r1 r2 : Nat} {k : Int} (f1 : Fnt r1) (v1 : val r1 = pw (-k)) (f2 : Fnt r2) (v2 : val r2 = pw k) : (geF (ab x) (ab r1) && leF (ab x) (ab r2)) = wB x k := by
  cases hN : isN x with
  | true =>
    have h1 : ¬ x % 2 ^ 63 < 0x7ff0000000000000 := fun h => by
      have : Fnt x := h
      rw [this.num] at hN; cases hN
    rw [ab_none hN]
    simp [geF, gtF, eqF, ord, wB, h1]
  | false =>
    rw [geF_lin hN f1.num, leF_lin hN f2.num]
    have l1 := lin_fnt f1
    have l2 := lin_fnt f2
    by_cases hf : Fnt x
    · have e1 := val_le_lin f1 hf
      have e2 := val_le_lin hf f2
      rw [v1] at e1
      rw [v2] at e2
      have hf' : x % 2 ^ 63 < 0x7ff0000000000000 := hf
      unfold wB
      rw [decide_eq_true hf', Bool.true_and]
      rw [show decide (lin r1 ≤ lin x) = decide (pw (-k) ≤ val x) from decide_eq_decide.2 e1.symm, show decide (lin x ≤ lin r2) = decide (val x ≤ pw k) from decide_eq_decide.2 e2.symm]
    · have hf' : ¬ x % 2 ^ 63 < 0x7ff0000000000000 := hf
      unfold wB
      rw [decide_eq_false hf', Bool.false_and]
      have : ¬ (lin r1 ≤ lin x ∧ lin x ≤ lin r2) := by
        have := lin_big hf
        omega
      simp only [Bool.and_eq_false_iff, decide_eq_false_iff_not]
      omega
theorem t27 (x : Nat) (k : Int) (h1 : 0 ≤ k) (h2 : k ≤ 100) (w : World) : Calls Try.prog 27 #[.float .f64 x, .int .i64 k, .int .i64 k] w (BU w (wB x k)) := by
  go_enter Try.func27, Try.ntmps27
  go_wp2_with (first
    | (go_at_call 36; (with_reducible refine (t36 (k := -k) (by omega) (by omega) _).mono ?_); rintro e w1 ⟨r1, rfl, u1, f1, v1⟩)
    | (go_at_call 36; (with_reducible refine (t36 (k := k) (by omega) (by omega) _).mono ?_); rintro e w2 ⟨r2, rfl, u2, f2, v2⟩))
  all_goals go_ret
  · exact ⟨by rw [← wB_is f1.out v1.out f2.out v2.out]; rfl, u1.out.trans u2.out⟩
  · rename_i hno
    refine ⟨?_, u1⟩
    have : wB x k = false := by
      cases hw : wB x k with
      | false => rfl
      | true =>
        exfalso
        obtain ⟨g1, g2, _⟩ := wB_parts hw
        apply hno
        have h3 := (val_le_lin f1.out g1).1 (by rw [v1.out]; exact g2)
        have h4 := geF_lin g1.num f1.out.num
        rw [decide_eq_true h3] at h4
        simpa [geF] using h4
    rw [this]; rfl
theorem eg24 (args : Array Value) (w : World) : (callFunc 24 args).run Try.prog w = .ok (.enter 24 args) w := enters Try.func24 (by kernel_rfl) (by kernel_rfl) _ _
theorem eg3_of {u8 u11 t c : Nat} (h8 : ab u8 = bin .mul (ab t) (ab t)) (h : ab u11 = bin .mul (bin .mul (ab t) (ab t)) (ab c)) : ab u11 = bin .mul (ab u8) (ab c) := by rw [h, h8]
theorem pre_of {a b c t q rl rr rz : Nat} (HO : (wB a 100 && wB c 100 && wB t 20 && (eqF (ab q) (ab 0) || wB q 100)) = true) (hl : ab rl = bin .mul (ab b) (ab b)) (hr : ab rr = bin .mul (ab a) (ab c)) (hz : ab rz = bin .mul (ab 4607173321528770120) (ab rr)) (HL : (ltF (ab rl) (ab rz) || eqF (ab rl) (ab rz)) = true) : Pre a b c t q := by
  simp only [Bool.and_eq_true, Bool.or_eq_true] at HO HL
  obtain ⟨⟨⟨h1, h2⟩, h3⟩, h4⟩ := HO
  obtain ⟨fa, a1, a2⟩ := wB_parts h1
  obtain ⟨fc, c1, c2⟩ := wB_parts h2
  obtain ⟨ft, t1, t2⟩ := wB_parts h3
  obtain ⟨fb, det⟩ := cond_B (pos_BN fa a1 a2) a1 (pos_BN fc c1 c2) c1 hl hr hz HL
  have hq : Fnt q ∧ (val q = 0 ∨ pw (-100) ≤ val q) ∧ val q ≤ pw 100 := by
    rcases h4 with h | h
    · have hN : isN q = false := by
        cases hN : isN q with
        | false => rfl
        | true => rw [ab_none hN] at h; simp [eqF, ord] at h
      rw [eqF_lin hN zero_fnt.num, lin0] at h
      have h5 := of_decide_eq_true h
      have fq : Fnt q := by
        refine Classical.byContradiction fun hf => ?_
        have := lin_big hf
        omega
      have e1 := (val_le_lin fq zero_fnt).2 (by rw [lin0]; omega)
      have e2 := (val_le_lin zero_fnt fq).2 (by rw [lin0]; omega)
      rw [val0] at e1 e2
      have := pw_pos 100
      exact ⟨fq, Or.inl (by grind), by grind⟩
    · obtain ⟨g1, g2, g3⟩ := wB_parts h
      exact ⟨g1, Or.inr g2, g3⟩
  exact ⟨fa, fb, fc, ft, hq.1, a1, a2, c1, c2, t1, t2, hq.2.1, hq.2.2, det⟩
set_option maxHeartbeats 4000000 in
set_option maxRecDepth 100000 in
theorem t8 (x v a b c t q : Nat) (w : World) : Calls Try.prog 8 #[.agg #[.float .f64 x, .float .f64 v, .float .f64 a, .float .f64 b, .float .f64 c], .float .f64 t, .float .f64 q] w (TU w) := by
  have HB : Hid (BC (w.alloc (.cells #[.float .f64 x, .float .f64 v, .float .f64 a, .float .f64 b, .float .f64 c] 24)) w.heap.size x v a b c) := BC.new w x v a b c
  have HU : Hid (Up w (w.alloc (.cells #[.float .f64 x, .float .f64 v, .float .f64 a, .float .f64 b, .float .f64 c] 24))) := Up.alloc _ _
  go_enter Try.func8, Try.ntmps8
  go_upto_region 1 with fail
  generalize w.alloc (.cells #[.float .f64 x, .float .f64 v, .float .f64 a, .float .f64 b, .float .f64 c] 24) = W at *
  generalize w.heap.size = g at *
  go_cut [7] (fun v7 wx => v7 = .bool (wB a 100 && wB c 100 && wB t 20 && (eqF (ab q) (ab 0) || wB q 100)) ∧ Hid (Up W wx))
  case first =>
   as_aux_lemma =>
    obtain ⟨f0, f1, f2, f3, f4⟩ := HB.out
    go_wp2_with (first
      | (go_at_call 27; (with_reducible refine (t27 a 100 (by omega) (by omega) _).mono ?_); rintro e w1 ⟨rfl, u1⟩; replace f4 := up_cell u1.out f4)
      | (go_at_call 27; (with_reducible refine (t27 c 100 (by omega) (by omega) _).mono ?_); rintro e w2 ⟨rfl, u2⟩)
      | (go_at_call 27; (with_reducible refine (t27 t 20 (by omega) (by omega) _).mono ?_); rintro e w3 ⟨rfl, u3⟩)
      | (go_at_call 27; (with_reducible refine (t27 q 100 (by omega) (by omega) _).mono ?_); rintro e w4 ⟨rfl, u4⟩))
    all_goals go_meet
    all_goals first
      | exact ⟨by simp_all, ((u1.out.trans u2.out).trans u3.out).trans u4.out⟩
      | exact ⟨by simp_all, (u1.out.trans u2.out).trans u3.out⟩
      | exact ⟨by simp_all, u1.out.trans u2.out⟩
      | exact ⟨by simp_all, u1⟩
  case rest =>
  obtain ⟨rfl, HU1⟩ := hcut
  rename World => W1
  have HB1 : Hid (BC W1 g x v a b c) := HB.out.up HU1.out
  have HW1 : Hid (Up w W1) := HU.out.trans HU1.out
  clear HB HU HU1
  cases HO : (wB a 100 && wB c 100 && wB t 20 && (eqF (ab q) (ab 0) || wB q 100))
  · go_wp2_with (go_at_call 19; (with_reducible refine (t19 _).mono ?_); rintro e w5 ⟨rfl, u5⟩)
    go_ret
    exact ⟨rfl, HW1.out.trans u5.out⟩
  · obtain ⟨f0, f1, f2, f3, f4⟩ := HB1.out
    go_upto_if 46 with (first
      | ((with_reducible refine upon_fl (op := .mul) (x := b) (by simp) ?_); intro rl nl kl)
      | ((with_reducible refine upon_fl (op := .mul) (x := a) (by simp) ?_); intro rr nr kr)
      | ((with_reducible refine upon_fl (op := .mul) (x := 4607173321528770120) (by simp) ?_); intro rz nz kz))
    have HB2 : Hid (BC (W1.drewN (nl + nr + nz)) g x v a b c) := HB1.out.up (Up.drewN _ _)
    have HW2 : Hid (Up w (W1.drewN (nl + nr + nz))) := HW1.out.dr _
    clear f0 f1 f2 f3 f4 HB1 HW1
    generalize W1.drewN (nl + nr + nz) = W2 at *
    cases HL : (!ltF (ab rl) (ab rz) && !eqF (ab rl) (ab rz))
    case true =>
      go_wp2_with (go_at_call 19; (with_reducible refine (t19 _).mono ?_); rintro e w5 ⟨rfl, u5⟩)
      go_ret
      exact ⟨rfl, HW2.out.trans u5.out⟩
    case false =>
      have HP : Hid (Pre a b c t q) := pre_of HO kl.out kr.out kz.out (by
        revert HL
        cases ltF (ab rl) (ab rz) <;> cases eqF (ab rl) (ab rz) <;> simp)
      clear HO kl kr kz HL
      obtain ⟨f0, f1, f2, f3, f4⟩ := HB2.out
      go_upto_region 5 with (go_at_call 14; (with_reducible refine (t14 _ _ _ _ _ _ _ _).mono ?_); rintro e w2 ⟨x2, v2, a2, b2, d2, rfl, hs, u2⟩)
      have HB3 : Hid (BC (w2.alloc (.cells #[.float .f64 x2, .float .f64 v2, .float .f64 a2, .float .f64 b2, .float .f64 d2] 24)) g x v a b c) := HB2.out.up (u2.out.al _)
      have HD3 : Hid (BC (w2.alloc (.cells #[.float .f64 x2, .float .f64 v2, .float .f64 a2, .float .f64 b2, .float .f64 d2] 24)) w2.heap.size x2 v2 a2 b2 d2) := BC.new w2 x2 v2 a2 b2 d2
      have HW3 : Hid (Up w (w2.alloc (.cells #[.float .f64 x2, .float .f64 v2, .float .f64 a2, .float .f64 b2, .float .f64 d2] 24))) := (HW2.out.trans u2.out).al _
      clear f0 f1 f2 f3 f4 HB2 HW2 u2
      generalize w2.alloc (.cells #[.float .f64 x2, .float .f64 v2, .float .f64 a2, .float .f64 b2, .float .f64 d2] 24) = W3 at *
      generalize w2.heap.size = h at *
      obtain ⟨f0, f1, f2, f3, f4⟩ := HB3.out
      obtain ⟨d0, d1, d2', d3, d4⟩ := HD3.out
      refine wp_region_sp 21 [.val (.pointer (some ⟨h, 2, none⟩)), .val (.float .f64 a2), .val (.pointer (some ⟨h, 4, none⟩)), .val (.float .f64 d2), .val (.pointer (some ⟨g, 2, none⟩)), .val (.float .f64 a), .val (.float .f64 t), .val (.float .f64 t), .fl (bin .mul (ab t) (ab t)), .val (.pointer (some ⟨g, 4, none⟩)), .val (.float .f64 c), .fl (bin .mul (bin .mul (ab t) (ab t)) (ab c)), .val (.float .f64 t), .val (.pointer (some ⟨g, 4, none⟩)), .val (.float .f64 c), .fl (bin .mul (ab t) (ab c)), .val (.float .f64 t), .val (.pointer (some ⟨g, 3, none⟩)), .val (.float .f64 b), .val (.float .f64 (abs b)), .fl (bin .mul (ab t) (ab (abs b)))] (DrW _) (by kernel_rfl) (by decide) rfl (by kernel_rfl) ⟨good_bin _ _ _, good_bin _ _ _, good_bin _ _ _, good_bin _ _ _, trivial⟩ (DrW.start _) ?_
      intro us hF
      obtain ⟨g8, g11, g15, g20, _⟩ := hF
      simp only [List.take_succ_cons, List.take_zero, valsL, FillL, Act.put, List.setIfInBounds_toArray, List.set_cons_succ, List.set_cons_zero, Nat.zero_add, Nat.reduceAdd]
      refine ⟨⟨LoosO.is rfl (fun w hw => by obtain ⟨N, rfl⟩ := hw; go_simp),
        LoosO.is rfl (fun w hw => by obtain ⟨N, rfl⟩ := hw; go_simp),
        LoosO.is rfl (fun w hw => by obtain ⟨N, rfl⟩ := hw; go_simp),
        LoosO.is rfl (fun w hw => by obtain ⟨N, rfl⟩ := hw; go_simp),
        LoosO.is rfl (fun w hw => by obtain ⟨N, rfl⟩ := hw; go_simp),
        LoosO.is rfl (fun w hw => by obtain ⟨N, rfl⟩ := hw; go_simp),
        LoosO.is rfl (fun w hw => by obtain ⟨N, rfl⟩ := hw; go_simp),
        LoosO.is rfl (fun w hw => by obtain ⟨N, rfl⟩ := hw; go_simp),
        LoosO.st (DrW.on _) rfl rfl (Or.inr (Or.inr (Or.inl rfl))) t t rfl rfl rfl rfl,
        LoosO.is rfl (fun w hw => by obtain ⟨N, rfl⟩ := hw; go_simp),
        LoosO.is rfl (fun w hw => by obtain ⟨N, rfl⟩ := hw; go_simp),
        LoosO.st (DrW.on _) rfl rfl (Or.inr (Or.inr (Or.inl rfl))) (us 8) c rfl rfl g8.out rfl,
        LoosO.is rfl (fun w hw => by obtain ⟨N, rfl⟩ := hw; go_simp),
        LoosO.is rfl (fun w hw => by obtain ⟨N, rfl⟩ := hw; go_simp),
        LoosO.is rfl (fun w hw => by obtain ⟨N, rfl⟩ := hw; go_simp),
        LoosO.st (DrW.on _) rfl rfl (Or.inr (Or.inr (Or.inl rfl))) t c rfl rfl rfl rfl,
        LoosO.is rfl (fun w hw => by obtain ⟨N, rfl⟩ := hw; go_simp),
        LoosO.is rfl (fun w hw => by obtain ⟨N, rfl⟩ := hw; go_simp),
        LoosO.is rfl (fun w hw => by obtain ⟨N, rfl⟩ := hw; go_simp),
        LoosO.callV (by kernel_rfl) rfl #[.float .f64 b] (by kernel_rfl) (eg24 _) (fun w hw => (t24 b w).mono fun _ _ k => ⟨k.1, by rw [k.2]; exact hw⟩),
        LoosO.st (DrW.on _) rfl rfl (Or.inr (Or.inr (Or.inl rfl))) t (abs b) rfl rfl rfl rfl, trivial⟩, ?_⟩
      rintro w9 ⟨N9, rfl⟩
      simp only [List.drop_succ_cons, List.drop_zero]
      obtain ⟨s1, s2, s3, s4, s5⟩ := hs.out
      have HS := sure_all HP.out s3 s4 s5 g8.out (eg3_of g8.out g11.out) g15.out g20.out
      obtain ⟨⟨c1, c2, c3, c4, c5, c6⟩, HF⟩ := HS
      have RM : ∀ (ts : Array TypeId) (ty : TypeId) (w : World), (Builtin.max_ ts ty #[.float .f64 a2, .float .f64 d2, .float .f64 a, .float .f64 (us 11), .float .f64 (us 15), .float .f64 (us 20)]).run Try.prog w = .ok (.float .f64 (mxF (mxF (mxF (mxF (mxF a2 d2) a) (us 11)) (us 15)) (us 20))) w := fun ts ty w => run_max6 c1 c2 c3 c4 c5 c6 ts ty w
      obtain ⟨bm, m1, m2, m3, m4, m5, m6⟩ := mx6 c1 c2 c3 c4 c5 c6
      have HF2 : Hid (∀ l p k5 k7 r, ab l = bin .mul (ab b2) (ab b2) → ab p = bin .mul (ab a2) (ab d2) → ab k5 = bin .mul (ab 4427486594234968593) (ab (mxF (mxF (mxF (mxF (mxF a2 d2) a) (us 11)) (us 15)) (us 20))) → ab k7 = bin .mul (ab k5) (ab (mxF (mxF (mxF (mxF (mxF a2 d2) a) (us 11)) (us 15)) (us 20))) → ab r = bin .add (ab p) (ab k7) → ltF (ab l) (ab r) = true ∨ eqF (ab l) (ab r) = true) := HF _ bm m1 m2 m3 m4 m5 m6
      clear HF bm m1 m2 m3 m4 m5 m6 c1 c2 c3 c4 c5 c6 s1 s2 s3 s4 s5
      generalize mxF (mxF (mxF (mxF (mxF a2 d2) a) (us 11)) (us 15)) (us 20) = mx at *
      go_wp2_with (first
        | ((with_reducible refine upon_fl (op := .mul) (x := b2) (y := b2) (by simp) ?_); intro r1 n1 k1)
        | ((with_reducible refine upon_fl (op := .mul) (x := a2) (y := d2) (by simp) ?_); intro r2 n2 k2)
        | ((with_reducible refine upon_fl (op := .mul) (x := 4427486594234968593) (by simp) ?_); intro r3 n3 k3)
        | ((with_reducible refine upon_fl (op := .mul) (x := r3) (by simp) ?_); intro r4 n4 k4)
        | ((with_reducible refine upon_fl (op := .add) (by simp) ?_); intro r5 n5 k5; have LE := HF2.out r1 r2 r3 r4 r5 k1.out k2.out k3.out k4.out k5.out)
        | (go_at_call 19; (with_reducible refine (t19 _).mono ?_); rintro e w5 ⟨rfl, u5⟩))
      go_ret
      have LE2 : (ltF (ab r1) (ab r5) || eqF (ab r1) (ab r5)) = true := by simpa using LE
      exact ⟨congrArg (fun z => Ending.returned (.bool z)) LE2, (HW3.out.dr _).trans u5.out⟩
end Go.Proofs.Ytdolfkgnehiecaa
