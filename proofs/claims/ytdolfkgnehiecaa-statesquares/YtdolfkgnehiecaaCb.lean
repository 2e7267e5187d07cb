/- The law StateSquares. -/
import Derived.Test.YtdolfkgnehiecaaCa
import Derived.Test.YtdolfkgnehiecaaBa
import Derived.Test.YtdolfkgnehiecaaLq
import Derived.Deep.DeepCutAuto
namespace Go.Proofs.Ytdolfkgnehiecaa
open Go.ChangeShapes Go.WideShapes Go.ChangeAt Go.RowKit Go.Fl Ieee
attribute [local go_sem] run_store_float call28 call35 run_neg fold_eq fold_ne fold_lt fold_gt abs_eq

def sbF (x : Nat) : Bool := decide (wrap64 (x : Int) < 0)
theorem t23 (x : Nat) (w : World) : Calls Try.prog 23 #[.float .f64 x] w fun e w' => e = .returned (.bool (sbF x)) ∧ w' = w := by
  go_enter Try.func23, Try.ntmps23
  go_wp2
  go_ret
  exact ⟨rfl, rfl⟩
theorem sb_low {x : Nat} (h : x < 2 ^ 63) : sbF x = false := by
  unfold sbF
  have e : wrap64 (x : Int) = x := by unfold wrap64; omega
  rw [e]; simp
theorem far_fine {x v a b c p n r : Nat} (h : ab r = farF ⟨ab x, ab v, ab a, ab b, ab c⟩ (ab p) (ab n)) : ltF (ab r) (ab 0) = false ∧ (sbF r = false ∨ eqF (ab r) (ab r) = false) := by
  cases hN : isN r with
  | true => rw [ab_none hN]; exact ⟨by simp [ltF, ord], Or.inr (by simp [eqF, ord])⟩
  | false =>
    obtain ⟨_, h2⟩ := far_sq r (h.symm.trans (ab_some hN))
    refine ⟨?_, Or.inl (sb_low h2)⟩
    rw [ltF_lin hN zero_fnt.num, lin0]
    have := sign_lin h2
    simpa using this
/-- Four numbers in memory. -/
theorem cells4 (w : World) (p n t q : Nat) : (w.alloc (.cells #[.float .f64 p, .float .f64 n, .float .f64 t, .float .f64 q] 37)).cell? ⟨w.heap.size, 0, none⟩ = some (.float .f64 p) ∧ (w.alloc (.cells #[.float .f64 p, .float .f64 n, .float .f64 t, .float .f64 q] 37)).cell? ⟨w.heap.size, 1, none⟩ = some (.float .f64 n) ∧ (w.alloc (.cells #[.float .f64 p, .float .f64 n, .float .f64 t, .float .f64 q] 37)).cell? ⟨w.heap.size, 2, none⟩ = some (.float .f64 t) ∧ (w.alloc (.cells #[.float .f64 p, .float .f64 n, .float .f64 t, .float .f64 q] 37)).cell? ⟨w.heap.size, 3, none⟩ = some (.float .f64 q) := by
  have e := heap_alloc_last w (.cells #[.float .f64 p, .float .f64 n, .float .f64 t, .float .f64 q] 37)
  refine ⟨?_, ?_, ?_, ?_⟩ <;> (unfold World.cell?; simp only [e]; rfl)
set_option maxHeartbeats 4000000 in
set_option maxRecDepth 100000 in
theorem t5 (x v a b c p n t q : Nat) (w : World) : Calls Try.prog 5 #[.agg #[.float .f64 x, .float .f64 v, .float .f64 a, .float .f64 b, .float .f64 c], .agg #[.float .f64 p, .float .f64 n, .float .f64 t, .float .f64 q]] w (TU w) := by
  obtain ⟨b0, b1, b2, b3, b4⟩ := BC.new w x v a b c
  go_enter Try.func5, Try.ntmps5
  go_wp2
  refine wp_region_sp 11 [.val (.pointer (some ⟨w.heap.size + 1, 0, none⟩)), .val (.float .f64 p), .val (.pointer (some ⟨w.heap.size + 1, 1, none⟩)), .val (.float .f64 n), .val (.pointer (some ⟨w.heap.size + 1, 2, none⟩)), .val (.float .f64 t), .val (.pointer (some ⟨w.heap.size + 1, 3, none⟩)), .val (.float .f64 q), .val (.float .f64 p), .val (.float .f64 n), .val (.float .f64 t)] (DrW _) (by kernel_rfl) (by decide) rfl (by kernel_rfl) trivial (DrW.start _) ?_
  intro rs hF
  clear hF
  simp only [List.take_succ_cons, List.take_zero, valsL, FillL, Act.put, List.setIfInBounds_toArray, List.set_cons_succ, List.set_cons_zero]
  refine ⟨⟨LoosO.is rfl (fun w hw => by obtain ⟨N, rfl⟩ := hw; go_simp),
    LoosO.is rfl (fun w hw => by obtain ⟨N, rfl⟩ := hw; go_simp),
    LoosO.is rfl (fun w hw => by obtain ⟨N, rfl⟩ := hw; go_simp),
    LoosO.is rfl (fun w hw => by obtain ⟨N, rfl⟩ := hw; go_simp),
    LoosO.is rfl (fun w hw => by obtain ⟨N, rfl⟩ := hw; go_simp),
    LoosO.is rfl (fun w hw => by obtain ⟨N, rfl⟩ := hw; go_simp),
    LoosO.is rfl (fun w hw => by obtain ⟨N, rfl⟩ := hw; go_simp),
    LoosO.is rfl (fun w hw => by obtain ⟨N, rfl⟩ := hw; go_simp),
    LoosO.is rfl (fun w hw => by obtain ⟨N, rfl⟩ := hw; go_simp),
    LoosO.is rfl (fun w hw => by obtain ⟨N, rfl⟩ := hw; go_simp),
    LoosO.is rfl (fun w hw => by obtain ⟨N, rfl⟩ := hw; go_simp), trivial⟩, ?_⟩
  rintro w9 ⟨N9, rfl⟩
  simp only [List.drop_succ_cons, List.drop_zero]
  go_upto_region 2 with fail
  clear b0 b1 b2 b3 b4
  have HB : Hid (BC (((w.alloc (.cells #[.float .f64 x, .float .f64 v, .float .f64 a, .float .f64 b, .float .f64 c] 24)).alloc (.cells #[.float .f64 p, .float .f64 n, .float .f64 t, .float .f64 q] 37)).drew.drewN N9) w.heap.size x v a b c) := (BC.new w x v a b c).up (((Up.alloc _ _).trans (Up.drew _)).dr _)
  have HU : Hid (Up w (((w.alloc (.cells #[.float .f64 x, .float .f64 v, .float .f64 a, .float .f64 b, .float .f64 c] 24)).alloc (.cells #[.float .f64 p, .float .f64 n, .float .f64 t, .float .f64 q] 37)).drew.drewN N9)) := ((Up.alloc2 _ _ _).trans (Up.drew _)).dr _
  generalize ((w.alloc (.cells #[.float .f64 x, .float .f64 v, .float .f64 a, .float .f64 b, .float .f64 c] 24)).alloc (.cells #[.float .f64 p, .float .f64 n, .float .f64 t, .float .f64 q] 37)).drew.drewN N9 = W at *
  generalize hg : w.heap.size = g at *
  clear hg
  cases hM : mayF ⟨ab x, ab v, ab a, ab b, ab c⟩ with
  | false =>
    obtain ⟨f0, f1, f2, f3, f4⟩ := HB.out
    go_wp2_with (first
      | (go_at_call 12; (with_reducible refine (t12 _ _ _ _ _ _).mono ?_); rintro e w1 ⟨rfl, u1⟩; rw [hM])
      | (go_at_call 19; (with_reducible refine (t19 _).mono ?_); rintro e w2 ⟨rfl, u2⟩))
    go_ret
    exact ⟨rfl, (HU.out.trans u1.out).trans u2.out⟩
  | true =>
    have HM : Hid (MayP x v a b c) := may_parts hM
    obtain ⟨f0, f1, f2, f3, f4⟩ := HB.out
    clear HB
    go_upto_region 5 with (first
      | (go_at_call 12; (with_reducible refine (t12 _ _ _ _ _ _).mono ?_); rintro e w1 ⟨rfl, u1⟩; rw [hM]; replace f0 := up_cell u1.out f0; replace f1 := up_cell u1.out f1; replace f2 := up_cell u1.out f2; replace f3 := up_cell u1.out f3; replace f4 := up_cell u1.out f4)
      | ((with_reducible refine upon_fl (op := .add) (by simp) ?_); intro rw nw kw))
    have HB1 : Hid (BC (w1.drewN nw) g x v a b c) := BC.up ⟨f0, f1, f2, f3, f4⟩ (Up.drewN _ _)
    have HU1 : Hid (Up w (w1.drewN nw)) := (HU.out.trans u1.out).dr _
    clear f0 f1 f2 f3 f4 HU u1
    generalize w1.drewN nw = W1 at *
    go_cut [42] (fun v42 wx => v42 = .bool (fin (ab p) && (gtF (ab n) (ab 0) || eqF (ab n) (ab 0)) && gtF (ab rw) (ab 0) && (ltF (ab rw) (ab 9218868437227405311) || eqF (ab rw) (ab 9218868437227405311))) ∧ wx = W1)
    case first =>
     as_aux_lemma =>
      go_wp2_with (go_at_call 22; (with_reducible refine (t22 _ _).mono ?_); rintro e w' ⟨rfl, rfl⟩)
      all_goals go_meet
      all_goals exact ⟨by simp_all, rfl⟩
    case rest =>
    obtain ⟨rfl, hw⟩ := hcut
    subst hw
    rename World => W1
    go_upto_if 42 with fail
    go_cut [4] (fun v4 wx => v4 = .bool false ∧ Hid (Up W1 wx))
    case first =>
     as_aux_lemma =>
      cases HK : (fin (ab p) && (gtF (ab n) (ab 0) || eqF (ab n) (ab 0)) && gtF (ab rw) (ab 0) && (ltF (ab rw) (ab 9218868437227405311) || eqF (ab rw) (ab 9218868437227405311)))
      · go_wp2_with fail
        go_meet
        case rel => exact ⟨rfl, Up.refl _⟩
      · simp only [Bool.and_eq_true] at HK
        obtain ⟨⟨⟨k1, k2⟩, k3⟩, k4⟩ := HK
        have HS := seen_sq (p := p) HM.out k2 (by rw [← kw.out]; exact k3) (by rw [← kw.out]; exact k4)
        clear k1 k2 k3 k4
        obtain ⟨f0, f1, f2, f3, f4⟩ := HB1.out
        go_wp2_with (go_at_call 16; (with_reducible refine (t16 _ _ _ _ _ _ _ _).mono ?_); rintro e w2 ⟨x2, v2, a2, c2, d2, rfl, hs, u2⟩; obtain ⟨_, _, e3, _, e5⟩ := hs.out; rw [← e3, ← e5] at HS; clear e3 e5; obtain ⟨s1, s2, s3, s4, s5⟩ := HS; simp only [geF, leF, Bool.or_eq_true] at s1 s2 s3 s4 s5; replace f2 := up_cell u2.out f2; replace f4 := up_cell u2.out f4; have l2 := World.block_lt_of_cell? w2 _ f2; obtain ⟨m0, m1, m2, m3, m4⟩ := BC.new w2 x2 v2 a2 c2 d2)
        · exfalso
          rename_i q
          rcases s1 with s1 | s1 <;> rcases s2 with s2 | s2 <;> rcases s3 with s3 | s3 <;> rcases s4 with s4 | s4 <;> rcases s5 with s5 | s5 <;> simp [s1, s2, s3, s4, s5] at q
        · go_meet
          case rel => exact ⟨rfl, u2.out.al _⟩
    case rest =>
    obtain ⟨rfl, HU2⟩ := hcut
    rename World => W2
    have HB2 : Hid (BC W2 g x v a b c) := HB1.out.up HU2.out
    have HW2 : Hid (Up w W2) := HU1.out.trans HU2.out
    clear HB1 HU1 HU2 kw
    go_upto_if 77 with fail
    go_cut [4] (fun v4 wx => v4 = .bool false ∧ Hid (Up W2 wx))
    case first =>
     as_aux_lemma =>
      cases HK : (gtF (ab n) (ab 0) || eqF (ab n) (ab 0))
      · go_wp2_with fail
        go_meet
        case rel => exact ⟨rfl, Up.refl _⟩
      · obtain ⟨f0, f1, f2, f3, f4⟩ := HB2.out
        go_upto_region 10 with fail
        go_cut [11] (fun v11 wx => ∃ r : Nat, v11 = .float .f64 r ∧ Hid (ltF (ab r) (ab 0) = false ∧ (sbF r = false ∨ eqF (ab r) (ab r) = false)) ∧ Hid (Up W2 wx))
        case first =>
          go_wp2_with (go_at_call 10; (with_reducible refine (t10 _ _ _ _ _ _ _ _).mono ?_); rintro e w3 ⟨r3, rfl, h3, u3⟩)
          go_meet
          case rel => exact ⟨r3, rfl, far_fine h3.out, u3⟩
        case rest =>
        obtain ⟨r3, rfl, hz, u3⟩ := hcut
        clear f0 f1 f2 f3 f4
        obtain ⟨z1, z2⟩ := hz.out
        cases z3 : sbF r3
        · go_wp2_with (go_at_call 23; (with_reducible refine (t23 _ _).mono ?_); rintro e w' ⟨rfl, rfl⟩; rw [z3])
          go_meet
          case rel => exact ⟨rfl, u3⟩
        · have z4 : eqF (ab r3) (ab r3) = false := z2.resolve_left (by rw [z3]; decide)
          clear z2 hz
          go_wp2_with (go_at_call 23; (with_reducible refine (t23 _ _).mono ?_); rintro e w' ⟨rfl, rfl⟩; rw [z3])
          go_meet
          case rel => exact ⟨rfl, u3⟩
    case rest =>
    obtain ⟨rfl, HU3⟩ := hcut
    rename World => W3
    have HB3 : Hid (BC W3 g x v a b c) := HB2.out.up HU3.out
    have HW3 : Hid (Up w W3) := HW2.out.trans HU3.out
    clear HB2 HW2 HU3
    go_upto_if 94 with fail
    go_cut [4] (fun v4 wx => v4 = .bool false ∧ Hid (Up W3 wx))
    case first =>
     as_aux_lemma =>
      cases HK : (gtF (ab q) (ab 0) || eqF (ab q) (ab 0))
      · go_wp2_with fail
        go_meet
        case rel => exact ⟨rfl, Up.refl _⟩
      · have HS := ahead_sq (t := t) HM.out HK
        obtain ⟨f0, f1, f2, f3, f4⟩ := HB3.out
        go_wp2_with (go_at_call 14; (with_reducible refine (t14 _ _ _ _ _ _ _ _).mono ?_); rintro e w2 ⟨x2, v2, a2, c2, d2, rfl, hs, u2⟩; obtain ⟨_, _, e3, _, e5⟩ := hs.out; rw [← e3, ← e5] at HS; clear e3 e5; obtain ⟨s1, s2⟩ := HS; replace f4 := up_cell u2.out f4; have l2 := World.block_lt_of_cell? w2 _ f4; obtain ⟨m0, m1, m2, m3, m4⟩ := BC.new w2 x2 v2 a2 c2 d2)
        go_meet
        case rel => exact ⟨rfl, u2.out.al _⟩
    case rest =>
    obtain ⟨rfl, HU4⟩ := hcut
    go_wp2_with (go_at_call 19; (with_reducible refine (t19 _).mono ?_); rintro e w5 ⟨rfl, u5⟩)
    go_ret
    exact ⟨rfl, (HW3.out.trans HU4.out).trans u5.out⟩
end Go.Proofs.Ytdolfkgnehiecaa
