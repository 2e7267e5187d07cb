/- The reference's Order. -/
import Derived.Test.YtijfmaepoamkgaaZb
namespace Go.Proofs.Ytijfmaepoamkgaa
open Go.ChangeShapes Go.WideShapes Go.ChangeAt Go.RowKit Go.Fl Go.Sort
attribute [local go_sem] run_store_float call53 run_neg fold_eq fold_ne fold_lt fold_gt abs_eq

set_option maxRecDepth 20000 in
set_option maxHeartbeats 4000000 in
theorem t18 {w : World} {p : Option Addr} {n cap : Nat} {P : Nat → Plt} (hV : PV w p n cap P) (few : n ≤ 1024) : Calls Try.prog 18 #[.slice p n cap] w (OrdR w P n) := by
  have HV : Hid (PV w p n cap P) := hV
  clear hV
  go_enter Try.func18, Try.ntmps18
  go_wp2_with fail
  go_loopw [3, 4, 5, 6] (fun v3 v4 _ _ wr => ∃ (i : Nat) (q : Option Addr) (c : Nat) (o : List Nat), i ≤ n ∧ v3 = .slice q i c ∧ v4 = .int .i64 i ∧ Hid (InOrd P i o ∧ OPl w.heap.size wr (.slice q i c) o ∧ Up w wr)) (fun _ v4 _ _ _ => n - (intOf v4).toNat)
  case atStart => exact ⟨0, none, 0, [], by omega, rfl, rfl, InOrd.nil P, OR.nil _ _ _ _, Up.refl _⟩
  case round =>
    obtain ⟨i, q, c, o, hi, rfl, rfl, HI⟩ := hrel
    rename World => wr
    by_cases hlt : i < n
    · go_wp2_with fail
      go_loopw [5] (fun v5 wx => ∃ k : Nat, v5 = .int .i64 k ∧ Hid (Back P i o k) ∧ Hid (Up wr wx)) (fun v5 _ => (intOf v5).toNat)
      case atStart => exact ⟨i, rfl, Back.start P i o, Up.refl _⟩
      case round =>
        obtain ⟨kk, rfl, HB, HX⟩ := hrel
        rename World => wx
        cases kk with
        | zero =>
          have HN : Hid (InOrd P (i + 1) (o.take 0 ++ i :: o.drop 0)) := HB.out.stop HI.out.1 (by omega) (fun m hm => by omega)
          have h3 : decide ((0 : Int) < ((0 : Nat) : Int)) = false := rfl
          rcases own_at HI.out.2.1 with hq | ⟨og, hq⟩
          · obtain ⟨rfl, hi0, rfl⟩ := hq
            have HI0 : Hid (i = 0) := hi0
            clear hi0
            have HL1 : Hid ((o.take 0).length = 0) := by show _ = _; rw [List.length_take, HI.out.1.length]; omega
            have HL2 : Hid ((o.drop 0).length = i - 0) := by show _ = _; rw [List.length_drop, HI.out.1.length]
            have HLe : Hid (((([] ++ o.take 0) ++ [i]) ++ o.drop 0).length = i + 1) := by show _ = _; rw [List.length_append, List.length_append, List.length_append, HL1.out, HL2.out]; simp only [List.length_nil, List.length_cons]; omega
            have HSt : Hid (∀ W, Up wr W → St W (none) 0 (o.take 0)) := fun W hu => st_take (OR.up HI.out.2.1 hu) HI.out.1.length (by omega)
            have HSZ : Hid (∀ W, Up wr W → wr.heap.size ≤ W.heap.size) := fun W hu => hu.size
            have HIN : Hid (InOrd P (i + 1) ((([] ++ o.take 0) ++ [i]) ++ o.drop 0)) := by
              have h := HN.out
              show InOrd _ _ _
              simpa using h
            go_wp2_with fail
            go_quiet (fail)
            have HSd : Hid (∀ W, Up wr W → St W (none) 0 (o.drop 0)) := fun W hu => st_nil HI.out.2.1 HI.out.1.length
            go_wp2_with (first | ((fail_if_success have := HF1); at_builtin; refine wpList_append_on rfl _ _ rfl wr.heap.size _ [] rfl (OR.nil _ _ _ _) _ _ _ (o.take 0) rfl (by first | exact HL1.out | (rw [HL1.out]; omega)) (by first | exact HSt.out _ (HX.out.trans (Up.drewN _ _)) | exact (HSt.out _ (HX.out.trans (Up.drewN _ _))).any) (by rw [HL1.out]; simp only [List.length_nil]; omega) (HSZ.out _ (HX.out.trans (Up.drewN _ _))) ?_; intro v7 w7 hown7 hg7; (have HF1 : Hid (OPl wr.heap.size w7 v7 ([] ++ o.take 0)) := hown7); (have HG1 : Hid (Up wr w7) := grown_up (HX.out.trans (Up.drewN _ _)) hg7 (fun j hj => by cases hj)); clear hown7 hg7) | ((fail_if_success have := HF2); at_builtin; refine wpList_append_on rfl _ _ rfl wr.heap.size _ _ rfl (HF1.out.alloc _) _ _ _ [i] rfl rfl (st_one w7 i) (by rw [List.length_append, HL1.out]; simp only [List.length_nil, List.length_cons]; omega) (HSZ.out _ (HG1.out.trans (Up.alloc _ _))) ?_; intro v8 w8 hown8 hg8; (have HF2 : Hid (OPl wr.heap.size w8 v8 (([] ++ o.take 0) ++ [i])) := hown8); (have HG2 : Hid (Up wr w8) := grown_up (HG1.out.trans (Up.alloc _ _)) hg8 (fun j hj => (HF1.out.lt j hj).1)); clear hown8 hg8) | (at_builtin; refine wpList_append_on rfl _ _ rfl wr.heap.size _ _ rfl HF2.out _ _ _ (o.drop 0) rfl (by first | exact HL2.out | (rw [HL2.out]; omega)) (by first | exact HSd.out _ HG2.out | exact (HSd.out _ HG2.out).any) (by rw [List.length_append, List.length_append, HL1.out, HL2.out]; simp only [List.length_nil, List.length_cons]; omega) (HSZ.out _ HG2.out) ?_; intro v9 w9 hown9 hg9; (obtain ⟨q9, c9, hv9, -⟩ := OR.form hown9); (rw [HLe.out] at hv9); subst hv9; (have HF3 : Hid (OPl wr.heap.size w9 (.slice q9 (i + 1) c9) ((([] ++ o.take 0) ++ [i]) ++ o.drop 0)) := hown9); (have HG3 : Hid (Up wr w9) := grown_up HG2.out hg9 (fun j hj => (HF2.out.lt j hj).1)); clear hown9 hg9))
            go_roundw
            case rel => exact ⟨i + 1, q9, c9, _, by omega, rfl, by go_num, HIN.out, OR.base HF3.out HI.out.2.2.size, HI.out.2.2.trans HG3.out⟩
            case measure => simp [intOf]; omega
          · subst hq
            have HL1 : Hid ((o.take 0).length = 0) := by show _ = _; rw [List.length_take, HI.out.1.length]; omega
            have HL2 : Hid ((o.drop 0).length = i - 0) := by show _ = _; rw [List.length_drop, HI.out.1.length]
            have HLe : Hid (((([] ++ o.take 0) ++ [i]) ++ o.drop 0).length = i + 1) := by show _ = _; rw [List.length_append, List.length_append, List.length_append, HL1.out, HL2.out]; simp only [List.length_nil, List.length_cons]; omega
            have HSt : Hid (∀ W, Up wr W → St W (some ⟨og, 0, none⟩) c (o.take 0)) := fun W hu => st_take (OR.up HI.out.2.1 hu) HI.out.1.length (by omega)
            have HSZ : Hid (∀ W, Up wr W → wr.heap.size ≤ W.heap.size) := fun W hu => hu.size
            have HIN : Hid (InOrd P (i + 1) ((([] ++ o.take 0) ++ [i]) ++ o.drop 0)) := by
              have h := HN.out
              show InOrd _ _ _
              simpa using h
            have hic := own_cap HI.out.2.1
            have hc3 : (i : Int) ≤ c := by omega
            go_wp2_with fail
            go_quiet (fail)
            have HSd : Hid (∀ W, Up wr W → St W (some ⟨og, 0, none⟩) c (o.drop 0)) := fun W hu => st_drop (OR.up HI.out.2.1 hu) HI.out.1.length (by omega)
            go_wp2_with (first | ((fail_if_success have := HF1); at_builtin; refine wpList_append_on rfl _ _ rfl wr.heap.size _ [] rfl (OR.nil _ _ _ _) _ _ _ (o.take 0) rfl (by first | exact HL1.out | (rw [HL1.out]; omega)) (by first | exact HSt.out _ (HX.out.trans (Up.drewN _ _)) | exact (HSt.out _ (HX.out.trans (Up.drewN _ _))).any) (by rw [HL1.out]; simp only [List.length_nil]; omega) (HSZ.out _ (HX.out.trans (Up.drewN _ _))) ?_; intro v7 w7 hown7 hg7; (have HF1 : Hid (OPl wr.heap.size w7 v7 ([] ++ o.take 0)) := hown7); (have HG1 : Hid (Up wr w7) := grown_up (HX.out.trans (Up.drewN _ _)) hg7 (fun j hj => by cases hj)); clear hown7 hg7) | ((fail_if_success have := HF2); at_builtin; refine wpList_append_on rfl _ _ rfl wr.heap.size _ _ rfl (HF1.out.alloc _) _ _ _ [i] rfl rfl (st_one w7 i) (by rw [List.length_append, HL1.out]; simp only [List.length_nil, List.length_cons]; omega) (HSZ.out _ (HG1.out.trans (Up.alloc _ _))) ?_; intro v8 w8 hown8 hg8; (have HF2 : Hid (OPl wr.heap.size w8 v8 (([] ++ o.take 0) ++ [i])) := hown8); (have HG2 : Hid (Up wr w8) := grown_up (HG1.out.trans (Up.alloc _ _)) hg8 (fun j hj => (HF1.out.lt j hj).1)); clear hown8 hg8) | (at_builtin; refine wpList_append_on rfl _ _ rfl wr.heap.size _ _ rfl HF2.out _ _ _ (o.drop 0) rfl (by first | exact HL2.out | (rw [HL2.out]; omega)) (by first | exact HSd.out _ HG2.out | exact (HSd.out _ HG2.out).any) (by rw [List.length_append, List.length_append, HL1.out, HL2.out]; simp only [List.length_nil, List.length_cons]; omega) (HSZ.out _ HG2.out) ?_; intro v9 w9 hown9 hg9; (obtain ⟨q9, c9, hv9, -⟩ := OR.form hown9); (rw [HLe.out] at hv9); subst hv9; (have HF3 : Hid (OPl wr.heap.size w9 (.slice q9 (i + 1) c9) ((([] ++ o.take 0) ++ [i]) ++ o.drop 0)) := hown9); (have HG3 : Hid (Up wr w9) := grown_up HG2.out hg9 (fun j hj => (HF2.out.lt j hj).1)); clear hown9 hg9))
            go_roundw
            case rel => exact ⟨i + 1, q9, c9, _, by omega, rfl, by go_num, HIN.out, OR.base HF3.out HI.out.2.2.size, HI.out.2.2.trans HG3.out⟩
            case measure => simp [intOf]; omega
        | succ m =>
          have hmi : m < i := by have := HB.out.1; omega
          obtain ⟨og, hog⟩ : ∃ g, q = some ⟨g, 0, none⟩ := by
            obtain ⟨p', c', e1, e2⟩ := OR.form HI.out.2.1
            simp only [Value.slice.injEq] at e1
            rw [e1.1]
            exact e2 (by rw [HI.out.1.length]; omega)
          subst hog
          have z0 := OR.cell (OR.up HI.out.2.1 HX.out) (i := m) (by rw [HI.out.1.length]; exact hmi)
          have kn := HI.out.1.at hmi
          have hbn : rk (P i) < rk (P o[m]!) → Back P i o m := fun h => HB.out.next HI.out.1 (by omega) h
          have hbs : ¬ rk (P i) < rk (P o[m]!) → InOrd P (i + 1) (o.take (m + 1) ++ i :: o.drop (m + 1)) := fun h => HB.out.stop HI.out.1 (by omega) (fun m' hm => by
            obtain rfl : m' = m := by omega
            omega)
          generalize o[m]! = k at *
          unfold nv at z0
          obtain ⟨b, off, rfl, hP⟩ := HV.out.rd (by omega)
          have h5 := (hP i hlt).up (HI.out.2.2.trans HX.out)
          have h6 := (hP k (by omega)).up (HI.out.2.2.trans HX.out)
          have hcn := cmp_neg (HV.out.fit i hlt) (HV.out.fit k (by omega))
          have C39 : Hid (∀ W, Calls Try.prog 39 #[.agg #[.float .f64 (P i).r, .float .f64 (P i).s, .float .f64 (P i).p, .float .f64 (P i).b, .float .f64 (P i).t], .agg #[.float .f64 (P k).r, .float .f64 (P k).s, .float .f64 (P k).p, .float .f64 (P k).b, .float .f64 (P k).t]] W fun e w' => e = .returned (.int .i64 (cmp5 (P i) (P k))) ∧ Hid (Up W w')) := fun W => t39 (HV.out.fit i hlt) (HV.out.fit k (by omega)) W
          generalize cmp5 (P i) (P k) = z at *
          have HBN : Hid (z < 0 → Back P i o m) := fun h => hbn (hcn.1 h)
          have HBS : Hid (0 ≤ z → InOrd P (i + 1) (o.take (m + 1) ++ i :: o.drop (m + 1))) := fun h => hbs (fun h' => by have := hcn.2 h'; omega)
          generalize P i = x at *
          generalize P k = y at *
          have HSS : Hid (wx.drew.cell? ⟨og, m, none⟩ = some (.int .i64 k) ∧ P5 wx.drew b (off + i * 5) x ∧ P5 wx.drew b (off + k * 5) y) := ⟨cell_up z0 (Up.drew _), h5.up (Up.drew _), h6.up (Up.drew _)⟩
          have hil : (i : Int) < n := by omega
          have HWm : Hid (IntKind.i64.wrap (m : Int) = (m : Int)) := by
            show _ = _
            rw [IntKind.wrap_i64]; omega
          have hml : (m : Int) < i := by omega
          have hkl : (k : Int) < n := by omega
          clear z0 h5 h6 hP hbn hbs hcn
          go_wp2_with fail
          refine wp_region_shut 15 [(0, none), (1, none), (2, none), (3, none), (4, none), (5, none), (6, some false), (7, none), (8, none), (9, none), (10, none), (11, none), (12, some false), (13, none), (14, some false)] (fun w' => w'.cell? ⟨og, m, none⟩ = some (.int .i64 k) ∧ P5 w' b (off + i * 5) x ∧ P5 w' b (off + k * 5) y) (by kernel_rfl) (by decide) rfl (by kernel_rfl) (fun _ _ d _ _ h => by cases d <;> exact h) HSS.out ?_
          refine OrdS.looks (.int .i64 (m + 1 : Nat)) (some 15) _ rfl rfl (Or.inl ⟨by kernel_rfl, fun w' hS => ?_⟩) ?_
          · go_simp
          refine OrdS.looks (.bool true) (some 16) _ rfl rfl (Or.inl ⟨by kernel_rfl, fun w' hS => ?_⟩) ?_
          · go_simp
          refine OrdS.looks (.bool true) (some 17) _ rfl rfl (Or.inl ⟨by kernel_rfl, fun w' hS => ?_⟩) ?_
          · go_simp
          simp only [Act.put, List.setIfInBounds_toArray, List.set_cons_succ, List.set_cons_zero]
          refine OrdS.looks (.slice (some ⟨b, off, none⟩) n cap) (some 18) _ rfl rfl (Or.inl ⟨by kernel_rfl, fun w' hS => ?_⟩) ?_
          · go_simp
          refine OrdS.looks (.int .i64 i) (some 19) _ rfl rfl (Or.inl ⟨by kernel_rfl, fun w' hS => ?_⟩) ?_
          · go_simp
          refine OrdS.looks (.pointer (some ⟨b, off + i * 5, none⟩)) (some 20) _ rfl rfl (Or.inl ⟨by kernel_rfl, fun w' hS => ?_⟩) ?_
          · go_simp
          refine OrdS.reads (.agg #[.float .f64 x.r, .float .f64 x.s, .float .f64 x.p, .float .f64 x.b, .float .f64 x.t]) (some 21) _ rfl rfl (Or.inl ⟨by kernel_rfl, fun w' hS => ?_⟩) ?_
          · obtain ⟨z0, ⟨a0, a1, a2, a3, a4⟩, ⟨b0, b1, b2, b3, b4⟩⟩ := hS
            go_simp
          refine OrdS.looks (.slice (some ⟨b, off, none⟩) n cap) (some 22) _ rfl rfl (Or.inl ⟨by kernel_rfl, fun w' hS => ?_⟩) ?_
          · go_simp
          refine OrdS.looks (.slice (some ⟨og, 0, none⟩) i c) (some 23) _ rfl rfl (Or.inl ⟨by kernel_rfl, fun w' hS => ?_⟩) ?_
          · go_simp
          refine OrdS.looks (.int .i64 (m + 1 : Nat)) (some 24) _ rfl rfl (Or.inl ⟨by kernel_rfl, fun w' hS => ?_⟩) ?_
          · go_simp
          refine OrdS.looks (.int .i64 m) (some 25) _ rfl rfl (Or.inl ⟨by kernel_rfl, fun w' hS => ?_⟩) ?_
          · go_simp
            exact HWm.out
          refine OrdS.looks (.pointer (some ⟨og, m, none⟩)) (some 26) _ rfl rfl (Or.inl ⟨by kernel_rfl, fun w' hS => ?_⟩) ?_
          · go_simp
          refine OrdS.reads (.int .i64 k) (some 27) _ rfl rfl (Or.inl ⟨by kernel_rfl, fun w' hS => ?_⟩) ?_
          · obtain ⟨z0, ⟨a0, a1, a2, a3, a4⟩, ⟨b0, b1, b2, b3, b4⟩⟩ := hS
            go_simp
          refine OrdS.looks (.pointer (some ⟨b, off + k * 5, none⟩)) (some 28) _ rfl rfl (Or.inl ⟨by kernel_rfl, fun w' hS => ?_⟩) ?_
          · go_simp
          refine OrdS.reads (.agg #[.float .f64 y.r, .float .f64 y.s, .float .f64 y.p, .float .f64 y.b, .float .f64 y.t]) (some 29) _ rfl rfl (Or.inl ⟨by kernel_rfl, fun w' hS => ?_⟩) ?_
          · obtain ⟨z0, ⟨a0, a1, a2, a3, a4⟩, ⟨b0, b1, b2, b3, b4⟩⟩ := hS
            go_simp
          refine OrdS.ends ?_
          simp only [List.drop_succ_cons, List.drop_zero, Act.put, List.setIfInBounds_toArray]
          by_cases hz : z < 0
          · go_wp2_with (go_at_call 39; (with_reducible refine (C39.out _).mono ?_); rintro e w3 ⟨rfl, HU3⟩)
            go_roundw
            case rel => exact ⟨m, by go_num, HBN.out hz, HX.out.trans ((Up.drew _).trans HU3.out)⟩
            case measure => simp [intOf]; try omega
          ·
            have HL1 : Hid ((o.take (m + 1)).length = (m + 1)) := by show _ = _; rw [List.length_take, HI.out.1.length]; omega
            have HL2 : Hid ((o.drop (m + 1)).length = i - (m + 1)) := by show _ = _; rw [List.length_drop, HI.out.1.length]
            have HLe : Hid (((([] ++ o.take (m + 1)) ++ [i]) ++ o.drop (m + 1)).length = i + 1) := by show _ = _; rw [List.length_append, List.length_append, List.length_append, HL1.out, HL2.out]; simp only [List.length_nil, List.length_cons]; omega
            have HSt : Hid (∀ W, Up wr W → St W (some ⟨og, 0, none⟩) c (o.take (m + 1))) := fun W hu => st_take (OR.up HI.out.2.1 hu) HI.out.1.length (by omega)
            have HSZ : Hid (∀ W, Up wr W → wr.heap.size ≤ W.heap.size) := fun W hu => hu.size
            have HIN : Hid (InOrd P (i + 1) ((([] ++ o.take (m + 1)) ++ [i]) ++ o.drop (m + 1))) := by
              have h := HBS.out (by omega)
              show InOrd _ _ _
              simpa using h
            have hic := own_cap HI.out.2.1
            have hc1 : (m : Int) + 1 ≤ c := by omega
            have hc2 : (m : Int) + 1 ≤ i := by omega
            have hc3 : (i : Int) ≤ c := by omega
            by_cases hce : c = m + 1
            · subst hce
              have HSd : Hid (∀ W, Up wr W → St W (some ⟨og, 0, none⟩) ((m + 1) - (m + 1)) (o.drop (m + 1))) := fun W hu => st_none (by rw [HL2.out]; omega)
              skip
              go_wp2_with (first | (go_at_call 39; (with_reducible refine (C39.out _).mono ?_); rintro e w3 ⟨rfl, HU3⟩; (have HUE : Hid (Up wr w3) := HX.out.trans ((Up.drew _).trans HU3.out))) | ((fail_if_success have := HF1); at_builtin; refine wpList_append_on rfl _ _ rfl wr.heap.size _ [] rfl (OR.nil _ _ _ _) _ _ _ (o.take (m + 1)) rfl (by first | exact HL1.out | (rw [HL1.out]; omega)) (by first | exact HSt.out _ (HUE.out) | exact (HSt.out _ (HUE.out)).any) (by rw [HL1.out]; simp only [List.length_nil]; omega) (HSZ.out _ (HUE.out)) ?_; intro v7 w7 hown7 hg7; (have HF1 : Hid (OPl wr.heap.size w7 v7 ([] ++ o.take (m + 1))) := hown7); (have HG1 : Hid (Up wr w7) := grown_up (HUE.out) hg7 (fun j hj => by cases hj)); clear hown7 hg7) | ((fail_if_success have := HF2); at_builtin; refine wpList_append_on rfl _ _ rfl wr.heap.size _ _ rfl (HF1.out.alloc _) _ _ _ [i] rfl rfl (st_one w7 i) (by rw [List.length_append, HL1.out]; simp only [List.length_nil, List.length_cons]; omega) (HSZ.out _ (HG1.out.trans (Up.alloc _ _))) ?_; intro v8 w8 hown8 hg8; (have HF2 : Hid (OPl wr.heap.size w8 v8 (([] ++ o.take (m + 1)) ++ [i])) := hown8); (have HG2 : Hid (Up wr w8) := grown_up (HG1.out.trans (Up.alloc _ _)) hg8 (fun j hj => (HF1.out.lt j hj).1)); clear hown8 hg8) | (at_builtin; refine wpList_append_on rfl _ _ rfl wr.heap.size _ _ rfl HF2.out _ _ _ (o.drop (m + 1)) rfl (by first | exact HL2.out | (rw [HL2.out]; omega)) (by first | exact HSd.out _ HG2.out | exact (HSd.out _ HG2.out).any) (by rw [List.length_append, List.length_append, HL1.out, HL2.out]; simp only [List.length_nil, List.length_cons]; omega) (HSZ.out _ HG2.out) ?_; intro v9 w9 hown9 hg9; (obtain ⟨q9, c9, hv9, -⟩ := OR.form hown9); (rw [HLe.out] at hv9); subst hv9; (have HF3 : Hid (OPl wr.heap.size w9 (.slice q9 (i + 1) c9) ((([] ++ o.take (m + 1)) ++ [i]) ++ o.drop (m + 1))) := hown9); (have HG3 : Hid (Up wr w9) := grown_up HG2.out hg9 (fun j hj => (HF2.out.lt j hj).1)); clear hown9 hg9))
              go_roundw
              case rel => exact ⟨i + 1, q9, c9, _, by omega, rfl, by go_num, HIN.out, OR.base HF3.out HI.out.2.2.size, HI.out.2.2.trans HG3.out⟩
              case measure => simp [intOf]; omega
            · have HSd : Hid (∀ W, Up wr W → St W (some ⟨og, m + 1, none⟩) (c - (m + 1)) (o.drop (m + 1))) := fun W hu => st_drop (OR.up HI.out.2.1 hu) HI.out.1.length (by omega)
              skip
              go_wp2_with (first | (go_at_call 39; (with_reducible refine (C39.out _).mono ?_); rintro e w3 ⟨rfl, HU3⟩; (have HUE : Hid (Up wr w3) := HX.out.trans ((Up.drew _).trans HU3.out))) | ((fail_if_success have := HF1); at_builtin; refine wpList_append_on rfl _ _ rfl wr.heap.size _ [] rfl (OR.nil _ _ _ _) _ _ _ (o.take (m + 1)) rfl (by first | exact HL1.out | (rw [HL1.out]; omega)) (by first | exact HSt.out _ (HUE.out) | exact (HSt.out _ (HUE.out)).any) (by rw [HL1.out]; simp only [List.length_nil]; omega) (HSZ.out _ (HUE.out)) ?_; intro v7 w7 hown7 hg7; (have HF1 : Hid (OPl wr.heap.size w7 v7 ([] ++ o.take (m + 1))) := hown7); (have HG1 : Hid (Up wr w7) := grown_up (HUE.out) hg7 (fun j hj => by cases hj)); clear hown7 hg7) | ((fail_if_success have := HF2); at_builtin; refine wpList_append_on rfl _ _ rfl wr.heap.size _ _ rfl (HF1.out.alloc _) _ _ _ [i] rfl rfl (st_one w7 i) (by rw [List.length_append, HL1.out]; simp only [List.length_nil, List.length_cons]; omega) (HSZ.out _ (HG1.out.trans (Up.alloc _ _))) ?_; intro v8 w8 hown8 hg8; (have HF2 : Hid (OPl wr.heap.size w8 v8 (([] ++ o.take (m + 1)) ++ [i])) := hown8); (have HG2 : Hid (Up wr w8) := grown_up (HG1.out.trans (Up.alloc _ _)) hg8 (fun j hj => (HF1.out.lt j hj).1)); clear hown8 hg8) | (at_builtin; refine wpList_append_on rfl _ _ rfl wr.heap.size _ _ rfl HF2.out _ _ _ (o.drop (m + 1)) rfl (by first | exact HL2.out | (rw [HL2.out]; omega)) (by first | exact HSd.out _ HG2.out | exact (HSd.out _ HG2.out).any) (by rw [List.length_append, List.length_append, HL1.out, HL2.out]; simp only [List.length_nil, List.length_cons]; omega) (HSZ.out _ HG2.out) ?_; intro v9 w9 hown9 hg9; (obtain ⟨q9, c9, hv9, -⟩ := OR.form hown9); (rw [HLe.out] at hv9); subst hv9; (have HF3 : Hid (OPl wr.heap.size w9 (.slice q9 (i + 1) c9) ((([] ++ o.take (m + 1)) ++ [i]) ++ o.drop (m + 1))) := hown9); (have HG3 : Hid (Up wr w9) := grown_up HG2.out hg9 (fun j hj => (HF2.out.lt j hj).1)); clear hown9 hg9))
              go_roundw
              case rel => exact ⟨i + 1, q9, c9, _, by omega, rfl, by go_num, HIN.out, OR.base HF3.out HI.out.2.2.size, HI.out.2.2.trans HG3.out⟩
              case measure => simp [intOf]; omega
    · obtain rfl : i = n := by omega
      go_wp2
      go_ret
      exact ⟨_, _, o, rfl, HI⟩
end Go.Proofs.Ytijfmaepoamkgaa
