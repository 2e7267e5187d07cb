/- PlotsApart, walked. -/
import Derived.Test.YtijfmaepoamkgabTa
import Derived.BigQuiet
namespace Go.Proofs.Ytijfmaepoamkgab
open Go.ChangeShapes Go.WideShapes Go.ChangeAt Go.RowKit Go.Fl Go.Sort
attribute [local go_sem] run_store_float call18 run_neg fold_eq fold_ne fold_lt fold_gt abs_eq

theorem eg6 (args : Array Value) (w : World) : (callFunc 6 args).run Try.prog w = .ok (.enter 6 args) w := enters Try.func6 (by kernel_rfl) (by kernel_rfl) _ _
theorem wpOp_flG {P : Program} {ops : Array Oper} {Q : Exit → Act → World → Prop} {K : Act → World → Prop} {a : Act} {w : World} {m : Nat} {o : Oper} {op : BinOp} {t1 t2 : TypeId} {x y : Operand} {d : Option Tmp} (ho : ops[m]? = some o) (hd : o.dst = d) (hw : Region.wanted o (yielded ops a.tmps) = true) (hop : o.op = .binOp op t1 x y t2) (p q : Nat) (hx : a.eval x = .float .f64 p) (hy : a.eval y = .float .f64 q) (h4 : op = .add ∨ op = .sub ∨ op = .mul ∨ op = .quo)
    (h : ∀ r n, Hid (ab r = bin op (ab p) (ab q)) → K (a.put d (.float .f64 r)) (w.drewN n)) : wpOp P ops Q m K a w := by
  subst hd
  unfold wpOp
  simp only [ho, hw, if_true]
  left
  unfold Oper.wp
  obtain ⟨r, n, e, hr⟩ := run_fl (P := P) op t1 p q w h4
  have e2 : (execOp a.eval o).run P w = .ok (.value (.float .f64 r)) (w.drewN n) := by
    rcases h4 with rfl | rfl | rfl | rfl <;> simp [execOp, hop, hx, hy, eqGuard, e]
  rw [e2]
  exact h r n hr
theorem wpOp_skip {P : Program} {ops : Array Oper} {Q : Exit → Act → World → Prop} {K : Act → World → Prop} {a : Act} {w : World} {m : Nat} {o : Oper} (d : Option Tmp) (ho : ops[m]? = some o) (hd : o.dst = d) (hw : Region.wanted o (yielded ops a.tmps) = false) (h : K (a.put d undef) w) : wpOp P ops Q m K a w := by
  subst hd
  unfold wpOp
  simp only [ho, hw]
  exact h
theorem mer_len {P : Nat → Plt} {n m s : Nat} {o : List Nat} {D : List Plt} (ho : InOrd P n o) (h : Tld P (mg P m s o) D) : D.length ≤ n ∧ (0 < n → 0 < D.length) := by
  have h1 := mg_len P m s o
  have h2 := ho.length
  have h3 := h.len
  refine ⟨by omega, fun h0 => ?_⟩
  have := mg_some P m s o (by omega)
  omega
theorem mer_apart {P : Nat → Plt} {n m s : Nat} {o : List Nat} {D : List Plt} (ha : ap P m s n = true) (ho : InOrd P n o) (h : Tld P (mg P m s o) D) : D.length = n ∧ ∀ j, j < n → Told (P o[j]!) (ab (P o[j]!).p) (D.getD j Plt.zero) := by
  have e := ap_mg ha ho
  rw [e] at h
  have h2 := ho.length
  have h3 := h.len
  rw [List.length_map] at h3
  refine ⟨by omega, fun j hj => ?_⟩
  have := h.all j (by rw [List.length_map]; omega)
  have g : (o.map fun k => (k, ab (P k).p))[j]! = (o[j]!, ab (P o[j]!).p) := by
    rw [getElem!_pos _ j (by rw [List.length_map]; omega), getElem!_pos o j (by omega), List.getElem_map]
  rw [g] at this
  exact this
set_option maxRecDepth 20000 in
set_option maxHeartbeats 8000000 in
theorem t3 {w : World} {p : Option Addr} {n cap m s : Nat} {P : Nat → Plt} (hc : n ≤ cap) (hV : n ≤ 100 → PV w p n cap P) : Calls Try.prog 3 #[.slice p n cap, .float .f64 m, .float .f64 s] w fun e w' => e = .returned (.bool true) ∧ Hid (Up w w') := by
  by_cases hn : n ≤ 100
  case neg =>
    have hn2 : (100 : Int) < n := by omega
    clear hV hc
    go_enter Try.func3, Try.ntmps3
    go_wp2_with (go_at_call 5; (with_reducible refine (t5 _).mono ?_); rintro e w' ⟨rfl, HU⟩)
    go_ret
    exact ⟨rfl, HU⟩
  have HV : Hid (PV w p n cap P) := hV hn
  have hn2 : ¬ (100 : Int) < n := by omega
  clear hV
  go_enter Try.func3, Try.ntmps3
  go_wp2_with fail
  go_loopw [7, 8, 9, 17, 18, 19, 20, 21, 22, 23, 24, 25, 26, 27, 28, 29, 30, 31, 32, 33, 34, 35, 36, 37, 38, 39, 40, 41, 42, 43, 44, 45, 46, 47, 48, 49, 50, 51, 52, 53, 54, 55, 56, 57] (fun v7 v8 _ _ _ _ _ _ _ _ _ _ _ _ _ _ _ _ _ _ _ _ _ _ _ _ _ _ _ _ _ _ _ _ _ _ _ _ _ _ _ _ _ _ wr => ∃ (i : Nat) (av : Bool), i ≤ n ∧ v7 = .bool av ∧ v8 = .int .i64 i ∧ Hid (av = ap P m s i) ∧ Hid (Up w wr)) (fun _ v8 _ _ _ _ _ _ _ _ _ _ _ _ _ _ _ _ _ _ _ _ _ _ _ _ _ _ _ _ _ _ _ _ _ _ _ _ _ _ _ _ _ _ _ => n - (intOf v8).toNat)
  case atStart => exact ⟨0, true, by omega, rfl, rfl, rfl, Up.refl _⟩
  case round =>
    obtain ⟨i, av, hi, rfl, rfl, HA, HU⟩ := hrel
    rename World => wr
    by_cases hlt : i < n
    · go_wp2_with fail
      go_loopw [7, 9, 23, 24, 25, 26, 27, 28, 29, 30, 31, 32, 33, 34, 35, 36, 37, 38, 39, 40, 41, 42, 43, 44, 45, 46, 47, 48, 49, 50, 51, 52, 53, 54, 55, 56, 57] (fun v7 v9 _ _ _ _ _ _ _ _ _ _ _ _ _ _ _ _ _ _ _ _ _ _ _ _ _ _ _ _ _ _ _ _ _ _ _ wr => ∃ (k : Nat) (bv : Bool), k ≤ i ∧ v7 = .bool bv ∧ v9 = .int .i64 k ∧ Hid (bv = (ap P m s i && apR P m s i k)) ∧ Hid (Up w wr)) (fun _ v9 _ _ _ _ _ _ _ _ _ _ _ _ _ _ _ _ _ _ _ _ _ _ _ _ _ _ _ _ _ _ _ _ _ _ _ _ => i - (intOf v9).toNat)
      case atStart => exact ⟨0, av, by omega, rfl, rfl, by show _ = _; rw [HA.out]; simp [apR], HU⟩
      case round =>
        clear HU HA
        obtain ⟨k, bv, hk, rfl, rfl, HA, HU⟩ := hrel
        rename World => wr
        by_cases hlk : k < i
        · obtain ⟨b, off, rfl, hP⟩ := HV.out.rd (by omega)
          have q1 := (hP i hlt).up HU.out
          have q2 := (hP k (by omega)).up HU.out
          have hkn : (k : Int) < n := by omega
          have HZ : Hid (∀ w', Up wr w' → w'.cell? ⟨b, off + i * 5, none⟩ = some (.float .f64 (P i).r) ∧ w'.cell? ⟨b, off + i * 5 + 1, none⟩ = some (.float .f64 (P i).s) ∧ w'.cell? ⟨b, off + k * 5, none⟩ = some (.float .f64 (P k).r) ∧ w'.cell? ⟨b, off + k * 5 + 1, none⟩ = some (.float .f64 (P k).s)) := fun w' hu => ⟨(q1.up hu).c0, (q1.up hu).c1, (q2.up hu).c0, (q2.up hu).c1⟩
          clear q1 q2
          have HP : Hid (∀ i, i < n → P5 w b (off + i * 5) (P i)) := hP
          clear hP
          have HNew : Hid (∀ nb, nearB m s (P i) (P k) = nb → (bv && !nb) = (ap P m s i && apR P m s i (k + 1))) := fun nb h => by rw [HA.out, ← h]; simp only [apR]; cases ap P m s i <;> simp
          have HW : Hid (nearB m s (P i) (P k) = (withB (P i).r (P k).r m && withB (P i).s (P k).s s)) := rfl
          generalize (P i).r = ir at *
          generalize (P i).s = is at *
          generalize (P k).r = kr at *
          generalize (P k).s = ks at *
          go_wp2_with fail
          cases hw1 : withB ir kr m
          · refine wp_region_shut 29 [(0, none), (1, none), (2, none), (3, none), (4, some false), (5, none), (6, none), (7, none), (8, none), (9, some false), (12, none), (10, some true), (11, some true), (13, none), (14, none), (15, none), (16, none), (17, none), (18, none), (19, some false), (20, none), (21, none), (22, none), (23, none), (24, some false), (27, none), (25, some true), (26, some true), (28, none)] (fun w' => w'.cell? ⟨b, off + i * 5, none⟩ = some (.float .f64 ir) ∧ w'.cell? ⟨b, off + i * 5 + 1, none⟩ = some (.float .f64 is) ∧ w'.cell? ⟨b, off + k * 5, none⟩ = some (.float .f64 kr) ∧ w'.cell? ⟨b, off + k * 5 + 1, none⟩ = some (.float .f64 ks)) (by kernel_rfl) (by decide) rfl (by kernel_rfl) (fun _ _ d _ _ h => by cases d <;> exact h) (HZ.out _ (Up.drew _)) ?_
            refine OrdS.looks (.slice (some ⟨b, off, none⟩) n cap) (some 28) _ rfl rfl (Or.inl ⟨by kernel_rfl, fun w' hS => ?_⟩) ?_
            · go_simp
            refine OrdS.looks (.int .i64 i) (some 29) _ rfl rfl (Or.inl ⟨by kernel_rfl, fun w' hS => ?_⟩) ?_
            · go_simp
            refine OrdS.looks (.pointer (some ⟨b, off + i * 5, none⟩)) (some 30) _ rfl rfl (Or.inl ⟨by kernel_rfl, fun w' hS => ?_⟩) ?_
            · go_simp
            refine OrdS.looks (.pointer (some ⟨b, off + i * 5, none⟩)) (some 31) _ rfl rfl (Or.inl ⟨by kernel_rfl, fun w' hS => ?_⟩) ?_
            · go_simp
            refine OrdS.reads (.float .f64 ir) (some 32) _ rfl rfl (Or.inl ⟨by kernel_rfl, fun w' hS => ?_⟩) ?_
            · obtain ⟨z1, z2, z3, z4⟩ := hS
              go_simp
            refine OrdS.looks (.slice (some ⟨b, off, none⟩) n cap) (some 33) _ rfl rfl (Or.inl ⟨by kernel_rfl, fun w' hS => ?_⟩) ?_
            · go_simp
            refine OrdS.looks (.int .i64 k) (some 34) _ rfl rfl (Or.inl ⟨by kernel_rfl, fun w' hS => ?_⟩) ?_
            · go_simp
            refine OrdS.looks (.pointer (some ⟨b, off + k * 5, none⟩)) (some 35) _ rfl rfl (Or.inl ⟨by kernel_rfl, fun w' hS => ?_⟩) ?_
            · go_simp
            refine OrdS.looks (.pointer (some ⟨b, off + k * 5, none⟩)) (some 36) _ rfl rfl (Or.inl ⟨by kernel_rfl, fun w' hS => ?_⟩) ?_
            · go_simp
            refine OrdS.reads (.float .f64 kr) (some 37) _ rfl rfl (Or.inl ⟨by kernel_rfl, fun w' hS => ?_⟩) ?_
            · obtain ⟨z1, z2, z3, z4⟩ := hS
              go_simp
            refine OrdS.looks (.float .f64 m) (some 40) _ rfl rfl (Or.inl ⟨by kernel_rfl, fun w' hS => ?_⟩) ?_
            · go_simp
            simp only [Act.put, List.setIfInBounds_toArray, List.set_cons_succ, List.set_cons_zero]
            refine OrdS.does ?_
            refine wpOp_flG (d := some 38) rfl rfl (by kernel_rfl) rfl ir kr rfl rfl (Or.inr (Or.inl rfl)) ?_
            intro ra na hra
            refine ⟨HZ.out _ ((Up.drew _).trans (Up.drewN _ _)), ?_⟩
            refine OrdS.does ?_
            refine wpOp_callG (f := 6) (some 39) rfl rfl (by kernel_rfl) rfl #[.float .f64 ra] (by kernel_rfl) (eg6 _ _) ((t6 ra _).mono ?_)
            rintro e w' ⟨rfl, hw⟩; subst w'
            refine ⟨_, rfl, HZ.out _ ((Up.drew _).trans (Up.drewN _ _)), ?_⟩
            have hLa : (ltF (ab (abs ra)) (ab m) || eqF (ab (abs ra)) (ab m)) = false := by rw [ab_abs, hra.out]; exact hw1
            refine OrdS.looks (.bool false) (some 41) _ rfl rfl (Or.inl ⟨by kernel_rfl, fun w' hS => ?_⟩) ?_
            · go_simp
              first | done | (simp only [hLa]) | (simp [hLa])
            refine OrdS.looks (.bool false) (some 42) _ rfl rfl (Or.inl ⟨by kernel_rfl, fun w' hS => ?_⟩) ?_
            · go_simp
            simp only [Act.put, List.setIfInBounds_toArray, List.set_cons_succ, List.set_cons_zero]
            refine OrdS.looks undef (some 43) _ rfl rfl (Or.inr ⟨by kernel_rfl, rfl⟩) ?_
            refine OrdS.looks undef (some 44) _ rfl rfl (Or.inr ⟨by kernel_rfl, rfl⟩) ?_
            refine OrdS.looks undef (some 45) _ rfl rfl (Or.inr ⟨by kernel_rfl, rfl⟩) ?_
            refine OrdS.looks undef (some 46) _ rfl rfl (Or.inr ⟨by kernel_rfl, rfl⟩) ?_
            refine OrdS.reads undef (some 47) _ rfl rfl (Or.inr ⟨by kernel_rfl, rfl⟩) ?_
            refine OrdS.looks undef (some 48) _ rfl rfl (Or.inr ⟨by kernel_rfl, rfl⟩) ?_
            refine OrdS.looks undef (some 49) _ rfl rfl (Or.inr ⟨by kernel_rfl, rfl⟩) ?_
            refine OrdS.looks undef (some 50) _ rfl rfl (Or.inr ⟨by kernel_rfl, rfl⟩) ?_
            refine OrdS.looks undef (some 51) _ rfl rfl (Or.inr ⟨by kernel_rfl, rfl⟩) ?_
            refine OrdS.reads undef (some 52) _ rfl rfl (Or.inr ⟨by kernel_rfl, rfl⟩) ?_
            refine OrdS.looks undef (some 55) _ rfl rfl (Or.inr ⟨by kernel_rfl, rfl⟩) ?_
            simp only [Act.put, List.setIfInBounds_toArray, List.set_cons_succ, List.set_cons_zero]
            refine OrdS.does ?_
            refine wpOp_skip (some 53) rfl rfl (by kernel_rfl) ?_
            refine ⟨HZ.out _ ((Up.drew _).trans (Up.drewN _ _)), ?_⟩
            refine OrdS.does ?_
            refine wpOp_skip (some 54) rfl rfl (by kernel_rfl) ?_
            refine ⟨HZ.out _ ((Up.drew _).trans (Up.drewN _ _)), ?_⟩
            refine OrdS.looks undef (some 56) _ rfl rfl (Or.inr ⟨by kernel_rfl, rfl⟩) ?_
            refine OrdS.ends ?_
            simp only [List.drop_succ_cons, List.drop_zero, Act.put, List.setIfInBounds_toArray]
            go_wp2
            have HB : Hid (bv = (ap P m s i && apR P m s i (k + 1))) := by show _ = _; have := HNew.out false (by rw [HW.out, hw1]; rfl); simpa using this
            go_roundw
            case rel => exact ⟨k + 1, bv, by omega, rfl, by go_num, HB, HU.out.trans (Up.drewN _ _)⟩
            case measure => simp [intOf]; omega
          · cases hw2 : withB is ks s
            · refine wp_region_shut 29 [(0, none), (1, none), (2, none), (3, none), (4, some false), (5, none), (6, none), (7, none), (8, none), (9, some false), (12, none), (10, some true), (11, some true), (13, none), (14, none), (15, none), (16, none), (17, none), (18, none), (19, some false), (20, none), (21, none), (22, none), (23, none), (24, some false), (27, none), (25, some true), (26, some true), (28, none)] (fun w' => w'.cell? ⟨b, off + i * 5, none⟩ = some (.float .f64 ir) ∧ w'.cell? ⟨b, off + i * 5 + 1, none⟩ = some (.float .f64 is) ∧ w'.cell? ⟨b, off + k * 5, none⟩ = some (.float .f64 kr) ∧ w'.cell? ⟨b, off + k * 5 + 1, none⟩ = some (.float .f64 ks)) (by kernel_rfl) (by decide) rfl (by kernel_rfl) (fun _ _ d _ _ h => by cases d <;> exact h) (HZ.out _ (Up.drew _)) ?_
              refine OrdS.looks (.slice (some ⟨b, off, none⟩) n cap) (some 28) _ rfl rfl (Or.inl ⟨by kernel_rfl, fun w' hS => ?_⟩) ?_
              · go_simp
              refine OrdS.looks (.int .i64 i) (some 29) _ rfl rfl (Or.inl ⟨by kernel_rfl, fun w' hS => ?_⟩) ?_
              · go_simp
              refine OrdS.looks (.pointer (some ⟨b, off + i * 5, none⟩)) (some 30) _ rfl rfl (Or.inl ⟨by kernel_rfl, fun w' hS => ?_⟩) ?_
              · go_simp
              refine OrdS.looks (.pointer (some ⟨b, off + i * 5, none⟩)) (some 31) _ rfl rfl (Or.inl ⟨by kernel_rfl, fun w' hS => ?_⟩) ?_
              · go_simp
              refine OrdS.reads (.float .f64 ir) (some 32) _ rfl rfl (Or.inl ⟨by kernel_rfl, fun w' hS => ?_⟩) ?_
              · obtain ⟨z1, z2, z3, z4⟩ := hS
                go_simp
              refine OrdS.looks (.slice (some ⟨b, off, none⟩) n cap) (some 33) _ rfl rfl (Or.inl ⟨by kernel_rfl, fun w' hS => ?_⟩) ?_
              · go_simp
              refine OrdS.looks (.int .i64 k) (some 34) _ rfl rfl (Or.inl ⟨by kernel_rfl, fun w' hS => ?_⟩) ?_
              · go_simp
              refine OrdS.looks (.pointer (some ⟨b, off + k * 5, none⟩)) (some 35) _ rfl rfl (Or.inl ⟨by kernel_rfl, fun w' hS => ?_⟩) ?_
              · go_simp
              refine OrdS.looks (.pointer (some ⟨b, off + k * 5, none⟩)) (some 36) _ rfl rfl (Or.inl ⟨by kernel_rfl, fun w' hS => ?_⟩) ?_
              · go_simp
              refine OrdS.reads (.float .f64 kr) (some 37) _ rfl rfl (Or.inl ⟨by kernel_rfl, fun w' hS => ?_⟩) ?_
              · obtain ⟨z1, z2, z3, z4⟩ := hS
                go_simp
              refine OrdS.looks (.float .f64 m) (some 40) _ rfl rfl (Or.inl ⟨by kernel_rfl, fun w' hS => ?_⟩) ?_
              · go_simp
              simp only [Act.put, List.setIfInBounds_toArray, List.set_cons_succ, List.set_cons_zero]
              refine OrdS.does ?_
              refine wpOp_flG (d := some 38) rfl rfl (by kernel_rfl) rfl ir kr rfl rfl (Or.inr (Or.inl rfl)) ?_
              intro ra na hra
              refine ⟨HZ.out _ ((Up.drew _).trans (Up.drewN _ _)), ?_⟩
              refine OrdS.does ?_
              refine wpOp_callG (f := 6) (some 39) rfl rfl (by kernel_rfl) rfl #[.float .f64 ra] (by kernel_rfl) (eg6 _ _) ((t6 ra _).mono ?_)
              rintro e w' ⟨rfl, hw⟩; subst w'
              refine ⟨_, rfl, HZ.out _ ((Up.drew _).trans (Up.drewN _ _)), ?_⟩
              have hLa : (ltF (ab (abs ra)) (ab m) || eqF (ab (abs ra)) (ab m)) = true := by rw [ab_abs, hra.out]; exact hw1
              refine OrdS.looks (.bool true) (some 41) _ rfl rfl (Or.inl ⟨by kernel_rfl, fun w' hS => ?_⟩) ?_
              · go_simp
                first | done | (simp only [hLa]) | (simp [hLa])
              refine OrdS.looks (.bool true) (some 42) _ rfl rfl (Or.inl ⟨by kernel_rfl, fun w' hS => ?_⟩) ?_
              · go_simp
              simp only [Act.put, List.setIfInBounds_toArray, List.set_cons_succ, List.set_cons_zero]
              refine OrdS.looks (.slice (some ⟨b, off, none⟩) n cap) (some 43) _ rfl rfl (Or.inl ⟨by kernel_rfl, fun w' hS => ?_⟩) ?_
              · go_simp
              refine OrdS.looks (.int .i64 i) (some 44) _ rfl rfl (Or.inl ⟨by kernel_rfl, fun w' hS => ?_⟩) ?_
              · go_simp
              refine OrdS.looks (.pointer (some ⟨b, off + i * 5, none⟩)) (some 45) _ rfl rfl (Or.inl ⟨by kernel_rfl, fun w' hS => ?_⟩) ?_
              · go_simp
              refine OrdS.looks (.pointer (some ⟨b, off + i * 5 + 1, none⟩)) (some 46) _ rfl rfl (Or.inl ⟨by kernel_rfl, fun w' hS => ?_⟩) ?_
              · go_simp
              refine OrdS.reads (.float .f64 is) (some 47) _ rfl rfl (Or.inl ⟨by kernel_rfl, fun w' hS => ?_⟩) ?_
              · obtain ⟨z1, z2, z3, z4⟩ := hS
                go_simp
              refine OrdS.looks (.slice (some ⟨b, off, none⟩) n cap) (some 48) _ rfl rfl (Or.inl ⟨by kernel_rfl, fun w' hS => ?_⟩) ?_
              · go_simp
              refine OrdS.looks (.int .i64 k) (some 49) _ rfl rfl (Or.inl ⟨by kernel_rfl, fun w' hS => ?_⟩) ?_
              · go_simp
              refine OrdS.looks (.pointer (some ⟨b, off + k * 5, none⟩)) (some 50) _ rfl rfl (Or.inl ⟨by kernel_rfl, fun w' hS => ?_⟩) ?_
              · go_simp
              refine OrdS.looks (.pointer (some ⟨b, off + k * 5 + 1, none⟩)) (some 51) _ rfl rfl (Or.inl ⟨by kernel_rfl, fun w' hS => ?_⟩) ?_
              · go_simp
              refine OrdS.reads (.float .f64 ks) (some 52) _ rfl rfl (Or.inl ⟨by kernel_rfl, fun w' hS => ?_⟩) ?_
              · obtain ⟨z1, z2, z3, z4⟩ := hS
                go_simp
              refine OrdS.looks (.float .f64 s) (some 55) _ rfl rfl (Or.inl ⟨by kernel_rfl, fun w' hS => ?_⟩) ?_
              · go_simp
              simp only [Act.put, List.setIfInBounds_toArray, List.set_cons_succ, List.set_cons_zero]
              refine OrdS.does ?_
              refine wpOp_flG (d := some 53) rfl rfl (by kernel_rfl) rfl is ks rfl rfl (Or.inr (Or.inl rfl)) ?_
              intro rb nb hrb
              refine ⟨HZ.out _ (((Up.drew _).trans (Up.drewN _ _)).trans (Up.drewN _ _)), ?_⟩
              refine OrdS.does ?_
              refine wpOp_callG (f := 6) (some 54) rfl rfl (by kernel_rfl) rfl #[.float .f64 rb] (by kernel_rfl) (eg6 _ _) ((t6 rb _).mono ?_)
              rintro e w' ⟨rfl, hw⟩; subst w'
              refine ⟨_, rfl, HZ.out _ (((Up.drew _).trans (Up.drewN _ _)).trans (Up.drewN _ _)), ?_⟩
              have hLb : (ltF (ab (abs rb)) (ab s) || eqF (ab (abs rb)) (ab s)) = false := by rw [ab_abs, hrb.out]; exact hw2
              refine OrdS.looks (.bool false) (some 56) _ rfl rfl (Or.inl ⟨by kernel_rfl, fun w' hS => ?_⟩) ?_
              · go_simp
                first | done | (simp only [hLb]) | (simp [hLb])
              refine OrdS.ends ?_
              simp only [List.drop_succ_cons, List.drop_zero, Act.put, List.setIfInBounds_toArray]
              go_wp2
              have HB : Hid (bv = (ap P m s i && apR P m s i (k + 1))) := by show _ = _; have := HNew.out false (by rw [HW.out, hw1, hw2]; rfl); simpa using this
              go_roundw
              case rel => exact ⟨k + 1, bv, by omega, rfl, by go_num, HB, HU.out.trans (Up.drewN _ _)⟩
              case measure => simp [intOf]; omega
            · refine wp_region_shut 29 [(0, none), (1, none), (2, none), (3, none), (4, some false), (5, none), (6, none), (7, none), (8, none), (9, some false), (12, none), (10, some true), (11, some true), (13, none), (14, none), (15, none), (16, none), (17, none), (18, none), (19, some false), (20, none), (21, none), (22, none), (23, none), (24, some false), (27, none), (25, some true), (26, some true), (28, none)] (fun w' => w'.cell? ⟨b, off + i * 5, none⟩ = some (.float .f64 ir) ∧ w'.cell? ⟨b, off + i * 5 + 1, none⟩ = some (.float .f64 is) ∧ w'.cell? ⟨b, off + k * 5, none⟩ = some (.float .f64 kr) ∧ w'.cell? ⟨b, off + k * 5 + 1, none⟩ = some (.float .f64 ks)) (by kernel_rfl) (by decide) rfl (by kernel_rfl) (fun _ _ d _ _ h => by cases d <;> exact h) (HZ.out _ (Up.drew _)) ?_
              refine OrdS.looks (.slice (some ⟨b, off, none⟩) n cap) (some 28) _ rfl rfl (Or.inl ⟨by kernel_rfl, fun w' hS => ?_⟩) ?_
              · go_simp
              refine OrdS.looks (.int .i64 i) (some 29) _ rfl rfl (Or.inl ⟨by kernel_rfl, fun w' hS => ?_⟩) ?_
              · go_simp
              refine OrdS.looks (.pointer (some ⟨b, off + i * 5, none⟩)) (some 30) _ rfl rfl (Or.inl ⟨by kernel_rfl, fun w' hS => ?_⟩) ?_
              · go_simp
              refine OrdS.looks (.pointer (some ⟨b, off + i * 5, none⟩)) (some 31) _ rfl rfl (Or.inl ⟨by kernel_rfl, fun w' hS => ?_⟩) ?_
              · go_simp
              refine OrdS.reads (.float .f64 ir) (some 32) _ rfl rfl (Or.inl ⟨by kernel_rfl, fun w' hS => ?_⟩) ?_
              · obtain ⟨z1, z2, z3, z4⟩ := hS
                go_simp
              refine OrdS.looks (.slice (some ⟨b, off, none⟩) n cap) (some 33) _ rfl rfl (Or.inl ⟨by kernel_rfl, fun w' hS => ?_⟩) ?_
              · go_simp
              refine OrdS.looks (.int .i64 k) (some 34) _ rfl rfl (Or.inl ⟨by kernel_rfl, fun w' hS => ?_⟩) ?_
              · go_simp
              refine OrdS.looks (.pointer (some ⟨b, off + k * 5, none⟩)) (some 35) _ rfl rfl (Or.inl ⟨by kernel_rfl, fun w' hS => ?_⟩) ?_
              · go_simp
              refine OrdS.looks (.pointer (some ⟨b, off + k * 5, none⟩)) (some 36) _ rfl rfl (Or.inl ⟨by kernel_rfl, fun w' hS => ?_⟩) ?_
              · go_simp
              refine OrdS.reads (.float .f64 kr) (some 37) _ rfl rfl (Or.inl ⟨by kernel_rfl, fun w' hS => ?_⟩) ?_
              · obtain ⟨z1, z2, z3, z4⟩ := hS
                go_simp
              refine OrdS.looks (.float .f64 m) (some 40) _ rfl rfl (Or.inl ⟨by kernel_rfl, fun w' hS => ?_⟩) ?_
              · go_simp
              simp only [Act.put, List.setIfInBounds_toArray, List.set_cons_succ, List.set_cons_zero]
              refine OrdS.does ?_
              refine wpOp_flG (d := some 38) rfl rfl (by kernel_rfl) rfl ir kr rfl rfl (Or.inr (Or.inl rfl)) ?_
              intro ra na hra
              refine ⟨HZ.out _ ((Up.drew _).trans (Up.drewN _ _)), ?_⟩
              refine OrdS.does ?_
              refine wpOp_callG (f := 6) (some 39) rfl rfl (by kernel_rfl) rfl #[.float .f64 ra] (by kernel_rfl) (eg6 _ _) ((t6 ra _).mono ?_)
              rintro e w' ⟨rfl, hw⟩; subst w'
              refine ⟨_, rfl, HZ.out _ ((Up.drew _).trans (Up.drewN _ _)), ?_⟩
              have hLa : (ltF (ab (abs ra)) (ab m) || eqF (ab (abs ra)) (ab m)) = true := by rw [ab_abs, hra.out]; exact hw1
              refine OrdS.looks (.bool true) (some 41) _ rfl rfl (Or.inl ⟨by kernel_rfl, fun w' hS => ?_⟩) ?_
              · go_simp
                first | done | (simp only [hLa]) | (simp [hLa])
              refine OrdS.looks (.bool true) (some 42) _ rfl rfl (Or.inl ⟨by kernel_rfl, fun w' hS => ?_⟩) ?_
              · go_simp
              simp only [Act.put, List.setIfInBounds_toArray, List.set_cons_succ, List.set_cons_zero]
              refine OrdS.looks (.slice (some ⟨b, off, none⟩) n cap) (some 43) _ rfl rfl (Or.inl ⟨by kernel_rfl, fun w' hS => ?_⟩) ?_
              · go_simp
              refine OrdS.looks (.int .i64 i) (some 44) _ rfl rfl (Or.inl ⟨by kernel_rfl, fun w' hS => ?_⟩) ?_
              · go_simp
              refine OrdS.looks (.pointer (some ⟨b, off + i * 5, none⟩)) (some 45) _ rfl rfl (Or.inl ⟨by kernel_rfl, fun w' hS => ?_⟩) ?_
              · go_simp
              refine OrdS.looks (.pointer (some ⟨b, off + i * 5 + 1, none⟩)) (some 46) _ rfl rfl (Or.inl ⟨by kernel_rfl, fun w' hS => ?_⟩) ?_
              · go_simp
              refine OrdS.reads (.float .f64 is) (some 47) _ rfl rfl (Or.inl ⟨by kernel_rfl, fun w' hS => ?_⟩) ?_
              · obtain ⟨z1, z2, z3, z4⟩ := hS
                go_simp
              refine OrdS.looks (.slice (some ⟨b, off, none⟩) n cap) (some 48) _ rfl rfl (Or.inl ⟨by kernel_rfl, fun w' hS => ?_⟩) ?_
              · go_simp
              refine OrdS.looks (.int .i64 k) (some 49) _ rfl rfl (Or.inl ⟨by kernel_rfl, fun w' hS => ?_⟩) ?_
              · go_simp
              refine OrdS.looks (.pointer (some ⟨b, off + k * 5, none⟩)) (some 50) _ rfl rfl (Or.inl ⟨by kernel_rfl, fun w' hS => ?_⟩) ?_
              · go_simp
              refine OrdS.looks (.pointer (some ⟨b, off + k * 5 + 1, none⟩)) (some 51) _ rfl rfl (Or.inl ⟨by kernel_rfl, fun w' hS => ?_⟩) ?_
              · go_simp
              refine OrdS.reads (.float .f64 ks) (some 52) _ rfl rfl (Or.inl ⟨by kernel_rfl, fun w' hS => ?_⟩) ?_
              · obtain ⟨z1, z2, z3, z4⟩ := hS
                go_simp
              refine OrdS.looks (.float .f64 s) (some 55) _ rfl rfl (Or.inl ⟨by kernel_rfl, fun w' hS => ?_⟩) ?_
              · go_simp
              simp only [Act.put, List.setIfInBounds_toArray, List.set_cons_succ, List.set_cons_zero]
              refine OrdS.does ?_
              refine wpOp_flG (d := some 53) rfl rfl (by kernel_rfl) rfl is ks rfl rfl (Or.inr (Or.inl rfl)) ?_
              intro rb nb hrb
              refine ⟨HZ.out _ (((Up.drew _).trans (Up.drewN _ _)).trans (Up.drewN _ _)), ?_⟩
              refine OrdS.does ?_
              refine wpOp_callG (f := 6) (some 54) rfl rfl (by kernel_rfl) rfl #[.float .f64 rb] (by kernel_rfl) (eg6 _ _) ((t6 rb _).mono ?_)
              rintro e w' ⟨rfl, hw⟩; subst w'
              refine ⟨_, rfl, HZ.out _ (((Up.drew _).trans (Up.drewN _ _)).trans (Up.drewN _ _)), ?_⟩
              have hLb : (ltF (ab (abs rb)) (ab s) || eqF (ab (abs rb)) (ab s)) = true := by rw [ab_abs, hrb.out]; exact hw2
              refine OrdS.looks (.bool true) (some 56) _ rfl rfl (Or.inl ⟨by kernel_rfl, fun w' hS => ?_⟩) ?_
              · go_simp
                first | done | (simp only [hLb]) | (simp [hLb])
              refine OrdS.ends ?_
              simp only [List.drop_succ_cons, List.drop_zero, Act.put, List.setIfInBounds_toArray]
              go_wp2
              have HB : Hid (false = (ap P m s i && apR P m s i (k + 1))) := by show _ = _; have := HNew.out true (by rw [HW.out, hw1, hw2]; rfl); simpa using this
              go_roundw
              case rel => exact ⟨k + 1, false, by omega, rfl, by go_num, HB, HU.out.trans (Up.drewN _ _)⟩
              case measure => simp [intOf]; omega
        · obtain rfl : k = i := by omega
          go_wp2
          go_roundw
          case rel => exact ⟨k + 1, bv, by omega, rfl, by go_num, HA, HU⟩
          case measure => simp [intOf]; omega
    · obtain rfl : i = n := by omega
      have CM : Hid (∀ W, Up w W → Calls Try.prog 7 #[.slice p i cap, .float .f64 m, .float .f64 s] W (MerR W P i m s)) := fun W hu => t7 (HV.out.up hu)
      have CO : Hid (∀ W, Up w W → Calls Try.prog 8 #[.slice p i cap] W (OrdR W P i)) := fun W hu => t8 (HV.out.up hu)
      cases av
      · have h2 : (0 : Int) < i := by rcases Nat.eq_zero_or_pos i with h | h; (subst h; exact absurd HA.out (by simp [ap])); omega
        go_wp2_with (first | (go_at_call 7; (with_reducible refine (CM.out _ HU.out).mono ?_); rintro e w1 ⟨pm, cm, o1, D, rfl, HM⟩; (have HU1 : Hid (Up w w1) := HU.out.trans HM.out.2.2.2); (have hd := mer_len HM.out.1 HM.out.2.1); (have h1 : ¬ (i : Int) < D.length := by omega); (have h3 : ((D.length : Int) == 0) = false := beq_false_of_ne (by omega)); clear hd; generalize D.length = dl at h1 h3 ⊢) | (go_at_call 8; (with_reducible refine (CO.out _ HU1.out).mono ?_); rintro e w2 ⟨po, co, o, rfl, HO⟩; (have HU2 : Hid (Up w w2) := HU1.out.trans HO.out.2.2)) | (go_at_call 5; (with_reducible refine (t5 _).mono ?_); rintro e w4 ⟨rfl, HU4⟩))
        go_ret
        exact ⟨rfl, HU2.out.trans HU4.out⟩
      · rcases Nat.eq_zero_or_pos i with hz | hz
        · have h2 : ¬ (0 : Int) < i := by omega
          clear hz
          go_wp2_with (first | (go_at_call 7; (with_reducible refine (CM.out _ HU.out).mono ?_); rintro e w1 ⟨pm, cm, o1, D, rfl, HM⟩; (have HU1 : Hid (Up w w1) := HU.out.trans HM.out.2.2.2); (have hd := mer_apart HA.out.symm HM.out.1 HM.out.2.1); (have HD : Hid (D.length = i ∧ ∀ j, j < i → Told (P o1[j]!) (ab (P o1[j]!).p) (D.getD j Plt.zero)) := hd); (have hd1 := hd.1); clear hd; rw [hd1]; clear hd1) | (go_at_call 8; (with_reducible refine (CO.out _ HU1.out).mono ?_); rintro e w2 ⟨po, co, o, rfl, HO⟩; (have HU2 : Hid (Up w w2) := HU1.out.trans HO.out.2.2)))
          have HE : Hid (o1 = o) := HM.out.1.uniq HO.out.1
          have HP2 : Hid (PO w2.heap.size w2 (.slice pm i cm) D ∨ PO 0 w2 (.slice pm i cm) D) := by
            right
            have h := po_base (b' := 0) HM.out.2.2.1 (Nat.zero_le _)
            rw [HD.out.1] at h
            exact h.up HO.out.2.2
          have HO2 : Hid (OPl 0 w2 (.slice po i co) o) := OR.base HO.out.2.1 (Nat.zero_le _)
          go_loopw [6, 12, 94, 95, 96, 97, 98, 99, 100, 101, 102, 103, 104, 105, 106, 107, 108, 109, 110, 111, 112] (fun _ v12 _ _ _ _ _ _ _ _ _ _ _ _ _ _ _ _ _ _ _ wr => ∃ j : Nat, j ≤ i ∧ v12 = .int .i64 j ∧ Hid (Up w2 wr)) (fun _ v12 _ _ _ _ _ _ _ _ _ _ _ _ _ _ _ _ _ _ _ _ => i - (intOf v12).toNat)
          case atStart => exact ⟨0, by omega, rfl, Up.refl _⟩
          case round =>
            obtain ⟨j, hj, rfl, HR⟩ := hrel
            rename World => wr
            by_cases hlt : j < i
            · obtain ⟨b, off, rfl, hP⟩ := HV.out.rd (by omega)
              have hoj := OR.form HO2.out
              have hol : o.length = i := HO.out.1.length
              obtain ⟨og, hog⟩ : ∃ g, po = some ⟨g, 0, none⟩ := by
                obtain ⟨p', c', e1, e2⟩ := hoj
                simp only [Value.slice.injEq] at e1
                rw [e1.1]
                exact e2 (by omega)
              subst hog
              have z0 := OR.cell (OR.up HO2.out HR.out) (i := j) (by omega)
              have kn := HO.out.1.at hlt
              have HP3 : PO 0 wr (.slice pm i cm) D := by
                rcases HP2.out with h | h
                · exact po_base (h.up HR.out) (Nat.zero_le _)
                · exact h.up HR.out
              obtain ⟨g, hg, _, _, h5⟩ := HP3.at (i := j) (by rw [HD.out.1]; exact hlt)
              subst hg
              have ht := HD.out.2 j hlt
              rw [HE.out] at ht
              generalize hk : o[j]! = k at *
              unfold nv at z0
              have h6 := (hP k kn).up (HU2.out.trans HR.out)
              have fitk := HV.out.fit k kn
              generalize D.getD j Plt.zero = d at *
              generalize P k = q at *
              have C9 : Hid (∀ W, Calls Try.prog 9 #[.agg #[.float .f64 d.r, .float .f64 d.s, .float .f64 d.p, .float .f64 d.b, .float .f64 d.t], .agg #[.float .f64 q.r, .float .f64 q.s, .float .f64 q.p, .float .f64 q.b, .float .f64 q.t]] W fun e w' => e = .returned (.bool true) ∧ Hid (Up W w')) := fun W => t9 ht fitk W
              have HS : Hid (wr.drew.cell? ⟨og, j, none⟩ = some (.int .i64 k) ∧ P5 wr.drew g (j * 5) d ∧ P5 wr.drew b (off + k * 5) q) := ⟨cell_up z0 (Up.drew _), h5.up (Up.drew _), h6.up (Up.drew _)⟩
              have kn2 : (k : Int) < i := by omega
              clear z0 h5 h6 ht fitk hP hoj HP3 hk
              go_wp2_with fail
              refine wp_region_shut 11 [(0, none), (1, none), (2, none), (3, some false), (4, none), (5, none), (6, none), (7, none), (8, some false), (9, none), (10, some false)] (fun w' => w'.cell? ⟨og, j, none⟩ = some (.int .i64 k) ∧ P5 w' g (j * 5) d ∧ P5 w' b (off + k * 5) q) (by kernel_rfl) (by decide) rfl (by kernel_rfl) (fun _ _ d _ _ h => by cases d <;> exact h) HS.out ?_
              refine OrdS.looks (.slice (some ⟨g, 0, none⟩) i cm) (some 100) _ rfl rfl (Or.inl ⟨by kernel_rfl, fun w' hS => ?_⟩) ?_
              · go_simp
              refine OrdS.looks (.int .i64 j) (some 101) _ rfl rfl (Or.inl ⟨by kernel_rfl, fun w' hS => ?_⟩) ?_
              · go_simp
              refine OrdS.looks (.pointer (some ⟨g, j * 5, none⟩)) (some 102) _ rfl rfl (Or.inl ⟨by kernel_rfl, fun w' hS => ?_⟩) ?_
              · go_simp
              refine OrdS.reads (.agg #[.float .f64 d.r, .float .f64 d.s, .float .f64 d.p, .float .f64 d.b, .float .f64 d.t]) (some 103) _ rfl rfl (Or.inl ⟨by kernel_rfl, fun w' hS => ?_⟩) ?_
              · obtain ⟨z0, ⟨a0, a1, a2, a3, a4⟩, ⟨b0, b1, b2, b3, b4⟩⟩ := hS
                go_simp
              refine OrdS.looks (.slice (some ⟨b, off, none⟩) i cap) (some 104) _ rfl rfl (Or.inl ⟨by kernel_rfl, fun w' hS => ?_⟩) ?_
              · go_simp
              refine OrdS.looks (.slice (some ⟨og, 0, none⟩) i co) (some 105) _ rfl rfl (Or.inl ⟨by kernel_rfl, fun w' hS => ?_⟩) ?_
              · go_simp
              refine OrdS.looks (.int .i64 j) (some 106) _ rfl rfl (Or.inl ⟨by kernel_rfl, fun w' hS => ?_⟩) ?_
              · go_simp
              refine OrdS.looks (.pointer (some ⟨og, j, none⟩)) (some 107) _ rfl rfl (Or.inl ⟨by kernel_rfl, fun w' hS => ?_⟩) ?_
              · go_simp
              refine OrdS.reads (.int .i64 k) (some 108) _ rfl rfl (Or.inl ⟨by kernel_rfl, fun w' hS => ?_⟩) ?_
              · obtain ⟨z0, ⟨a0, a1, a2, a3, a4⟩, ⟨b0, b1, b2, b3, b4⟩⟩ := hS
                go_simp
              refine OrdS.looks (.pointer (some ⟨b, off + k * 5, none⟩)) (some 109) _ rfl rfl (Or.inl ⟨by kernel_rfl, fun w' hS => ?_⟩) ?_
              · go_simp
              refine OrdS.reads (.agg #[.float .f64 q.r, .float .f64 q.s, .float .f64 q.p, .float .f64 q.b, .float .f64 q.t]) (some 110) _ rfl rfl (Or.inl ⟨by kernel_rfl, fun w' hS => ?_⟩) ?_
              · obtain ⟨z0, ⟨a0, a1, a2, a3, a4⟩, ⟨b0, b1, b2, b3, b4⟩⟩ := hS
                go_simp
              refine OrdS.ends ?_
              simp only [List.drop_succ_cons, List.drop_zero, Act.put, List.setIfInBounds_toArray]
              go_wp2_with (go_at_call 9; (with_reducible refine (C9.out _).mono ?_); rintro e w3 ⟨rfl, HU3⟩)
              go_roundw
              case rel => exact ⟨j + 1, by omega, by go_num, HR.out.trans ((Up.drew _).trans HU3.out)⟩
              case measure => simp [intOf]; omega
            · obtain rfl : j = i := by omega
              go_wp2_with (go_at_call 5; (with_reducible refine (t5 _).mono ?_); rintro e w4 ⟨rfl, HU4⟩)
              go_ret
              exact ⟨rfl, HU2.out.trans (HR.out.trans HU4.out)⟩
        · have h2 : (0 : Int) < i := by omega
          clear hz
          have h3 : ((i : Int) == 0) = false := beq_false_of_ne (by omega)
          go_wp2_with (first | (go_at_call 7; (with_reducible refine (CM.out _ HU.out).mono ?_); rintro e w1 ⟨pm, cm, o1, D, rfl, HM⟩; (have HU1 : Hid (Up w w1) := HU.out.trans HM.out.2.2.2); (have hd := mer_apart HA.out.symm HM.out.1 HM.out.2.1); (have HD : Hid (D.length = i ∧ ∀ j, j < i → Told (P o1[j]!) (ab (P o1[j]!).p) (D.getD j Plt.zero)) := hd); (have hd1 := hd.1); clear hd; rw [hd1]; clear hd1) | (go_at_call 8; (with_reducible refine (CO.out _ HU1.out).mono ?_); rintro e w2 ⟨po, co, o, rfl, HO⟩; (have HU2 : Hid (Up w w2) := HU1.out.trans HO.out.2.2)))
          have HE : Hid (o1 = o) := HM.out.1.uniq HO.out.1
          have HP2 : Hid (PO w2.heap.size w2 (.slice pm i cm) D ∨ PO 0 w2 (.slice pm i cm) D) := by
            right
            have h := po_base (b' := 0) HM.out.2.2.1 (Nat.zero_le _)
            rw [HD.out.1] at h
            exact h.up HO.out.2.2
          have HO2 : Hid (OPl 0 w2 (.slice po i co) o) := OR.base HO.out.2.1 (Nat.zero_le _)
          go_loopw [6, 12, 94, 95, 96, 97, 98, 99, 100, 101, 102, 103, 104, 105, 106, 107, 108, 109, 110, 111, 112] (fun _ v12 _ _ _ _ _ _ _ _ _ _ _ _ _ _ _ _ _ _ _ wr => ∃ j : Nat, j ≤ i ∧ v12 = .int .i64 j ∧ Hid (Up w2 wr)) (fun _ v12 _ _ _ _ _ _ _ _ _ _ _ _ _ _ _ _ _ _ _ _ => i - (intOf v12).toNat)
          case atStart => exact ⟨0, by omega, rfl, Up.refl _⟩
          case round =>
            obtain ⟨j, hj, rfl, HR⟩ := hrel
            rename World => wr
            by_cases hlt : j < i
            · obtain ⟨b, off, rfl, hP⟩ := HV.out.rd (by omega)
              have hoj := OR.form HO2.out
              have hol : o.length = i := HO.out.1.length
              obtain ⟨og, hog⟩ : ∃ g, po = some ⟨g, 0, none⟩ := by
                obtain ⟨p', c', e1, e2⟩ := hoj
                simp only [Value.slice.injEq] at e1
                rw [e1.1]
                exact e2 (by omega)
              subst hog
              have z0 := OR.cell (OR.up HO2.out HR.out) (i := j) (by omega)
              have kn := HO.out.1.at hlt
              have HP3 : PO 0 wr (.slice pm i cm) D := by
                rcases HP2.out with h | h
                · exact po_base (h.up HR.out) (Nat.zero_le _)
                · exact h.up HR.out
              obtain ⟨g, hg, _, _, h5⟩ := HP3.at (i := j) (by rw [HD.out.1]; exact hlt)
              subst hg
              have ht := HD.out.2 j hlt
              rw [HE.out] at ht
              generalize hk : o[j]! = k at *
              unfold nv at z0
              have h6 := (hP k kn).up (HU2.out.trans HR.out)
              have fitk := HV.out.fit k kn
              generalize D.getD j Plt.zero = d at *
              generalize P k = q at *
              have C9 : Hid (∀ W, Calls Try.prog 9 #[.agg #[.float .f64 d.r, .float .f64 d.s, .float .f64 d.p, .float .f64 d.b, .float .f64 d.t], .agg #[.float .f64 q.r, .float .f64 q.s, .float .f64 q.p, .float .f64 q.b, .float .f64 q.t]] W fun e w' => e = .returned (.bool true) ∧ Hid (Up W w')) := fun W => t9 ht fitk W
              have HS : Hid (wr.drew.cell? ⟨og, j, none⟩ = some (.int .i64 k) ∧ P5 wr.drew g (j * 5) d ∧ P5 wr.drew b (off + k * 5) q) := ⟨cell_up z0 (Up.drew _), h5.up (Up.drew _), h6.up (Up.drew _)⟩
              have kn2 : (k : Int) < i := by omega
              clear z0 h5 h6 ht fitk hP hoj HP3 hk
              go_wp2_with fail
              refine wp_region_shut 11 [(0, none), (1, none), (2, none), (3, some false), (4, none), (5, none), (6, none), (7, none), (8, some false), (9, none), (10, some false)] (fun w' => w'.cell? ⟨og, j, none⟩ = some (.int .i64 k) ∧ P5 w' g (j * 5) d ∧ P5 w' b (off + k * 5) q) (by kernel_rfl) (by decide) rfl (by kernel_rfl) (fun _ _ d _ _ h => by cases d <;> exact h) HS.out ?_
              refine OrdS.looks (.slice (some ⟨g, 0, none⟩) i cm) (some 100) _ rfl rfl (Or.inl ⟨by kernel_rfl, fun w' hS => ?_⟩) ?_
              · go_simp
              refine OrdS.looks (.int .i64 j) (some 101) _ rfl rfl (Or.inl ⟨by kernel_rfl, fun w' hS => ?_⟩) ?_
              · go_simp
              refine OrdS.looks (.pointer (some ⟨g, j * 5, none⟩)) (some 102) _ rfl rfl (Or.inl ⟨by kernel_rfl, fun w' hS => ?_⟩) ?_
              · go_simp
              refine OrdS.reads (.agg #[.float .f64 d.r, .float .f64 d.s, .float .f64 d.p, .float .f64 d.b, .float .f64 d.t]) (some 103) _ rfl rfl (Or.inl ⟨by kernel_rfl, fun w' hS => ?_⟩) ?_
              · obtain ⟨z0, ⟨a0, a1, a2, a3, a4⟩, ⟨b0, b1, b2, b3, b4⟩⟩ := hS
                go_simp
              refine OrdS.looks (.slice (some ⟨b, off, none⟩) i cap) (some 104) _ rfl rfl (Or.inl ⟨by kernel_rfl, fun w' hS => ?_⟩) ?_
              · go_simp
              refine OrdS.looks (.slice (some ⟨og, 0, none⟩) i co) (some 105) _ rfl rfl (Or.inl ⟨by kernel_rfl, fun w' hS => ?_⟩) ?_
              · go_simp
              refine OrdS.looks (.int .i64 j) (some 106) _ rfl rfl (Or.inl ⟨by kernel_rfl, fun w' hS => ?_⟩) ?_
              · go_simp
              refine OrdS.looks (.pointer (some ⟨og, j, none⟩)) (some 107) _ rfl rfl (Or.inl ⟨by kernel_rfl, fun w' hS => ?_⟩) ?_
              · go_simp
              refine OrdS.reads (.int .i64 k) (some 108) _ rfl rfl (Or.inl ⟨by kernel_rfl, fun w' hS => ?_⟩) ?_
              · obtain ⟨z0, ⟨a0, a1, a2, a3, a4⟩, ⟨b0, b1, b2, b3, b4⟩⟩ := hS
                go_simp
              refine OrdS.looks (.pointer (some ⟨b, off + k * 5, none⟩)) (some 109) _ rfl rfl (Or.inl ⟨by kernel_rfl, fun w' hS => ?_⟩) ?_
              · go_simp
              refine OrdS.reads (.agg #[.float .f64 q.r, .float .f64 q.s, .float .f64 q.p, .float .f64 q.b, .float .f64 q.t]) (some 110) _ rfl rfl (Or.inl ⟨by kernel_rfl, fun w' hS => ?_⟩) ?_
              · obtain ⟨z0, ⟨a0, a1, a2, a3, a4⟩, ⟨b0, b1, b2, b3, b4⟩⟩ := hS
                go_simp
              refine OrdS.ends ?_
              simp only [List.drop_succ_cons, List.drop_zero, Act.put, List.setIfInBounds_toArray]
              go_wp2_with (go_at_call 9; (with_reducible refine (C9.out _).mono ?_); rintro e w3 ⟨rfl, HU3⟩)
              go_roundw
              case rel => exact ⟨j + 1, by omega, by go_num, HR.out.trans ((Up.drew _).trans HU3.out)⟩
              case measure => simp [intOf]; omega
            · obtain rfl : j = i := by omega
              go_wp2_with (go_at_call 5; (with_reducible refine (t5 _).mono ?_); rintro e w4 ⟨rfl, HU4⟩)
              go_ret
              exact ⟨rfl, HU2.out.trans (HR.out.trans HU4.out)⟩
end Go.Proofs.Ytijfmaepoamkgab
