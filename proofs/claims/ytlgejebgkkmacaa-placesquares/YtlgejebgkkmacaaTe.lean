/- PlaceSquares. -/
import Derived.Test.YtlgejebgkkmacaaTb
import Derived.Test.YtlgejebgkkmacaaTb
import Derived.Test.YtlgejebgkkmacaaPt
import Derived.Deep.DeepCutAuto
namespace Go.Proofs.Ytlgejebgkkmacaa
open Go.ChangeShapes Go.WideShapes Go.ChangeAt Go.RowKit Go.Fl Ieee
attribute [local go_sem] run_store_float run_store_complex call39 call50 run_neg fold_eq fold_ne fold_lt fold_gt abs_eq

/-- At most 1e300 in magnitude. -/
def leC (z : Nat) : Bool := ltF (ab (abs z)) (ab 9094988921128908188) || eqF (ab (abs z)) (ab 9094988921128908188)
def fitN (Z : Nat → Nat) : Nat → Bool
  | 0 => true
  | j + 1 => fitN Z j && leC (Z j)
theorem fit_all {Z : Nat → Nat} : ∀ {n : Nat}, fitN Z n = true → ∀ j, j < n → leC (Z j) = true
  | 0, _, j, h => by omega
  | n + 1, h, j, hj => by
    rw [fitN, Bool.and_eq_true] at h
    rcases Nat.lt_or_ge j n with q | q
    · exact fit_all h.1 j q
    · obtain rfl : j = n := by omega
      exact h.2
def four (x1 y1 x2 y2 : Nat) (j : Nat) : Nat := ([x1, y1, x2, y2] : List Nat)[j]!
theorem run_index4 (w : World) (x1 y1 x2 y2 c : Nat) (hc : c < 4) : (Instr.index 42 (.agg #[.float .f64 x1, .float .f64 y1, .float .f64 x2, .float .f64 y2]) (.int .i64 c)).run Try.prog w = .ok (.float .f64 (four x1 y1 x2 y2 c)) w := by
  rcases (show c = 0 ∨ c = 1 ∨ c = 2 ∨ c = 3 by omega) with rfl | rfl | rfl | rfl <;> kernel_rfl
theorem wpList_index4 {ops : Array Oper} {rest : List Oper} {o : Oper} {a : Act} {Q : Exit → Act → World → Prop} {w : World} {x1 y1 x2 y2 : Nat} (c : Nat) (hgd : o.guard = none) (s i : Operand)
    (hop : o.op = Op.index 42 s i) (hs : a.eval s = .agg #[.float .f64 x1, .float .f64 y1, .float .f64 x2, .float .f64 y2]) (hx : a.eval i = .int .i64 c) (hc : c < 4)
    (hK : wpList Try.prog ops Q rest (a.put o.dst (.float .f64 (four x1 y1 x2 y2 c))) w) : wpList Try.prog ops Q (o :: rest) a w := by
  refine wpList_plain hgd fun K hK' => ?_
  unfold Oper.wp
  simp only [execOp, hop, hs, hx]
  have e := run_index4 w x1 y1 x2 y2 c hc
  simp [e, Result.andThen]
  exact hK' _ _ hK
theorem t24i (i n c : Int) (w : World) (h1 : 1 ≤ n) (h2 : n ≤ 65536) (hs : i % n = c) : Calls Try.prog 24 #[.int .i64 i, .int .i64 n] w fun e w' => e = .returned (.int .i64 c) ∧ w' = w := by
  obtain ⟨m, rfl⟩ := Int.eq_ofNat_of_zero_le (show 0 ≤ n by omega)
  obtain ⟨s, rfl⟩ := Int.eq_ofNat_of_zero_le (show 0 ≤ c by rw [← hs]; exact Int.emod_nonneg i (by omega))
  exact t24 i m s w (by omega) (by omega) hs
abbrev cI (c : Bool) (v : Value) : Value → World → Prop := fun u _ => c = true → u = v
theorem mI (c : Bool) (v : Value) : MonoT (cI c v) := fun _ _ _ h _ => h
theorem rect_pv (w : World) (x1 y1 x2 y2 : Nat) : PV (w.alloc (.cells #[.float .f64 x1, .float .f64 y1, .float .f64 x2, .float .f64 y1, .float .f64 x2, .float .f64 y2, .float .f64 x1, .float .f64 y2] 24)) w.heap.size 0 4 (rectF x1 y1 x2 y2) := by
  intro j hj
  have q : j = 0 ∨ j = 1 ∨ j = 2 ∨ j = 3 := by omega
  rcases q with rfl | rfl | rfl | rfl <;> exact ⟨World.cell?_alloc_at _ _ _ _ rfl, World.cell?_alloc_at _ _ _ _ rfl⟩
set_option maxHeartbeats 16000000 in
set_option maxRecDepth 20000 in
theorem t6 (x1 y1 x2 y2 px py B : Nat) (n k wh : Int) (w : World) (hn : -9223372036854775808 ≤ n) (hn' : n ≤ 9223372036854775807) : Calls Try.prog 6 #[.float .f64 x1, .float .f64 y1, .float .f64 x2, .float .f64 y2, .agg #[.float .f64 px, .float .f64 py], .int .i64 n, .int .i64 k, .int .i64 wh, .float .f64 B] w (TU w) := by
  obtain ⟨L1, hL1⟩ : ∃ L1, ltF (ab x1) (ab x2) = L1 := ⟨_, rfl⟩
  obtain ⟨L2, hL2⟩ : ∃ L2, ltF (ab y1) (ab y2) = L2 := ⟨_, rfl⟩
  have HL1' : Hid (ltF (ab x1) (ab x2) = L1) := hL1
  have HL2' : Hid (ltF (ab y1) (ab y2) = L2) := hL2
  go_enter Try.func6, Try.ntmps6
  go_upto_region 3 with (go_at_call 21; (with_reducible refine (t21 _).mono ?_); rintro e w1 ⟨rfl, u1⟩)
  obtain ⟨y0, y1', _, _⟩ := facts2 (kept2 (heap_alloc_last w _) u1.out)
  have HU1 : Hid (Up w w1) := (Up.alloc _ _).trans u1.out
  clear u1
  go_cut [19] (fun s wx => s = .bool (L1 && L2) ∧ w1 = wx)
  case first =>
    cases L1
    · go_wp2
      go_meet
      case rel => exact ⟨rfl, rfl⟩
    · go_wp2
      go_meet
      case rel => exact ⟨rfl, rfl⟩
  case rest =>
    obtain ⟨rfl, rfl⟩ := hcut
    clear hL1 hL2
    go_wp2_with fail
    go_loopw [19, 49] (fun vb vi wx => ∃ j : Nat, j ≤ 4 ∧ vi = .int .i64 j ∧ vb = .bool ((L1 && L2) && fitN (four x1 y1 x2 y2) j) ∧ w1 = wx) (fun _ vi _ => 4 - (intOf vi).toNat)
    case atStart => exact ⟨0, by omega, rfl, by rw [fitN, Bool.and_true], rfl⟩
    case round =>
      obtain ⟨j, hj, rfl, hvb, rfl⟩ := hrel
      by_cases hlt : j < 4
      · obtain ⟨F, hF⟩ : ∃ F, ((L1 && L2) && fitN (four x1 y1 x2 y2) j) = F := ⟨_, rfl⟩
        rw [hF] at hvb
        subst hvb
        have hN : ((L1 && L2) && fitN (four x1 y1 x2 y2) (j + 1)) = (F && leC (four x1 y1 x2 y2 j)) := by rw [fitN, ← Bool.and_assoc, hF]
        have hjz : (j : Int) < 4 := by omega
        have HN : Hid _ := hN
        clear hN hF
        cases F
        · go_wp2_with (refine wpList_index4 j rfl _ _ rfl rfl rfl (by omega) ?_)
          go_roundw
          case rel => exact ⟨j + 1, by omega, by go_num, by rw [HN.out]; rfl, by trivial⟩
          case measure => simp [intOf]; omega
        · go_wp2_with (first
            | (refine wpList_index4 j rfl _ _ rfl rfl rfl (by omega) ?_)
            | (go_at_call 25; (with_reducible refine (t25 _ _).mono ?_); rintro e w' ⟨rfl, hw⟩; subst w'))
          go_roundw
          case rel => exact ⟨j + 1, by omega, by go_num, by rw [HN.out]; rfl, by trivial⟩
          case measure => simp [intOf]; omega
      · obtain rfl : j = 4 := by omega
        obtain ⟨F, hF⟩ : ∃ F, ((L1 && L2) && fitN (four x1 y1 x2 y2) 4) = F := ⟨_, rfl⟩
        rw [hF] at hvb
        subst hvb
        have HF : Hid _ := hF
        clear hF
        go_upto_if 59 with fail
        go_cut [] (fun wx => Hid (Up w wx))
        case first =>
          cases F
          · go_wp2
            go_meet
            case rel => exact HU1
          · have hF := HF.out
            rw [Bool.and_eq_true, Bool.and_eq_true] at hF
            have HL1 : Hid (ltF (ab x1) (ab x2) = true) := by show _ = _; rw [HL1'.out]; exact hF.1.1
            have HL2 : Hid (ltF (ab y1) (ab y2) = true) := by show _ = _; rw [HL2'.out]; exact hF.1.2
            have HBD : Hid (Bd x1 ∧ Bd y1 ∧ Bd x2 ∧ Bd y2) := ⟨bd_of (fit_all hF.2 0 (by omega)), bd_of (fit_all hF.2 1 (by omega)), bd_of (fit_all hF.2 2 (by omega)), bd_of (fit_all hF.2 3 (by omega))⟩
            clear hF
            have z0' := cell_up y0 (Up.alloc w1 (.cells #[.float .f64 x1, .float .f64 y1, .float .f64 x2, .float .f64 y1, .float .f64 x2, .float .f64 y2, .float .f64 x1, .float .f64 y2] 24))
            have z1' := cell_up y1' (Up.alloc w1 (.cells #[.float .f64 x1, .float .f64 y1, .float .f64 x2, .float .f64 y1, .float .f64 x2, .float .f64 y2, .float .f64 x1, .float .f64 y2] 24))
            clear y0 y1'
            obtain ⟨y0, y1'⟩ := (⟨z0', z1'⟩ : _ ∧ _)
            clear z0' z1'
            go_upto_region 11 with fail
            obtain ⟨A1, hA1⟩ : ∃ A, (ltF (ab x1) (ab px) || eqF (ab x1) (ab px)) = A := ⟨_, rfl⟩
            obtain ⟨A2, hA2⟩ : ∃ A, ltF (ab px) (ab x2) = A := ⟨_, rfl⟩
            obtain ⟨A3, hA3⟩ : ∃ A, (ltF (ab y1) (ab py) || eqF (ab y1) (ab py)) = A := ⟨_, rfl⟩
            obtain ⟨A4, hA4⟩ : ∃ A, ltF (ab py) (ab y2) = A := ⟨_, rfl⟩
            have HT : Hid (∀ W, Up _ W → Calls Try.prog 22 #[.slice (some ⟨w1.heap.size, 0, none⟩) 4 4, .agg #[.float .f64 px, .float .f64 py]] W (BU W (A1 && A2 && A3 && A4))) := fun W hu => by
              have := t22 (some ⟨w1.heap.size, 0, none⟩) 4 4 px py (rectF x1 y1 x2 y2) W (fun _ => ⟨_, _, rfl, (rect_pv w1 x1 y1 x2 y2).up hu⟩)
              rw [rect_win HBD.out.1 HBD.out.2.1 HBD.out.2.2.1 HBD.out.2.2.2 HL1.out HL2.out, hA1, hA2, hA3, hA4] at this
              exact this
            refine wp_region_up 25 [cV (.slice (some ⟨w1.heap.size, 0, none⟩) 4 4), cV (.agg #[.float .f64 px, .float .f64 py]), cV (.bool (A1 && A2 && A3 && A4)), cV (.float .f64 x1), cV (.pointer (some ⟨w.heap.size, 0, none⟩)), cV (.float .f64 px), cV (.bool A1), cV (.bool A1), cI (A1) (.pointer (some ⟨w.heap.size, 0, none⟩)), cI (A1) (.float .f64 px), cI (A1) (.float .f64 x2), cI (A1) (.bool A2), cV (.bool (A1 && A2)), cV (.bool (A1 && A2)), cI (A1 && A2) (.float .f64 y1), cI (A1 && A2) (.pointer (some ⟨w.heap.size, 1, none⟩)), cI (A1 && A2) (.float .f64 py), cI (A1 && A2) (.bool A3), cV (.bool (A1 && A2 && A3)), cV (.bool (A1 && A2 && A3)), cI (A1 && A2 && A3) (.pointer (some ⟨w.heap.size, 1, none⟩)), cI (A1 && A2 && A3) (.float .f64 py), cI (A1 && A2 && A3) (.float .f64 y2), cI (A1 && A2 && A3) (.bool A4), cV (.bool (A1 && A2 && A3 && A4))] (by kernel_rfl) (by decide) rfl (by kernel_rfl) (by kernel_rfl) ⟨mV _, mV _, mV _, mV _, mV _, mV _, mV _, mV _, mI _ _, mI _ _, mI _ _, mI _ _, mV _, mV _, mI _ _, mI _ _, mI _ _, mI _ _, mV _, mV _, mI _ _, mI _ _, mI _ _, mI _ _, mV _, trivial⟩ ?_
            intro vals
            simp only [List.take_succ_cons, List.take_zero, valsN, FillL, Act.put, List.setIfInBounds_toArray, List.set_cons_succ, List.set_cons_zero, Nat.zero_add, Nat.reduceAdd]
            refine ⟨⟨fun v hu h => ?_, fun v hu h => ?_, fun v hu h => ?_, fun v hu h => ?_, fun v hu h => ?_, fun v hu h => ?_, fun v hu h => ?_, fun v hu h => ?_, fun v hu h => ?_, fun v hu h => ?_, fun v hu h => ?_, fun v hu h => ?_, fun v hu h => ?_, fun v hu h => ?_, fun v hu h => ?_, fun v hu h => ?_, fun v hu h => ?_, fun v hu h => ?_, fun v hu h => ?_, fun v hu h => ?_, fun v hu h => ?_, fun v hu h => ?_, fun v hu h => ?_, fun v hu h => ?_, fun v hu h => ?_, trivial⟩, fun v hu h => ?_⟩
            all_goals (have z0 := cell_up y0 hu; have z1 := cell_up y1' hu)
            · refine UpO.is _ rfl rfl ?_
              go_simp
            · refine UpO.is _ rfl rfl ?_
              go_simp
            · have e0 : vals 0 = .slice (some ⟨w1.heap.size, 0, none⟩) 4 4 := h 0 (by decide) (by kernel_rfl)
              have e1 : vals 1 = .agg #[.float .f64 px, .float .f64 py] := h 1 (by decide) (by kernel_rfl)
              refine UpO.call #[.slice (some ⟨w1.heap.size, 0, none⟩) 4 4, .agg #[.float .f64 px, .float .f64 py]] rfl rfl (by rw [e0, e1]; kernel_rfl) (enters Try.func22 (by kernel_rfl) (by kernel_rfl) _ _) ?_
              exact (HT.out _ hu).mono bu_cV
            · refine UpO.is _ rfl rfl ?_
              go_simp
            · refine UpO.is _ rfl rfl ?_
              go_simp
            · have e4 : vals 4 = .pointer (some ⟨w.heap.size, 0, none⟩) := h 4 (by decide) (by kernel_rfl)
              refine UpO.is _ rfl rfl ?_
              rw [e4]
              go_simp
            · have e3 : vals 3 = .float .f64 x1 := h 3 (by decide) (by kernel_rfl)
              have e5 : vals 5 = .float .f64 px := h 5 (by decide) (by kernel_rfl)
              refine UpO.is _ rfl rfl ?_
              rw [e3, e5]
              go_simp
              first | done | (simp only [hA1]; done) | simp [hA1]
            · have e6 : vals 6 = .bool A1 := h 6 (by decide) (by kernel_rfl)
              refine UpO.is _ rfl rfl ?_
              rw [e6]
              go_simp
            · have e7 : vals 7 = .bool A1 := h 7 (by decide) (by kernel_rfl)
              obtain ⟨cc, hcc⟩ : ∃ cc, (A1) = cc := ⟨_, rfl⟩
              rw [hcc] at e7
              cases cc
              · exact UpO.no (fun q => by rw [hcc] at q; cases q) (by rw [e7]; kernel_rfl)
              · refine UpO.isW _ (fun _ => rfl) (by rw [e7]; kernel_rfl) ?_
                rw [e7]
                go_simp
            · have e7 : vals 7 = .bool A1 := h 7 (by decide) (by kernel_rfl)
              have n8 : (A1) = true → vals 8 = .pointer (some ⟨w.heap.size, 0, none⟩) := h 8 (by decide) (by kernel_rfl)
              obtain ⟨cc, hcc⟩ : ∃ cc, (A1) = cc := ⟨_, rfl⟩
              rw [hcc] at e7
              cases cc
              · exact UpO.no (fun q => by rw [hcc] at q; cases q) (by rw [e7]; kernel_rfl)
              · have i8 := n8 hcc
                refine UpO.isW _ (fun _ => rfl) (by rw [e7]; kernel_rfl) ?_
                rw [e7, i8]
                go_simp
            · have e7 : vals 7 = .bool A1 := h 7 (by decide) (by kernel_rfl)
              obtain ⟨cc, hcc⟩ : ∃ cc, (A1) = cc := ⟨_, rfl⟩
              rw [hcc] at e7
              cases cc
              · exact UpO.no (fun q => by rw [hcc] at q; cases q) (by rw [e7]; kernel_rfl)
              · refine UpO.isW _ (fun _ => rfl) (by rw [e7]; kernel_rfl) ?_
                rw [e7]
                go_simp
            · have e7 : vals 7 = .bool A1 := h 7 (by decide) (by kernel_rfl)
              have n9 : (A1) = true → vals 9 = .float .f64 px := h 9 (by decide) (by kernel_rfl)
              have n10 : (A1) = true → vals 10 = .float .f64 x2 := h 10 (by decide) (by kernel_rfl)
              obtain ⟨cc, hcc⟩ : ∃ cc, (A1) = cc := ⟨_, rfl⟩
              rw [hcc] at e7
              cases cc
              · exact UpO.no (fun q => by rw [hcc] at q; cases q) (by rw [e7]; kernel_rfl)
              · have i9 := n9 hcc
                have i10 := n10 hcc
                refine UpO.isW _ (fun _ => rfl) (by rw [e7]; kernel_rfl) ?_
                rw [e7, i9, i10]
                go_simp
                first | done | (simp only [hA2]; done) | simp [hA2]
            · have e7 : vals 7 = .bool A1 := h 7 (by decide) (by kernel_rfl)
              have n11 : (A1) = true → vals 11 = .bool A2 := h 11 (by decide) (by kernel_rfl)
              refine UpO.is _ rfl rfl ?_
              rw [e7]
              obtain ⟨cc, hcc⟩ : ∃ cc, (A1) = cc := ⟨_, rfl⟩
              cases cc
              · rw [hcc]; go_simp
              · have i11 := n11 hcc
                rw [hcc, i11]; go_simp
            · have e12 : vals 12 = .bool (A1 && A2) := h 12 (by decide) (by kernel_rfl)
              refine UpO.is _ rfl rfl ?_
              rw [e12]
              go_simp
            · have e13 : vals 13 = .bool (A1 && A2) := h 13 (by decide) (by kernel_rfl)
              obtain ⟨cc, hcc⟩ : ∃ cc, (A1 && A2) = cc := ⟨_, rfl⟩
              rw [hcc] at e13
              cases cc
              · exact UpO.no (fun q => by rw [hcc] at q; cases q) (by rw [e13]; kernel_rfl)
              · refine UpO.isW _ (fun _ => rfl) (by rw [e13]; kernel_rfl) ?_
                rw [e13]
                go_simp
            · have e13 : vals 13 = .bool (A1 && A2) := h 13 (by decide) (by kernel_rfl)
              obtain ⟨cc, hcc⟩ : ∃ cc, (A1 && A2) = cc := ⟨_, rfl⟩
              rw [hcc] at e13
              cases cc
              · exact UpO.no (fun q => by rw [hcc] at q; cases q) (by rw [e13]; kernel_rfl)
              · refine UpO.isW _ (fun _ => rfl) (by rw [e13]; kernel_rfl) ?_
                rw [e13]
                go_simp
            · have e13 : vals 13 = .bool (A1 && A2) := h 13 (by decide) (by kernel_rfl)
              have n15 : (A1 && A2) = true → vals 15 = .pointer (some ⟨w.heap.size, 1, none⟩) := h 15 (by decide) (by kernel_rfl)
              obtain ⟨cc, hcc⟩ : ∃ cc, (A1 && A2) = cc := ⟨_, rfl⟩
              rw [hcc] at e13
              cases cc
              · exact UpO.no (fun q => by rw [hcc] at q; cases q) (by rw [e13]; kernel_rfl)
              · have i15 := n15 hcc
                refine UpO.isW _ (fun _ => rfl) (by rw [e13]; kernel_rfl) ?_
                rw [e13, i15]
                go_simp
            · have e13 : vals 13 = .bool (A1 && A2) := h 13 (by decide) (by kernel_rfl)
              have n14 : (A1 && A2) = true → vals 14 = .float .f64 y1 := h 14 (by decide) (by kernel_rfl)
              have n16 : (A1 && A2) = true → vals 16 = .float .f64 py := h 16 (by decide) (by kernel_rfl)
              obtain ⟨cc, hcc⟩ : ∃ cc, (A1 && A2) = cc := ⟨_, rfl⟩
              rw [hcc] at e13
              cases cc
              · exact UpO.no (fun q => by rw [hcc] at q; cases q) (by rw [e13]; kernel_rfl)
              · have i14 := n14 hcc
                have i16 := n16 hcc
                refine UpO.isW _ (fun _ => rfl) (by rw [e13]; kernel_rfl) ?_
                rw [e13, i14, i16]
                go_simp
                first | done | (simp only [hA3]; done) | simp [hA3]
            · have e13 : vals 13 = .bool (A1 && A2) := h 13 (by decide) (by kernel_rfl)
              have n17 : (A1 && A2) = true → vals 17 = .bool A3 := h 17 (by decide) (by kernel_rfl)
              refine UpO.is _ rfl rfl ?_
              rw [e13]
              obtain ⟨cc, hcc⟩ : ∃ cc, (A1 && A2) = cc := ⟨_, rfl⟩
              cases cc
              · rw [hcc]; go_simp
              · have i17 := n17 hcc
                rw [hcc, i17]; go_simp
            · have e18 : vals 18 = .bool (A1 && A2 && A3) := h 18 (by decide) (by kernel_rfl)
              refine UpO.is _ rfl rfl ?_
              rw [e18]
              go_simp
            · have e19 : vals 19 = .bool (A1 && A2 && A3) := h 19 (by decide) (by kernel_rfl)
              obtain ⟨cc, hcc⟩ : ∃ cc, (A1 && A2 && A3) = cc := ⟨_, rfl⟩
              rw [hcc] at e19
              cases cc
              · exact UpO.no (fun q => by rw [hcc] at q; cases q) (by rw [e19]; kernel_rfl)
              · refine UpO.isW _ (fun _ => rfl) (by rw [e19]; kernel_rfl) ?_
                rw [e19]
                go_simp
            · have e19 : vals 19 = .bool (A1 && A2 && A3) := h 19 (by decide) (by kernel_rfl)
              have n20 : (A1 && A2 && A3) = true → vals 20 = .pointer (some ⟨w.heap.size, 1, none⟩) := h 20 (by decide) (by kernel_rfl)
              obtain ⟨cc, hcc⟩ : ∃ cc, (A1 && A2 && A3) = cc := ⟨_, rfl⟩
              rw [hcc] at e19
              cases cc
              · exact UpO.no (fun q => by rw [hcc] at q; cases q) (by rw [e19]; kernel_rfl)
              · have i20 := n20 hcc
                refine UpO.isW _ (fun _ => rfl) (by rw [e19]; kernel_rfl) ?_
                rw [e19, i20]
                go_simp
            · have e19 : vals 19 = .bool (A1 && A2 && A3) := h 19 (by decide) (by kernel_rfl)
              obtain ⟨cc, hcc⟩ : ∃ cc, (A1 && A2 && A3) = cc := ⟨_, rfl⟩
              rw [hcc] at e19
              cases cc
              · exact UpO.no (fun q => by rw [hcc] at q; cases q) (by rw [e19]; kernel_rfl)
              · refine UpO.isW _ (fun _ => rfl) (by rw [e19]; kernel_rfl) ?_
                rw [e19]
                go_simp
            · have e19 : vals 19 = .bool (A1 && A2 && A3) := h 19 (by decide) (by kernel_rfl)
              have n21 : (A1 && A2 && A3) = true → vals 21 = .float .f64 py := h 21 (by decide) (by kernel_rfl)
              have n22 : (A1 && A2 && A3) = true → vals 22 = .float .f64 y2 := h 22 (by decide) (by kernel_rfl)
              obtain ⟨cc, hcc⟩ : ∃ cc, (A1 && A2 && A3) = cc := ⟨_, rfl⟩
              rw [hcc] at e19
              cases cc
              · exact UpO.no (fun q => by rw [hcc] at q; cases q) (by rw [e19]; kernel_rfl)
              · have i21 := n21 hcc
                have i22 := n22 hcc
                refine UpO.isW _ (fun _ => rfl) (by rw [e19]; kernel_rfl) ?_
                rw [e19, i21, i22]
                go_simp
                first | done | (simp only [hA4]; done) | simp [hA4]
            · have e19 : vals 19 = .bool (A1 && A2 && A3) := h 19 (by decide) (by kernel_rfl)
              have n23 : (A1 && A2 && A3) = true → vals 23 = .bool A4 := h 23 (by decide) (by kernel_rfl)
              refine UpO.is _ rfl rfl ?_
              rw [e19]
              obtain ⟨cc, hcc⟩ : ∃ cc, (A1 && A2 && A3) = cc := ⟨_, rfl⟩
              cases cc
              · rw [hcc]; go_simp
              · have i23 := n23 hcc
                rw [hcc, i23]; go_simp
            · have e2 : vals 2 = .bool (A1 && A2 && A3 && A4) := h 2 (by decide)
              have e24 : vals 24 = .bool (A1 && A2 && A3 && A4) := h 24 (by decide)
              rw [e2, e24]
              simp only [List.drop_succ_cons, List.drop_zero]
              have HUv : Hid (Up w v) := Up.trans HU1.out (Up.trans (Up.alloc _ _) hu)
              clear h e2 e24 z0 z1 hu HT hA1 hA2 hA3 hA4
              generalize (A1 && A2 && A3 && A4) = R
              cases R
              all_goals
                go_wp2
                go_meet
                case rel => exact HUv
        case rest =>
          have HUc : Hid (Up w wc) := hcut
          clear hcut y0 y1' HU1 HL1' HL2' HF hj hlt
          by_cases c1 : n < 1 ∨ 4096 < n
          · have hsec : secF (ab B) n = (0, 2) := by
              unfold secF
              rcases c1 with c | c
              · rw [if_pos c]
              · rw [if_neg (by omega), if_pos c]
            have HS : Hid (∀ w, Calls Try.prog 15 #[.float .f64 B, .int .i64 n] w (VU w (.tuple #[.int .i64 0, .int .i64 2]))) := fun w => i2_some (t15 B n w hn hn') hsec
            clear hsec
            rcases c1 with c | c
            · go_wp2_with (go_at_call 15; (with_reducible refine (HS.out _).mono ?_); rintro e w3 ⟨rfl, u3⟩; replace u3 : Hid (Up _ _) := u3)
              go_ret
              exact ⟨rfl, Up.trans HUc.out u3.out⟩
            · have c' : ¬ n < 1 := by omega
              go_wp2_with (go_at_call 15; (with_reducible refine (HS.out _).mono ?_); rintro e w3 ⟨rfl, u3⟩; replace u3 : Hid (Up _ _) := u3)
              go_ret
              exact ⟨rfl, Up.trans HUc.out u3.out⟩
          · have n1 : 1 ≤ n := by omega
            have n2 : n ≤ 4096 := by omega
            clear c1
            obtain ⟨S, hS⟩ : ∃ S, secF (ab B) n = S := ⟨_, rfl⟩
            obtain ⟨S, E⟩ := S
            have HFT : Hid (fin (ab B) = true → E = 0 ∧ 0 ≤ S ∧ S < n) := fun h => by
              obtain ⟨S', e, a1, a2⟩ := sec_range h n1 n2
              rw [hS] at e
              simp only [Prod.mk.injEq] at e
              omega
            have HFF : Hid (fin (ab B) = false → E = 6 ∧ S = 0) := fun h => by
              have e := sec_nofin h n1 n2
              rw [hS] at e
              simp only [Prod.mk.injEq] at e
              omega
            have HS : Hid (∀ w, Calls Try.prog 15 #[.float .f64 B, .int .i64 n] w (VU w (.tuple #[.int .i64 S, .int .i64 E]))) := fun w => i2_some (t15 B n w hn hn') hS
            clear hS
            go_upto_region 17 with (go_at_call 15; (with_reducible refine (HS.out _).mono ?_); rintro e w3 ⟨rfl, u3⟩; replace u3 : Hid (Up _ _) := u3)
            have HU3 : Hid (Up w w3) := Up.trans HUc.out u3.out
            clear u3 HUc HS
            go_cut [153] (fun s wx => s = .bool false ∧ Hid (Up w wx))
            case first =>
              cases hf : fin (ab B)
              · obtain ⟨rfl, rfl⟩ := HFF.out hf
                have HQ : Hid (eqF (bin .sub (ab B) (ab B)) (ab 0) = false) := self_nofin hf
                clear hf
                go_wp2_with ((with_reducible refine upon_fl (by simp) ?_); intro r m9 hr; have q9 : eqF (ab r) (ab 0) = false := by (rw [hr.out]; exact HQ.out))
                go_meet
                case rel => exact ⟨rfl, Up.trans HU3.out (Up.drewN _ _)⟩
              · obtain ⟨rfl, s0, s1⟩ := HFT.out hf
                obtain ⟨z, hz, qz⟩ := self_fin hf
                have F1 : ∀ w : World, (binOp .sub 22 (.float .f64 B) (.float .f64 B)).run Try.prog w = .ok (.float .f64 z) w := fun w => run_fl_some .sub 22 w hz
                have s0' : ¬ S < 0 := by omega
                have s1' : ¬ n ≤ S := by omega
                clear hf hz
                go_wp2
                go_meet
                case rel => exact ⟨rfl, HU3⟩
            case rest =>
              obtain ⟨rfl, HU4⟩ := hcut
              clear HFT HFF HU3
              obtain ⟨c, hc⟩ : ∃ c, k % n = c := ⟨_, rfl⟩
              have c0 : 0 ≤ c := by rw [← hc]; exact Int.emod_nonneg k (by omega)
              have cn : c < n := by rw [← hc]; exact Int.emod_lt_of_pos k (by omega)
              have HC : Hid (∀ w, Calls Try.prog 24 #[.int .i64 k, .int .i64 n] w fun e w' => e = .returned (.int .i64 c) ∧ w' = w) := fun w => t24i k n c w n1 (by omega) hc
              obtain ⟨hh, xx, m1, m2, m3, m4, m5⟩ := sec_mid c0 cn n2
              have F2 : ∀ w : World, (binOp .add 22 (.float .f64 (floatOfInt .f64 c)) (.float .f64 4602678819172646912)).run Try.prog w = .ok (.float .f64 hh) w := fun w => run_fl_some .add 22 w m1
              have F3 : ∀ w : World, (binOp .quo 22 (.float .f64 hh) (.float .f64 (floatOfInt .f64 n))).run Try.prog w = .ok (.float .f64 xx) w := fun w => run_fl_some .quo 22 w (by rw [ab_some m3]; exact m2)
              have HS2 : Hid (∀ w, Calls Try.prog 15 #[.float .f64 xx, .int .i64 n] w (VU w (.tuple #[.int .i64 c, .int .i64 0]))) := fun w => i2_some (t15 xx n w hn hn') m5
              clear hc m1 m2 m3 m4 m5
              by_cases r0 : k ≤ -1073741824
              · go_wp2_with (first
                | (go_at_call 24; (with_reducible refine (HC.out _).mono ?_); rintro e w' ⟨rfl, hw⟩; subst w')
                | (go_at_call 15; (with_reducible refine (HS2.out _).mono ?_); rintro e w5 ⟨rfl, u5⟩; replace u5 : Hid (Up _ _) := u5))
                go_ret
                exact ⟨rfl, Up.trans HU4.out u5.out⟩
              by_cases r1 : 1073741824 ≤ k
              · go_wp2_with (first
                | (go_at_call 24; (with_reducible refine (HC.out _).mono ?_); rintro e w' ⟨rfl, hw⟩; subst w')
                | (go_at_call 15; (with_reducible refine (HS2.out _).mono ?_); rintro e w5 ⟨rfl, u5⟩; replace u5 : Hid (Up _ _) := u5))
                go_ret
                exact ⟨rfl, Up.trans HU4.out u5.out⟩
              by_cases r2 : wh ≤ -1073741824
              · go_wp2_with (first
                | (go_at_call 24; (with_reducible refine (HC.out _).mono ?_); rintro e w' ⟨rfl, hw⟩; subst w')
                | (go_at_call 15; (with_reducible refine (HS2.out _).mono ?_); rintro e w5 ⟨rfl, u5⟩; replace u5 : Hid (Up _ _) := u5))
                go_ret
                exact ⟨rfl, Up.trans HU4.out u5.out⟩
              by_cases r3 : 1073741824 ≤ wh
              · go_wp2_with (first
                | (go_at_call 24; (with_reducible refine (HC.out _).mono ?_); rintro e w' ⟨rfl, hw⟩; subst w')
                | (go_at_call 15; (with_reducible refine (HS2.out _).mono ?_); rintro e w5 ⟨rfl, u5⟩; replace u5 : Hid (Up _ _) := u5))
                go_ret
                exact ⟨rfl, Up.trans HU4.out u5.out⟩
              obtain ⟨xk, k1, g1⟩ := quo20 (k := k) (by omega) (by omega)
              have gw := GR.int (z := wh) (by unfold P53; omega) (by unfold P53; omega)
              obtain ⟨xw, k2, g2⟩ := g1.add gw (by unfold B53; omega) (by unfold B53; omega)
              obtain ⟨K, s1, s2⟩ := sec_gr (n := n) g1 g2 (by omega) (by omega) (by omega) n1 n2
              have F4 : ∀ w : World, (binOp .quo 22 (.float .f64 (floatOfInt .f64 k)) (.float .f64 4697254411347427328)).run Try.prog w = .ok (.float .f64 xk) w := fun w => run_fl_some .quo 22 w k1
              have F5 : ∀ w : World, (binOp .add 22 (.float .f64 xk) (.float .f64 (floatOfInt .f64 wh))).run Try.prog w = .ok (.float .f64 xw) w := fun w => run_fl_some .add 22 w (by rw [Fnt.ab g1.f, Fnt.ab gw.f]; exact k2)
              have HS3 : Hid (∀ w, Calls Try.prog 15 #[.float .f64 xk, .int .i64 n] w (VU w (.tuple #[.int .i64 K, .int .i64 0]))) := fun w => i2_some (t15 xk n w hn hn') s1
              have HS4 : Hid (∀ w, Calls Try.prog 15 #[.float .f64 xw, .int .i64 n] w (VU w (.tuple #[.int .i64 K, .int .i64 0]))) := fun w => i2_some (t15 xw n w hn hn') s2
              clear k1 k2 s1 s2 g1 g2 gw
              go_wp2_with (first
                | (go_at_call 24; (with_reducible refine (HC.out _).mono ?_); rintro e w' ⟨rfl, hw⟩; subst w')
                | (go_at_call 15; (with_reducible refine (HS2.out _).mono ?_); rintro e w5 ⟨rfl, u5⟩; replace u5 : Hid (Up _ _) := u5)
                | (go_at_call 15; (with_reducible refine (HS3.out _).mono ?_); rintro e w6 ⟨rfl, u6⟩; replace u6 : Hid (Up _ _) := u6)
                | (go_at_call 15; (with_reducible refine (HS4.out _).mono ?_); rintro e w7 ⟨rfl, u7⟩; replace u7 : Hid (Up _ _) := u7))
              go_ret
              exact ⟨rfl, Up.trans (Up.trans (Up.trans HU4.out u5.out) u6.out) u7.out⟩
end Go.Proofs.Ytlgejebgkkmacaa
