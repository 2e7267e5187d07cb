/- PlaceWithin. -/
import Derived.Test.YtlgejebgkkmacaaPq
import Derived.Test.YtlgejebgkkmacaaPp
import Derived.Test.YtlgejebgkkmacaaPo
namespace Go.Proofs.Ytlgejebgkkmacaa
open Go.ChangeShapes Go.WideShapes Go.ChangeAt Go.RowKit Go.Fl Ieee
attribute [local go_sem] run_store_float run_store_complex call39 call50 run_neg fold_eq fold_ne fold_lt fold_gt abs_eq

theorem wpList_copy_pt {ops : Array Oper} {rest : List Oper} {o : Oper} {a : Act} {w w0 : World} {Q : Exit → Act → World → Prop} (hgd : o.guard = none) (s x : Operand)
    (ho : o.op = .call { callee := .builtin .append, args := #[s, x], argTypes := #[38, 38] })
    (q : Option Addr) (n cq : Nat) (f : Nat → Nat × Nat) (hs : a.eval s = .slice none 0 0) (hx : a.eval x = .slice q n cq) (hu : Up w0 w) (hv : LV w q n f) (hmn : n ≤ 65536)
    (h : ∀ p' c' w', Hid (PRow w0.heap.size w' (.slice p' n c') ((List.range n).map f)) → Hid (Up w0 w') → wpList Try.prog ops Q rest (a.put o.dst (.slice p' n c')) w') : wpList Try.prog ops Q (o :: rest) a w := by
  refine wpList_app_pt hgd s x ho w0.heap.size 0 0 none q n cq [] f hs hx rfl (PRow.nil _ _) hv (by omega) hu.size ?_
  intro p' c' w' h1 h2 _
  rw [Nat.zero_add] at h1 ⊢
  exact h p' c' w' h1 (Below.grown hu h2 hu.size fun j hj => by cases hj)
theorem wpList_push_pt {ops : Array Oper} {rest : List Oper} {o : Oper} {a : Act} {w w0 : World} {Q : Exit → Act → World → Prop} (hgd : o.guard = none) (s x : Operand)
    (ho : o.op = .call { callee := .builtin .append, args := #[s, x], argTypes := #[38, 38] })
    (p q : Option Addr) (n c : Nat) (X Y : Nat) (O : List (Nat × Nat)) (B : Nat) (hB : w0.heap.size = B) (hs : a.eval s = .slice p n c) (hx : a.eval x = .slice q 1 1) (hm : O.length = n) (hown : PRow B w (.slice p n c) O) (hu : Up w0 w) (hv : LV w q 1 (fun _ => (X, Y))) (hmn : n ≤ 65536)
    (h : ∀ p' c' w', Hid (PRow B w' (.slice p' (n + 1) c') (O ++ [(X, Y)])) → Hid (Up w0 w') → wpList Try.prog ops Q rest (a.put o.dst (.slice p' (n + 1) c')) w') : wpList Try.prog ops Q (o :: rest) a w := by
  subst hB
  refine wpList_app_pt hgd s x ho w0.heap.size n c p q 1 1 O _ hs hx hm hown hv (by omega) hu.size ?_
  intro p' c' w' h1 h2 _
  exact h p' c' w' h1 (grown_up hown hu h2)
/-- A copy of points, marked behind its end. -/
theorem marked {b : Nat} {w : World} {p : Option Addr} {n c X Y : Nat} {f : Nat → Nat × Nat} (h : PRow b w (.slice p (n + 1) c) ((List.range n).map f ++ [(X, Y)])) : ∃ g, p = some ⟨g, 0, none⟩ ∧ PV w g 0 n f ∧ w.cell? ⟨g, 0 + n * 2, none⟩ = some (.float .f64 X) ∧ n + 1 ≤ c := by
  obtain ⟨p', c', e, h1, h2⟩ := h.pv
  have hl : ((List.range n).map f ++ [(X, Y)]).length = n + 1 := by simp
  rw [hl] at e h1 h2
  simp only [Value.slice.injEq] at e
  obtain ⟨rfl, _, rfl⟩ := e
  obtain ⟨g, o, rfl, hp⟩ := h1 (by omega)
  have ho : o = 0 := by
    rcases h.2 with ⟨e, _⟩ | ⟨g', _, _, e, _⟩
    · cases e
    · simp only [Value.slice.injEq, Option.some.injEq, Addr.mk.injEq] at e; exact e.1.2.1
  subst ho
  refine ⟨g, rfl, fun j hj => ?_, ?_, h2⟩
  · have := hp j (by omega)
    simp only at this
    rw [getElem!_pos _ j (by rw [hl]; omega), List.getElem_append_left (by simpa using hj)] at this
    simpa using this
  · have := (hp n (by omega)).1
    simp only at this
    rw [getElem!_pos _ n (by rw [hl]; omega), List.getElem_append_right (by simp)] at this
    simpa using this
theorem bu_cV {w : World} {b : Bool} : ∀ e w', BU w b e w' → ∃ u, e = .returned u ∧ cV (.bool b) u w' ∧ Up w w' := fun _ _ ⟨h1, h2⟩ => ⟨_, h1, rfl, h2⟩
set_option maxHeartbeats 8000000 in
set_option maxRecDepth 20000 in
theorem t4 (p : Option Addr) (n cap x y : Nat) (f : Nat → Nat × Nat) (w : World) (HP : Hid (LV w p n f)) : Calls Try.prog 4 #[.slice p n cap, .agg #[.float .f64 x, .float .f64 y]] w (TU w) := by
  by_cases hbig : 65536 < n
  · have hz : (65536 : Int) < n := by omega
    go_enter Try.func4, Try.ntmps4
    go_wp2_with (go_at_call 21; (with_reducible refine (t21 _).mono ?_); rintro e w1 ⟨rfl, u1⟩)
    go_ret
    exact ⟨rfl, (Up.alloc _ _).trans u1.out⟩
  · have hz : (n : Int) ≤ 65536 := by omega
    go_enter Try.func4, Try.ntmps4
    go_wp2_with (at_builtin; refine wpList_copy_pt (w0 := w.alloc (.cells #[.float .f64 x, .float .f64 y] 24)) rfl _ _ rfl p n cap f rfl rfl (Up.refl _) (HP.out.up (Up.alloc _ _)) (by omega) ?_)
    intro p1 c1 w1 HR1 HU1
    go_wp2_with (at_builtin; refine wpList_push_pt (w0 := w.alloc (.cells #[.float .f64 x, .float .f64 y] 24)) rfl _ _ rfl p1 _ n c1 4635118810238550016 0 ((List.range n).map f) (w.heap.size + 1) (by simp) rfl rfl (by simp) (HR1.out.up (Up.alloc _ _)) (Up.trans HU1.out (Up.alloc _ _)) (lv_one _ _ _) (by omega) ?_)
    intro p2 c2 w2 HR2 HU2
    obtain ⟨g, rfl, hm, hk, hc⟩ := marked HR2.out
    have HM : Hid (PV w2 g 0 n f) := hm
    have HU : Hid (Up w w2) := (Up.alloc _ _).trans HU2.out
    have hcz : (n : Int) + 1 ≤ c2 := by omega
    have hcz' : (n : Int) ≤ c2 := by omega
    obtain ⟨x0, x1, _, _⟩ := facts2 (kept2 (heap_alloc_last w _) HU2.out)
    clear HR1 HU1 HR2 hm HU2
    go_upto_region 5 with (fail)
    refine wp_region_up 6 [cV (.slice (some ⟨g, 0, none⟩) n c2), cV (.agg #[.float .f64 x, .float .f64 y]), cV (.bool (winF f n (x, y))), cV (.slice p n cap), cV (.agg #[.float .f64 x, .float .f64 y]), cV (.bool (winF f n (x, y)))] (by kernel_rfl) (by decide) rfl (by kernel_rfl) (by kernel_rfl) ⟨mV _, mV _, mV _, mV _, mV _, mV _, trivial⟩ ?_
    intro vals
    simp only [List.take_succ_cons, List.take_zero, valsN, FillL, Act.put, List.setIfInBounds_toArray, List.set_cons_succ, List.set_cons_zero, Nat.zero_add, Nat.reduceAdd]
    refine ⟨⟨fun v hu h => ?_, fun v hu h => ?_, fun v hu h => ?_, fun v hu h => ?_, fun v hu h => ?_, fun v hu h => ?_, trivial⟩, fun v hu h => ?_⟩
    all_goals (have y0 := cell_up x0 hu; have y1 := cell_up x1 hu)
    · refine UpO.is _ rfl rfl ?_
      go_simp
    · refine UpO.is _ rfl rfl ?_
      go_simp
    · have e0 : vals 0 = .slice (some ⟨g, 0, none⟩) n c2 := h 0 (by decide) (by kernel_rfl)
      have e1 : vals 1 = .agg #[.float .f64 x, .float .f64 y] := h 1 (by decide) (by kernel_rfl)
      refine UpO.call #[.slice (some ⟨g, 0, none⟩) n c2, .agg #[.float .f64 x, .float .f64 y]] rfl rfl (by rw [e0, e1]; kernel_rfl) (enters Try.func22 (by kernel_rfl) (by kernel_rfl) _ _) ?_
      exact (t22 _ n _ _ _ f _ (fun _ => ⟨_, _, rfl, HM.out.up hu⟩)).mono bu_cV
    · refine UpO.is _ rfl rfl ?_
      go_simp
    · refine UpO.is _ rfl rfl ?_
      go_simp
    · have e3 : vals 3 = .slice p n cap := h 3 (by decide) (by kernel_rfl)
      have e4 : vals 4 = .agg #[.float .f64 x, .float .f64 y] := h 4 (by decide) (by kernel_rfl)
      refine UpO.call #[.slice p n cap, .agg #[.float .f64 x, .float .f64 y]] rfl rfl (by rw [e3, e4]; kernel_rfl) (enters Try.func23 (by kernel_rfl) (by kernel_rfl) _ _) ?_
      exact (t23 _ n _ _ _ f _ (HP.out.up (Up.trans HU.out hu))).mono bu_cV
    · have e2 : vals 2 = .bool (winF f n (x, y)) := h 2 (by decide)
      have e5 : vals 5 = .bool (winF f n (x, y)) := h 5 (by decide)
      rw [e2, e5]
      simp only [List.drop_succ_cons, List.drop_zero]
      obtain ⟨v1, rfl⟩ : ∃ v1, v1 = v := ⟨v, rfl⟩
      have HMv : Hid (PV v1 g 0 n f) := HM.out.up hu
      have HPv : Hid (LV v1 p n f) := HP.out.up (Up.trans HU.out hu)
      have HKv : Hid (v1.cell? ⟨g, 0 + n * 2, none⟩ = some (.float .f64 4635118810238550016)) := cell_up hk hu
      have HUv : Hid (Up w v1) := Up.trans HU.out hu
      clear h e2 e5 y0 y1 hu HM HP hk HU x0 x1
      go_wp2_with fail
      go_loopw [29] (fun vi wr => ∃ k : Nat, k ≤ n ∧ vi = .int .i64 k ∧ Hid (Up v1 wr)) (fun vi _ => n - (intOf vi).toNat)
      case atStart => exact ⟨0, by omega, rfl, Up.refl _⟩
      case round =>
        obtain ⟨k, hk, rfl, HR⟩ := hrel
        by_cases hlt : k < n
        · have hkz : (k : Int) < (n : Int) := by omega
          obtain ⟨b, o, rfl, hp⟩ := HPv.out (by omega)
          obtain ⟨q0, q1⟩ := HMv.out.up HR.out k hlt
          obtain ⟨c0, c1⟩ := hp.up HR.out k hlt
          rw [Nat.zero_add] at q0 q1
          clear hp
          go_upto_region 10 with (fail)
          refine wp_region_up 9 [cV (.slice (some ⟨g, 0, none⟩) n c2), cV (.int .i64 k), cV (.pointer (some ⟨g, k * 2, none⟩)), cV (.agg #[.float .f64 (f k).1, .float .f64 (f k).2]), cV (.slice (some ⟨b, o, none⟩) n cap), cV (.int .i64 k), cV (.pointer (some ⟨b, o + k * 2, none⟩)), cV (.agg #[.float .f64 (f k).1, .float .f64 (f k).2]), cV (.bool true)] (by kernel_rfl) (by decide) rfl (by kernel_rfl) (by kernel_rfl) ⟨mV _, mV _, mV _, mV _, mV _, mV _, mV _, mV _, mV _, trivial⟩ ?_
          intro vals
          simp only [List.take_succ_cons, List.take_zero, valsN, FillL, Act.put, List.setIfInBounds_toArray, List.set_cons_succ, List.set_cons_zero, Nat.zero_add, Nat.reduceAdd]
          refine ⟨⟨fun v hu h => ?_, fun v hu h => ?_, fun v hu h => ?_, fun v hu h => ?_, fun v hu h => ?_, fun v hu h => ?_, fun v hu h => ?_, fun v hu h => ?_, fun v hu h => ?_, trivial⟩, fun v hu h => ?_⟩
          all_goals (have z0 := cell_up q0 hu; have z1 := cell_up q1 hu; have y0 := cell_up c0 hu; have y1 := cell_up c1 hu)
          · refine UpO.is _ rfl rfl ?_
            go_simp
          · refine UpO.is _ rfl rfl ?_
            go_simp
          · have e0 : vals 0 = .slice (some ⟨g, 0, none⟩) n c2 := h 0 (by decide) (by kernel_rfl)
            have e1 : vals 1 = .int .i64 k := h 1 (by decide) (by kernel_rfl)
            refine UpO.is _ rfl rfl ?_
            rw [e0, e1]
            go_simp
          · have e2 : vals 2 = .pointer (some ⟨g, k * 2, none⟩) := h 2 (by decide) (by kernel_rfl)
            refine UpO.is _ rfl rfl ?_
            rw [e2]
            go_simp
          · refine UpO.is _ rfl rfl ?_
            go_simp
          · refine UpO.is _ rfl rfl ?_
            go_simp
          · have e4 : vals 4 = .slice (some ⟨b, o, none⟩) n cap := h 4 (by decide) (by kernel_rfl)
            have e5 : vals 5 = .int .i64 k := h 5 (by decide) (by kernel_rfl)
            refine UpO.is _ rfl rfl ?_
            rw [e4, e5]
            go_simp
          · have e6 : vals 6 = .pointer (some ⟨b, o + k * 2, none⟩) := h 6 (by decide) (by kernel_rfl)
            refine UpO.is _ rfl rfl ?_
            rw [e6]
            go_simp
          · have e3 : vals 3 = .agg #[.float .f64 (f k).1, .float .f64 (f k).2] := h 3 (by decide) (by kernel_rfl)
            have e7 : vals 7 = .agg #[.float .f64 (f k).1, .float .f64 (f k).2] := h 7 (by decide) (by kernel_rfl)
            refine UpO.call #[.agg #[.float .f64 (f k).1, .float .f64 (f k).2], .agg #[.float .f64 (f k).1, .float .f64 (f k).2]] rfl rfl (by rw [e3, e7]; kernel_rfl) (enters Try.func11 (by kernel_rfl) (by kernel_rfl) _ _) ?_
            exact (t11k rfl rfl _).mono vu_cV
          · have e8 : vals 8 = .bool true := h 8 (by decide)
            rw [e8]
            simp only [List.drop_succ_cons, List.drop_zero]
            have HRv : Hid (Up v1 v) := Up.trans HR.out hu
            clear h e8 z0 z1 y0 y1 hu HR q0 q1 c0 c1
            go_wp2
            go_roundw
            case rel => exact ⟨k + 1, by omega, by go_num, HRv⟩
            case measure => simp [intOf]; omega
        · obtain rfl : n = k := by omega
          have HKw := cell_up HKv.out HR.out
          rw [Nat.zero_add] at HKw
          have q7 : eqF (ab 4635118810238550016) (ab 4635118810238550016) = true := by decide +kernel
          go_wp2_with (go_at_call 21; (with_reducible refine (t21 _).mono ?_); rintro e w9 ⟨rfl, u9⟩)
          go_ret
          exact ⟨rfl, Up.trans (Up.trans HUv.out HR.out) u9.out⟩
end Go.Proofs.Ytlgejebgkkmacaa
