/- Set, where nothing waits. -/
import Derived.Test.YtjklaemhfhakhaaDd
import Derived.Deep.DeepCutAuto
namespace Go.Proofs.Ytjklaemhfhakhaa
open Go.ChangeShapes Go.WideShapes Go.ChangeAt Go.RowKit

theorem PW.setTask {w : World} {L : Ly} {n : Nat} {p : Pl} (h : PW w L n p) (hL : L.Ok n) {i : Nat} (hi : i < n) (ht : (p.c i).tl = []) (e l r : Int) : PW (((w.setCell ⟨L.br i, L.ro i + 1, none⟩ (.int .i64 e)).setCell ⟨L.br i, L.ro i + 2, none⟩ (.int .i64 l)).setCell ⟨L.br i, L.ro i + 3, none⟩ (.int .i64 r)) L n (p.set i ⟨⟨(p.c i).hd.nx, e, l, r⟩, [], (p.c i).done⟩) := by
  have hk : Kp (fun b => b ≠ L.br i) w (((w.setCell ⟨L.br i, L.ro i + 1, none⟩ (.int .i64 e)).setCell ⟨L.br i, L.ro i + 2, none⟩ (.int .i64 l)).setCell ⟨L.br i, L.ro i + 3, none⟩ (.int .i64 r)) := ((Kp.set _ _ (fun q => q rfl) _).setCell (fun q => q rfl) _).setCell (fun q => q rfl) _
  have hn1 := hL.rp i hi
  have hn2 := hL.rt i hi
  have a := h.hd hi
  have A : ∀ x y : Nat, x ≠ y → ((⟨L.br i, L.ro i + x, none⟩ : Addr).block ≠ (⟨L.br i, L.ro i + y, none⟩ : Addr).block ∨ (⟨L.br i, L.ro i + x, none⟩ : Addr).off ≠ (⟨L.br i, L.ro i + y, none⟩ : Addr).off) := fun x y q => Or.inr (by show L.ro i + x ≠ L.ro i + y; omega)
  have A0 : ∀ y : Nat, 0 ≠ y → ((⟨L.br i, L.ro i, none⟩ : Addr).block ≠ (⟨L.br i, L.ro i + y, none⟩ : Addr).block ∨ (⟨L.br i, L.ro i, none⟩ : Addr).off ≠ (⟨L.br i, L.ro i + y, none⟩ : Addr).off) := fun y q => Or.inr (by show L.ro i ≠ L.ro i + y; omega)
  refine ⟨hk.cell (fun q => hn1 q.symm) h.p0, hk.cell (fun q => hn1 q.symm) h.p1, fun j hj => ?_, fun j hj => ?_, fun j hj k x hx => ?_, fun j hj => ?_, fun j hj k hk' => some_set (some_set (some_set (h.sp j hj k hk'))), Nat.lt_of_lt_of_le h.lp hk.size, Nat.lt_of_lt_of_le h.lt hk.size, fun k => by simp only [World.frozen?_setCell]; exact h.fp k, fun k => by simp only [World.frozen?_setCell]; exact h.ft k, fun j hj k => by simp only [World.frozen?_setCell]; exact h.fr j hj k⟩
  · have := h.cr j hj
    by_cases q : j = i
    · subst q
      rw [Pl.set_at]
      rw [ht] at this
      exact hk.cell (fun q => hn2 q.symm) this
    · rw [Pl.set_ne _ _ q]
      exact hk.cell (fun q => hn2 q.symm) this
  · have := h.cd j hj
    by_cases q : j = i
    · subst q
      rw [Pl.set_at]
      exact hk.cell (fun q => hn2 q.symm) this
    · rw [Pl.set_ne _ _ q]
      exact hk.cell (fun q => hn2 q.symm) this
  · by_cases q : j = i
    · subst q
      rw [Pl.set_at] at hx
      cases k with
      | zero =>
        simp only [List.getElem?_cons_zero, Option.some.injEq] at hx
        subst hx
        rw [Nat.zero_mul, Nat.add_zero]
        exact ⟨cell_other (cell_other (cell_other a.nx (A0 1 (by omega))) (A0 2 (by omega))) (A0 3 (by omega)),
          cell_other (cell_other (World.cell?_setCell_same _ _ _ a.e) (A 1 2 (by omega))) (A 1 3 (by omega)),
          cell_other (World.cell?_setCell_same _ _ _ (cell_other a.l (A 2 1 (by omega)))) (A 2 3 (by omega)),
          World.cell?_setCell_same _ _ _ (cell_other (cell_other a.r (A 3 1 (by omega))) (A 3 2 (by omega)))⟩
      | succ k => cases hx
    · rw [Pl.set_ne _ _ q] at hx
      exact (h.rw' j hj k x hx).kp hk (hL.rr j i hj hi q)
  · have := h.cap j hj
    by_cases q : j = i
    · subst q
      rw [Pl.set_at]
      rw [ht] at this
      exact this
    · rw [Pl.set_ne _ _ q]
      exact this
set_option maxHeartbeats 2000000 in
theorem t40a {w : World} {L : Ly} {n : Nat} {p : Pl} (h : PW w L n p) (hL : L.Ok n) {i : Nat} (hi : i < n) (ht : (p.c i).tl = []) {now : Int} (hnow : now < (p.c i).hd.nx) (e l r : Int) : Calls Try.prog 40 #[.pointer (some ⟨L.bt, i * 2, none⟩), .int .i64 now, .agg #[.int .i64 e, .int .i64 l, .int .i64 r]] w (WorkR w L n (p.set i ⟨⟨(p.c i).hd.nx, e, l, r⟩, [], (p.c i).done⟩)) := by
  have H : Hid (PW w L n p) := h
  have HL : Hid (L.Ok n) := hL
  have HT : Hid ((p.c i).tl = []) := ht
  have c1 := h.cr i hi
  rw [ht] at c1
  obtain ⟨c3, c4, c5, c6⟩ := h.hd hi
  have l1 := h.lt
  have l2 := h.lr hi
  have z1 := h.fr i hi (L.ro i + 1)
  have z2 := h.fr i hi (L.ro i + 2)
  have z3 := h.fr i hi (L.ro i + 3)
  simp only [List.length_nil, Nat.zero_add] at c1
  clear h hL ht
  generalize hnx : (p.c i).hd.nx = nx at *
  have HNX : Hid ((p.c i).hd.nx = nx) := hnx
  clear hnx
  go_enter Try.func40, Try.ntmps40
  go_wp2_with fail
  have HP : Hid (PW (w.alloc (.cells #[.int .i64 e, .int .i64 l, .int .i64 r] 26)) L n p) := H.out.up (Up.alloc _ _)
  have HU : Hid (Up w (w.alloc (.cells #[.int .i64 e, .int .i64 l, .int .i64 r] 26))) := Up.alloc _ _
  have e0 := heap_alloc_last w (.cells #[.int .i64 e, .int .i64 l, .int .i64 r] 26)
  have g0 : (w.alloc (.cells #[.int .i64 e, .int .i64 l, .int .i64 r] 26)).cell? ⟨w.heap.size, 0, none⟩ = some (.int .i64 e) := (row_cell e0 0).1
  have g1 : (w.alloc (.cells #[.int .i64 e, .int .i64 l, .int .i64 r] 26)).cell? ⟨w.heap.size, 1, none⟩ = some (.int .i64 l) := (row_cell e0 1).1
  have g2 : (w.alloc (.cells #[.int .i64 e, .int .i64 l, .int .i64 r] 26)).cell? ⟨w.heap.size, 2, none⟩ = some (.int .i64 r) := (row_cell e0 2).1
  have b1 := cell_up c1 HU.out
  have b4 := cell_up c4 HU.out
  have b5 := cell_up c5 HU.out
  have b6 := cell_up c6 HU.out
  have y1 := frozen_up c4 z1 HU.out
  have y2 := frozen_up c5 z2 HU.out
  have y3 := frozen_up c6 z3 HU.out
  clear e0 c1 c3 c4 c5 c6 z1 z2 z3 l1 l2
  generalize w.alloc (.cells #[.int .i64 e, .int .i64 l, .int .i64 r] 26) = W at *
  generalize w.heap.size = G at *
  go_region
  go_wp2
  go_end0
  have h2 := HP.out.setTask HL.out hi HT.out e l r
  rw [HNX.out] at h2
  have hK := (((Kept.of_up HL.out HU.out).set (g := L.br i) (o := L.ro i + 1) (Or.inr (Or.inr ⟨i, hi, rfl⟩)) (.int .i64 e) HL.out rfl (fun _ q => q)).set (g := L.br i) (o := L.ro i + 2) (Or.inr (Or.inr ⟨i, hi, rfl⟩)) (.int .i64 l) HL.out rfl (fun _ q => q)).set (g := L.br i) (o := L.ro i + 3) (Or.inr (Or.inr ⟨i, hi, rfl⟩)) (.int .i64 r) HL.out rfl (fun _ q => q)
  exact ⟨rfl, L, h2.up (Up.drew _), hK.trans (Kept.of_up HL.out (Up.drew _))⟩
/-- Set refuses. -/
theorem t19n (i : Int) (e l r : Int) (w : World) : Calls Try.prog 19 #[.pointer none, .int .i64 i, .agg #[.int .i64 e, .int .i64 l, .int .i64 r]] w (VU w (.int .i64 1)) := by
  go_enter Try.func19, Try.ntmps19
  go_wp2
  go_ret
  exact ⟨rfl, Up.alloc _ _⟩
set_option maxHeartbeats 2000000 in
theorem t19e {w : World} {L : Ly} {n : Nat} {p : Pl} (h : PW w L n p) {i e l r : Int} (hb : i < 0 ∨ (n : Int) ≤ i ∨ ¬ MayT e l) : Calls Try.prog 19 #[.pointer (some ⟨L.bp, 0, none⟩), .int .i64 i, .agg #[.int .i64 e, .int .i64 l, .int .i64 r]] w (VU w (.int .i64 240)) := by
  have h1 := h.p1
  have l1 := h.lp
  clear h
  have C25 : ∀ w, Hid (Calls Try.prog 25 #[.agg #[.int .i64 e, .int .i64 l, .int .i64 r]] w (VU w (.bool (decide (1 ≤ l) && decide (l ≤ e) && decide (e ≤ 1099511627776))))) := fun w => t25 e l r w
  obtain ⟨b, hbb⟩ : ∃ b, (decide (1 ≤ l) && decide (l ≤ e) && decide (e ≤ 1099511627776)) = b := ⟨_, rfl⟩
  have HB : Hid (b = true ↔ MayT e l) := by show _ ↔ _; rw [← hbb]; exact may_dec e l
  rw [hbb] at C25
  clear hbb
  by_cases c1 : i < 0
  · clear hb
    go_enter Try.func19, Try.ntmps19
    go_wp2
    go_ret
    exact ⟨rfl, Up.alloc _ _⟩
  · by_cases c2 : (n : Int) ≤ i
    · clear hb
      go_enter Try.func19, Try.ntmps19
      go_wp2
      go_ret
      exact ⟨rfl, Up.alloc _ _⟩
    · have c3 : b = false := by
        cases hq : b
        · rfl
        · rw [hq] at HB
          rcases hb with q | q | q
          · exact absurd q c1
          · exact absurd q c2
          · exact absurd (HB.out.1 rfl) q
      subst c3
      clear hb
      go_enter Try.func19, Try.ntmps19
      go_wp2_with (go_at_call 25; (with_reducible refine ((C25 _).out).mono ?_); rintro e w1 ⟨rfl, HU1⟩)
      go_ret
      exact ⟨rfl, (Up.alloc _ _).trans HU1.out⟩
set_option maxHeartbeats 2000000 in
theorem t19a {w : World} {L : Ly} {n : Nat} {p : Pl} (h : PW w L n p) (hL : L.Ok n) {i : Nat} (hi : i < n) (ht : (p.c i).tl = []) (hnow : p.now < (p.c i).hd.nx) {e l r : Int} (hm : MayT e l) : Calls Try.prog 19 #[.pointer (some ⟨L.bp, 0, none⟩), .int .i64 i, .agg #[.int .i64 e, .int .i64 l, .int .i64 r]] w (DoR w L n (p.set i ⟨⟨(p.c i).hd.nx, e, l, r⟩, [], (p.c i).done⟩) (.int .i64 0)) := by
  have H : Hid (PW w L n p) := h
  have HL : Hid (L.Ok n) := hL
  have h0 := h.p0
  have h1 := h.p1
  have l1 := h.lp
  have m1 : ¬ (i : Int) < 0 := by omega
  have m2 : ¬ (n : Int) ≤ (i : Int) := by omega
  have m3 : (i : Int) < (n : Int) := by omega
  have C25 : ∀ w, Hid (Calls Try.prog 25 #[.agg #[.int .i64 e, .int .i64 l, .int .i64 r]] w (VU w (.bool true))) := fun w => by
    have := t25 e l r w
    rw [(may_dec e l).2 hm] at this
    exact this
  have C40 : ∀ W, Hid (PW W L n p → Calls Try.prog 40 #[.pointer (some ⟨L.bt, i * 2, none⟩), .int .i64 p.now, .agg #[.int .i64 e, .int .i64 l, .int .i64 r]] W (WorkR W L n (p.set i ⟨⟨(p.c i).hd.nx, e, l, r⟩, [], (p.c i).done⟩))) := fun W hW => t40a hW HL.out hi ht hnow e l r
  clear h hL ht hnow hm
  go_enter Try.func19, Try.ntmps19
  go_upto_region 5 with (go_at_call 25; (with_reducible refine ((C25 _).out).mono ?_); rintro e w1 ⟨rfl, HU1⟩)
  have HP1 : Hid (PW w1 L n p) := H.out.up ((Up.alloc _ _).trans HU1.out)
  have HW1 : Hid (Up w w1) := (Up.alloc _ _).trans HU1.out
  have HT : Hid (TkAt w1 w.heap.size 0 ⟨e, l, r⟩) := by
    have e0 := heap_alloc_last w (.cells #[.int .i64 e, .int .i64 l, .int .i64 r] 26)
    have : TkAt (w.alloc (.cells #[.int .i64 e, .int .i64 l, .int .i64 r] 26)) w.heap.size 0 ⟨e, l, r⟩ := ⟨(row_cell e0 0).1, by rw [Nat.zero_add]; exact (row_cell e0 1).1, by rw [Nat.zero_add]; exact (row_cell e0 2).1⟩
    exact this.up HU1.out
  have k0 := HP1.out.p0
  have k1 := HP1.out.p1
  refine wp_region_up 11 [cV (.pointer (some ⟨L.bp, 0, none⟩)), cV (.pointer (some ⟨L.bp, 0, none⟩)), cV (.pointer (some ⟨L.bp, 1, none⟩)), cV (.slice (some ⟨L.bt, 0, none⟩) n n), cV (.int .i64 i), cV (.pointer (some ⟨L.bt, i * 2, none⟩)), cV (.pointer (some ⟨L.bp, 0, none⟩)), cV (.pointer (some ⟨L.bp, 0, none⟩)), cV (.pointer (some ⟨L.bp, 0, none⟩)), cV (.int .i64 p.now), cV (.agg #[.int .i64 e, .int .i64 l, .int .i64 r])] (by kernel_rfl) (by decide) rfl (by kernel_rfl) (by kernel_rfl) ⟨mV _, mV _, mV _, mV _, mV _, mV _, mV _, mV _, mV _, mV _, mV _, trivial⟩ ?_
  intro vals
  simp only [List.take_succ_cons, List.take_zero, valsN, FillL, Act.put, List.setIfInBounds_toArray, List.set_cons_succ, List.set_cons_zero, Nat.zero_add, Nat.reduceAdd]
  refine ⟨⟨fun v hu h => ?_, fun v hu h => ?_, fun v hu h => ?_, fun v hu h => ?_, fun v hu h => ?_, fun v hu h => ?_, fun v hu h => ?_, fun v hu h => ?_, fun v hu h => ?_, fun v hu h => ?_, fun v hu h => ?_, trivial⟩, fun v hu h => ?_⟩
  all_goals have h0 := hu
  · refine UpO.is _ rfl rfl ?_
    go_simp
  · have e0 : vals 0 = .pointer (some ⟨L.bp, 0, none⟩) := h 0 (by decide) (by kernel_rfl)
    refine UpO.is _ rfl rfl ?_
    rw [e0]
    go_simp
  · have e1 : vals 1 = .pointer (some ⟨L.bp, 0, none⟩) := h 1 (by decide) (by kernel_rfl)
    refine UpO.is _ rfl rfl ?_
    rw [e1]
    go_simp
  · have e2 : vals 2 = .pointer (some ⟨L.bp, 1, none⟩) := h 2 (by decide) (by kernel_rfl)
    have z := cell_up k1 h0
    refine UpO.is _ rfl rfl ?_
    rw [e2]
    go_simp
  · refine UpO.is _ rfl rfl ?_
    go_simp
  · have e3 : vals 3 = .slice (some ⟨L.bt, 0, none⟩) n n := h 3 (by decide) (by kernel_rfl)
    have e4 : vals 4 = .int .i64 i := h 4 (by decide) (by kernel_rfl)
    refine UpO.is _ rfl rfl ?_
    rw [e3, e4]
    go_simp
  · refine UpO.is _ rfl rfl ?_
    go_simp
  · have e6 : vals 6 = .pointer (some ⟨L.bp, 0, none⟩) := h 6 (by decide) (by kernel_rfl)
    refine UpO.is _ rfl rfl ?_
    rw [e6]
    go_simp
  · have e7 : vals 7 = .pointer (some ⟨L.bp, 0, none⟩) := h 7 (by decide) (by kernel_rfl)
    refine UpO.is _ rfl rfl ?_
    rw [e7]
    go_simp
  · have e8 : vals 8 = .pointer (some ⟨L.bp, 0, none⟩) := h 8 (by decide) (by kernel_rfl)
    have z := cell_up k0 h0
    refine UpO.is _ rfl rfl ?_
    rw [e8]
    go_simp
  · obtain ⟨t0, t1, t2⟩ := HT.out.up h0
    simp only [Nat.zero_add] at t0 t1 t2
    refine UpO.is _ rfl rfl ?_
    go_simp
  · have e5 : vals 5 = .pointer (some ⟨L.bt, i * 2, none⟩) := h 5 (by decide)
    have e9 : vals 9 = .int .i64 p.now := h 9 (by decide)
    have e10 : vals 10 = .agg #[.int .i64 e, .int .i64 l, .int .i64 r] := h 10 (by decide)
    clear h
    rw [e5, e9, e10]
    clear e5 e9 e10
    simp only [List.drop_succ_cons, List.drop_zero]
    have HPV : Hid (PW v L n p) := HP1.out.up hu
    have HUV : Hid (Up w v) := HW1.out.trans hu
    go_wp2_with (go_at_call 40; (with_reducible refine ((C40 _).out HPV.out).mono ?_); rintro e w3 ⟨rfl, L2, HP3, HK3⟩)
    go_ret
    exact ⟨rfl, L2, HP3, (Kept.of_up HL.out HUV.out).trans HK3.out⟩
end Go.Proofs.Ytjklaemhfhakhaa
