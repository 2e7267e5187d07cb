/- Set, where nothing waits. -/
import Derived.Test.YtjklaemhfhakhaaDc
import Derived.Deep.DeepCutAuto
import Derived.Test.YtjklaemhfhakhaaEd
namespace Go.Proofs.Ytjklaemhfhakhaa
open Go.ChangeShapes Go.WideShapes Go.ChangeAt Go.RowKit

theorem PW.setTask {w : World} {L : Ly} {n : Nat} {p : Pl} (h : PW w L n p) (hL : L.Ok n) {i : Nat} (hi : i < n) (ht : (p.c i).tl = []) (e l r : Int) : PW (((w.setCell ⟨L.br i, L.ro i + 1, none⟩ (.int .i64 e)).setCell ⟨L.br i, L.ro i + 2, none⟩ (.int .i64 l)).setCell ⟨L.br i, L.ro i + 3, none⟩ (.int .i64 r)) L n (p.set i ⟨⟨(p.c i).hd.nx, e, l, r⟩, [], (p.c i).done⟩) := by
  have hk : Kp (fun b => b ≠ L.br i) w (((w.setCell ⟨L.br i, L.ro i + 1, none⟩ (.int .i64 e)).setCell ⟨L.br i, L.ro i + 2, none⟩ (.int .i64 l)).setCell ⟨L.br i, L.ro i + 3, none⟩ (.int .i64 r)) := ((Kp.set _ _ (fun q => q rfl) _).setCell (fun q => q rfl) _).setCell (fun q => q rfl) _
  have hn1 := hL.rp i hi
  have hn2 := hL.rt i hi
  have a := h.hd hi
  have A : ∀ x y : Nat, x ≠ y → ((⟨L.br i, L.ro i + x, none⟩ : Addr).block ≠ (⟨L.br i, L.ro i + y, none⟩ : Addr).block ∨ (⟨L.br i, L.ro i + x, none⟩ : Addr).off ≠ (⟨L.br i, L.ro i + y, none⟩ : Addr).off) := fun x y q => Or.inr (by show L.ro i + x ≠ L.ro i + y; omega)
  have A0 : ∀ y : Nat, 0 ≠ y → ((⟨L.br i, L.ro i, none⟩ : Addr).block ≠ (⟨L.br i, L.ro i + y, none⟩ : Addr).block ∨ (⟨L.br i, L.ro i, none⟩ : Addr).off ≠ (⟨L.br i, L.ro i + y, none⟩ : Addr).off) := fun y q => Or.inr (by show L.ro i ≠ L.ro i + y; omega)
  refine ⟨hk.cell (fun q => hn1 q.symm) h.p0, hk.cell (fun q => hn1 q.symm) h.p1, fun j hj => ?_, fun j hj => ?_, fun j hj k x hx => ?_, fun j hj => ?_, fun j hj k hk' => some_set (some_set (some_set (h.sp j hj k hk'))), Nat.lt_of_lt_of_le h.lp hk.size, Nat.lt_of_lt_of_le h.lt hk.size, fun k => by simp only [World.frozen?_setCell]; exact h.fp k, fun k => by simp only [World.frozen?_setCell]; exact h.ft k, fun j hj k => by simp only [World.frozen?_setCell]; exact h.fr j hj k⟩
  · have := h.cr j hj
    by_cases q : j = i
    · subst q
      rw [Pl.set_at]
      rw [ht] at this
      exact hk.cell (fun q => hn2 q.symm) this
    · rw [Pl.set_ne _ _ q]
      exact hk.cell (fun q => hn2 q.symm) this
  · have := h.cd j hj
    by_cases q : j = i
    · subst q
      rw [Pl.set_at]
      exact hk.cell (fun q => hn2 q.symm) this
    · rw [Pl.set_ne _ _ q]
      exact hk.cell (fun q => hn2 q.symm) this
  · by_cases q : j = i
    · subst q
      rw [Pl.set_at] at hx
      cases k with
      | zero =>
        simp only [List.getElem?_cons_zero, Option.some.injEq] at hx
        subst hx
        rw [Nat.zero_mul, Nat.add_zero]
        exact ⟨cell_other (cell_other (cell_other a.nx (A0 1 (by omega))) (A0 2 (by omega))) (A0 3 (by omega)),
          cell_other (cell_other (World.cell?_setCell_same _ _ _ a.e) (A 1 2 (by omega))) (A 1 3 (by omega)),
          cell_other (World.cell?_setCell_same _ _ _ (cell_other a.l (A 2 1 (by omega)))) (A 2 3 (by omega)),
          World.cell?_setCell_same _ _ _ (cell_other (cell_other a.r (A 3 1 (by omega))) (A 3 2 (by omega)))⟩
      | succ k => cases hx
    · rw [Pl.set_ne _ _ q] at hx
      exact (h.rw' j hj k x hx).kp hk (hL.rr j i hj hi q)
  · have := h.cap j hj
    by_cases q : j = i
    · subst q
      rw [Pl.set_at]
      rw [ht] at this
      exact this
    · rw [Pl.set_ne _ _ q]
      exact this
set_option maxHeartbeats 2000000 in
theorem t40a {w : World} {L : Ly} {n : Nat} {p : Pl} (h : PW w L n p) (hL : L.Ok n) {i : Nat} (hi : i < n) (ht : (p.c i).tl = []) {now : Int} (hnow : now < (p.c i).hd.nx) (e l r : Int) : Calls Try.prog 40 #[.pointer (some ⟨L.bt, i * 2, none⟩), .int .i64 now, .agg #[.int .i64 e, .int .i64 l, .int .i64 r]] w (WorkR w L n (p.set i ⟨⟨(p.c i).hd.nx, e, l, r⟩, [], (p.c i).done⟩)) := by
  have H : Hid (PW w L n p) := h
  have HL : Hid (L.Ok n) := hL
  have HT : Hid ((p.c i).tl = []) := ht
  have c1 := h.cr i hi
  rw [ht] at c1
  obtain ⟨c3, c4, c5, c6⟩ := h.hd hi
  have l1 := h.lt
  have l2 := h.lr hi
  have z1 := h.fr i hi (L.ro i + 1)
  have z2 := h.fr i hi (L.ro i + 2)
  have z3 := h.fr i hi (L.ro i + 3)
  simp only [List.length_nil, Nat.zero_add] at c1
  clear h hL ht
  generalize hnx : (p.c i).hd.nx = nx at *
  have HNX : Hid ((p.c i).hd.nx = nx) := hnx
  clear hnx
  go_enter Try.func40, Try.ntmps40
  go_wp2_with fail
  have HP : Hid (PW (w.alloc (.cells #[.int .i64 e, .int .i64 l, .int .i64 r] 26)) L n p) := H.out.up (Up.alloc _ _)
  have HU : Hid (Up w (w.alloc (.cells #[.int .i64 e, .int .i64 l, .int .i64 r] 26))) := Up.alloc _ _
  have e0 := heap_alloc_last w (.cells #[.int .i64 e, .int .i64 l, .int .i64 r] 26)
  have g0 : (w.alloc (.cells #[.int .i64 e, .int .i64 l, .int .i64 r] 26)).cell? ⟨w.heap.size, 0, none⟩ = some (.int .i64 e) := (row_cell e0 0).1
  have g1 : (w.alloc (.cells #[.int .i64 e, .int .i64 l, .int .i64 r] 26)).cell? ⟨w.heap.size, 1, none⟩ = some (.int .i64 l) := (row_cell e0 1).1
  have g2 : (w.alloc (.cells #[.int .i64 e, .int .i64 l, .int .i64 r] 26)).cell? ⟨w.heap.size, 2, none⟩ = some (.int .i64 r) := (row_cell e0 2).1
  have b1 := cell_up c1 HU.out
  have b4 := cell_up c4 HU.out
  have b5 := cell_up c5 HU.out
  have b6 := cell_up c6 HU.out
  have y1 := frozen_up c4 z1 HU.out
  have y2 := frozen_up c5 z2 HU.out
  have y3 := frozen_up c6 z3 HU.out
  clear e0 c1 c3 c4 c5 c6 z1 z2 z3 l1 l2
  generalize w.alloc (.cells #[.int .i64 e, .int .i64 l, .int .i64 r] 26) = W at *
  generalize w.heap.size = G at *
  go_region
  go_wp2
  go_end0
  have h2 := HP.out.setTask HL.out hi HT.out e l r
  rw [HNX.out] at h2
  have hK := (((Kept.of_up HL.out HU.out).set (g := L.br i) (o := L.ro i + 1) (Or.inr (Or.inr ⟨i, hi, rfl⟩)) (.int .i64 e) HL.out rfl (fun _ q => q)).set (g := L.br i) (o := L.ro i + 2) (Or.inr (Or.inr ⟨i, hi, rfl⟩)) (.int .i64 l) HL.out rfl (fun _ q => q)).set (g := L.br i) (o := L.ro i + 3) (Or.inr (Or.inr ⟨i, hi, rfl⟩)) (.int .i64 r) HL.out rfl (fun _ q => q)
  exact ⟨rfl, L, h2.up (Up.drew _), hK.trans (Kept.of_up HL.out (Up.drew _))⟩
/-- Set refuses. -/
theorem t19n (i : Int) (e l r : Int) (w : World) : Calls Try.prog 19 #[.pointer none, .int .i64 i, .agg #[.int .i64 e, .int .i64 l, .int .i64 r]] w (VU w (.int .i64 1)) := by
  go_enter Try.func19, Try.ntmps19
  go_wp2
  go_ret
  exact ⟨rfl, Up.alloc _ _⟩
set_option maxHeartbeats 2000000 in
theorem t19e {w : World} {L : Ly} {n : Nat} {p : Pl} (h : PW w L n p) {i e l r : Int} (hb : i < 0 ∨ (n : Int) ≤ i ∨ ¬ MayT e l) : Calls Try.prog 19 #[.pointer (some ⟨L.bp, 0, none⟩), .int .i64 i, .agg #[.int .i64 e, .int .i64 l, .int .i64 r]] w (VU w (.int .i64 240)) := by
  have h1 := h.p1
  have l1 := h.lp
  clear h
  have C25 : ∀ w, Hid (Calls Try.prog 25 #[.agg #[.int .i64 e, .int .i64 l, .int .i64 r]] w (VU w (.bool (decide (1 ≤ l) && decide (l ≤ e) && decide (e ≤ 1099511627776))))) := fun w => t25 e l r w
  obtain ⟨b, hbb⟩ : ∃ b, (decide (1 ≤ l) && decide (l ≤ e) && decide (e ≤ 1099511627776)) = b := ⟨_, rfl⟩
  have HB : Hid (b = true ↔ MayT e l) := by show _ ↔ _; rw [← hbb]; exact may_dec e l
  rw [hbb] at C25
  clear hbb
  by_cases c1 : i < 0
  · clear hb
    go_enter Try.func19, Try.ntmps19
    go_wp2
    go_ret
    exact ⟨rfl, Up.alloc _ _⟩
  · by_cases c2 : (n : Int) ≤ i
    · clear hb
      go_enter Try.func19, Try.ntmps19
      go_wp2
      go_ret
      exact ⟨rfl, Up.alloc _ _⟩
    · have c3 : b = false := by
        cases hq : b
        · rfl
        · rw [hq] at HB
          rcases hb with q | q | q
          · exact absurd q c1
          · exact absurd q c2
          · exact absurd (HB.out.1 rfl) q
      subst c3
      clear hb
      go_enter Try.func19, Try.ntmps19
      go_wp2_with (go_at_call 25; (with_reducible refine ((C25 _).out).mono ?_); rintro e w1 ⟨rfl, HU1⟩)
      go_ret
      exact ⟨rfl, (Up.alloc _ _).trans HU1.out⟩
set_option maxHeartbeats 2000000 in
theorem t19a {w : World} {L : Ly} {n : Nat} {p : Pl} (h : PW w L n p) (hL : L.Ok n) {i : Nat} (hi : i < n) (ht : (p.c i).tl = []) (hnow : p.now < (p.c i).hd.nx) {e l r : Int} (hm : MayT e l) : Calls Try.prog 19 #[.pointer (some ⟨L.bp, 0, none⟩), .int .i64 i, .agg #[.int .i64 e, .int .i64 l, .int .i64 r]] w (DoR w L n (p.set i ⟨⟨(p.c i).hd.nx, e, l, r⟩, [], (p.c i).done⟩) (.int .i64 0)) := by
  have H : Hid (PW w L n p) := h
  have HL : Hid (L.Ok n) := hL
  have h0 := h.p0
  have h1 := h.p1
  have l1 := h.lp
  have m1 : ¬ (i : Int) < 0 := by omega
  have m2 : ¬ (n : Int) ≤ (i : Int) := by omega
  have m3 : (i : Int) < (n : Int) := by omega
  have C25 : ∀ w, Hid (Calls Try.prog 25 #[.agg #[.int .i64 e, .int .i64 l, .int .i64 r]] w (VU w (.bool true))) := fun w => by
    have := t25 e l r w
    rw [(may_dec e l).2 hm] at this
    exact this
  have C40 : ∀ W, Hid (PW W L n p → Calls Try.prog 40 #[.pointer (some ⟨L.bt, i * 2, none⟩), .int .i64 p.now, .agg #[.int .i64 e, .int .i64 l, .int .i64 r]] W (WorkR W L n (p.set i ⟨⟨(p.c i).hd.nx, e, l, r⟩, [], (p.c i).done⟩))) := fun W hW => t40a hW HL.out hi ht hnow e l r
  clear h hL ht hnow hm
  go_enter Try.func19, Try.ntmps19
  go_upto_region 5 with (go_at_call 25; (with_reducible refine ((C25 _).out).mono ?_); rintro e w1 ⟨rfl, HU1⟩)
  have HP1 : Hid (PW w1 L n p) := H.out.up ((Up.alloc _ _).trans HU1.out)
  have HW1 : Hid (Up w w1) := (Up.alloc _ _).trans HU1.out
  have HT : Hid (TkAt w1 w.heap.size 0 ⟨e, l, r⟩) := by
    have e0 := heap_alloc_last w (.cells #[.int .i64 e, .int .i64 l, .int .i64 r] 26)
    have : TkAt (w.alloc (.cells #[.int .i64 e, .int .i64 l, .int .i64 r] 26)) w.heap.size 0 ⟨e, l, r⟩ := ⟨(row_cell e0 0).1, by rw [Nat.zero_add]; exact (row_cell e0 1).1, by rw [Nat.zero_add]; exact (row_cell e0 2).1⟩
    exact this.up HU1.out
  have k0 := HP1.out.p0
  have k1 := HP1.out.p1
  refine wp_region_up 11 [cV (.pointer (some ⟨L.bp, 0, none⟩)), cV (.pointer (some ⟨L.bp, 0, none⟩)), cV (.pointer (some ⟨L.bp, 1, none⟩)), cV (.slice (some ⟨L.bt, 0, none⟩) n n), cV (.int .i64 i), cV (.pointer (some ⟨L.bt, i * 2, none⟩)), cV (.pointer (some ⟨L.bp, 0, none⟩)), cV (.pointer (some ⟨L.bp, 0, none⟩)), cV (.pointer (some ⟨L.bp, 0, none⟩)), cV (.int .i64 p.now), cV (.agg #[.int .i64 e, .int .i64 l, .int .i64 r])] (by kernel_rfl) (by decide) rfl (by kernel_rfl) (by kernel_rfl) ⟨mV _, mV _, mV _, mV _, mV _, mV _, mV _, mV _, mV _, mV _, mV _, trivial⟩ ?_
  intro vals
  simp only [List.take_succ_cons, List.take_zero, valsN, FillL, Act.put, List.setIfInBounds_toArray, List.set_cons_succ, List.set_cons_zero, Nat.zero_add, Nat.reduceAdd]
  refine ⟨⟨fun v hu h => ?_, fun v hu h => ?_, fun v hu h => ?_, fun v hu h => ?_, fun v hu h => ?_, fun v hu h => ?_, fun v hu h => ?_, fun v hu h => ?_, fun v hu h => ?_, fun v hu h => ?_, fun v hu h => ?_, trivial⟩, fun v hu h => ?_⟩
  all_goals have h0 := hu
  · refine UpO.is _ rfl rfl ?_
    go_simp
  · have e0 : vals 0 = .pointer (some ⟨L.bp, 0, none⟩) := h 0 (by decide) (by kernel_rfl)
    refine UpO.is _ rfl rfl ?_
    rw [e0]
    go_simp
  · have e1 : vals 1 = .pointer (some ⟨L.bp, 0, none⟩) := h 1 (by decide) (by kernel_rfl)
    refine UpO.is _ rfl rfl ?_
    rw [e1]
    go_simp
  · have e2 : vals 2 = .pointer (some ⟨L.bp, 1, none⟩) := h 2 (by decide) (by kernel_rfl)
    have z := cell_up k1 h0
    refine UpO.is _ rfl rfl ?_
    rw [e2]
    go_simp
  · refine UpO.is _ rfl rfl ?_
    go_simp
  · have e3 : vals 3 = .slice (some ⟨L.bt, 0, none⟩) n n := h 3 (by decide) (by kernel_rfl)
    have e4 : vals 4 = .int .i64 i := h 4 (by decide) (by kernel_rfl)
    refine UpO.is _ rfl rfl ?_
    rw [e3, e4]
    go_simp
  · refine UpO.is _ rfl rfl ?_
    go_simp
  · have e6 : vals 6 = .pointer (some ⟨L.bp, 0, none⟩) := h 6 (by decide) (by kernel_rfl)
    refine UpO.is _ rfl rfl ?_
    rw [e6]
    go_simp
  · have e7 : vals 7 = .pointer (some ⟨L.bp, 0, none⟩) := h 7 (by decide) (by kernel_rfl)
    refine UpO.is _ rfl rfl ?_
    rw [e7]
    go_simp
  · have e8 : vals 8 = .pointer (some ⟨L.bp, 0, none⟩) := h 8 (by decide) (by kernel_rfl)
    have z := cell_up k0 h0
    refine UpO.is _ rfl rfl ?_
    rw [e8]
    go_simp
  · obtain ⟨t0, t1, t2⟩ := HT.out.up h0
    simp only [Nat.zero_add] at t0 t1 t2
    refine UpO.is _ rfl rfl ?_
    go_simp
  · have e5 : vals 5 = .pointer (some ⟨L.bt, i * 2, none⟩) := h 5 (by decide)
    have e9 : vals 9 = .int .i64 p.now := h 9 (by decide)
    have e10 : vals 10 = .agg #[.int .i64 e, .int .i64 l, .int .i64 r] := h 10 (by decide)
    clear h
    rw [e5, e9, e10]
    clear e5 e9 e10
    simp only [List.drop_succ_cons, List.drop_zero]
    have HPV : Hid (PW v L n p) := HP1.out.up hu
    have HUV : Hid (Up w v) := HW1.out.trans hu
    go_wp2_with (go_at_call 40; (with_reducible refine ((C40 _).out HPV.out).mono ?_); rintro e w3 ⟨rfl, L2, HP3, HK3⟩)
    go_ret
    exact ⟨rfl, L2, HP3, (Kept.of_up HL.out HUV.out).trans HK3.out⟩
end Go.Proofs.Ytjklaemhfhakhaa
/- wakes: what is known. -/
namespace Go.Proofs.Ytjklaemhfhakhaa
open Go.ChangeShapes Go.WideShapes Go.ChangeAt Go.RowKit

theorem PB.newP {n : Nat} {T : Nat → Tk} (h : ∀ i, i < n → MayT (T i).e (T i).l) : PB n (newP T) :=
  ⟨⟨Int.le_refl _, by show (0 : Int) ≤ _; omega⟩, fun i hi => ⟨⟨h i hi, Int.le_refl _, by show (0 : Int) ≤ _; omega⟩, fun x q => (List.not_mem_nil q).elim, by show 0 ≤ 1152921504606846976; omega, Int.le_refl _, by have := (h i hi).1; show 0 < (T i).l; omega⟩⟩
/-- The next stretch, and the plan behind it. -/
def nextE (n : Nat) (p : Pl) : Int := endN p.J (runN p.J p.now n).1 ((runN p.J p.now n).2 + (runN p.J p.now n).1.left) n
def nextP (n : Nat) (p : Pl) : Sl × Pl :=
  (⟨(runN p.J p.now n).1.task, (runN p.J p.now n).2, nextE n p, decide ((runN p.J p.now n).1.due < nextE n p)⟩, p.go (runN p.J p.now n).1.task.toNat (nextE n p - (runN p.J p.now n).2) (nextE n p))
theorem next_of {n : Nat} {p : Pl} (hb : PB n p) (h0 : 0 < n) : ∃ m f, Str n p m f (nextE n p) ∧ nextP n p = (⟨m, f, nextE n p, decide ((p.J m).due < nextE n p)⟩, p.go m (nextE n p - f) (nextE n p)) ∧ endN p.J (p.J m) (f + (p.J m).left) n = nextE n p := by
  obtain ⟨m, f, e, hr⟩ := hb.runs h0
  refine ⟨m, f, ⟨hr, ?_, ?_⟩, ?_, ?_⟩
  · unfold nextE
    rw [e]
    exact (hr.ends hb).1
  · unfold nextE
    rw [e]
    exact Int.le_refl _
  · unfold nextP
    rw [e]
    rfl
  · unfold nextE
    rw [e]
theorem t17k {w : World} {L : Ly} {n : Nat} {p : Pl} (h : PW w L n p) (hL : L.Ok n) (hb : PB n p) (hn : n ≤ 256) (h0 : 0 < n) (ht : nextE n p ≤ 1152921504606846976) :
    Calls Try.prog 17 #[.pointer (some ⟨L.bp, 0, none⟩)] w (DoR w L n (nextP n p).2 (.tuple #[(nextP n p).1.val, .int .i64 0])) ∧ PB n (nextP n p).2 := by
  obtain ⟨m, f, hs, he, hto⟩ := next_of hb h0
  rw [he]
  exact ⟨t17 h hL hb hn hs.runs hto ht, hb.go hs ht⟩
def T2 (i : Nat) : Tk := if i = 0 then ⟨4, 1, 0⟩ else ⟨6, 2, 0⟩
def P0 : Pl := newP T2
def P1 : Pl := (nextP 2 P0).2
def P2 : Pl := (untilN 2 7 65536 P1).2
theorem w1 : (nextP 2 P0).1 = ⟨0, 0, 1, false⟩ := by kernel_rfl
theorem w2 : nextE 2 P0 = 1 := by kernel_rfl
theorem w3 : (untilN 2 7 65536 P1).1 = [⟨1, 1, 3, false⟩, ⟨0, 4, 5, false⟩, ⟨1, 6, 7, false⟩] := by kernel_rfl
theorem w4 : P2.now = 7 := by kernel_rfl
theorem w5 : (P2.c 0).tl = [] ∧ (P2.c 1).tl = [] := ⟨by kernel_rfl, by kernel_rfl⟩
theorem w6 : (P2.c 0).hd.nx = 8 := by kernel_rfl
theorem w7 : (P2.c 0).last.e = 4 ∧ (P2.c 0).last.l = 1 ∧ (P2.c 1).last.e = 6 ∧ (P2.c 1).last.l = 2 := ⟨by kernel_rfl, by kernel_rfl, by kernel_rfl, by kernel_rfl⟩
def E2 (i : Nat) : Nat := if i = 0 then 4 else 6
def L2 (i : Nat) : Nat := if i = 0 then 1 else 2
theorem w8 : loadN E2 L2 2 = some (7, 12) := by decide +kernel
theorem may2 : ∀ i, i < 2 → MayT (T2 i).e (T2 i).l := by
  intro i hi
  rcases (show i = 0 ∨ i = 1 by omega) with rfl | rfl
  · show (1 : Int) ≤ 1 ∧ (1 : Int) ≤ 4 ∧ (4 : Int) ≤ 1099511627776; omega
  · show (1 : Int) ≤ 2 ∧ (2 : Int) ≤ 6 ∧ (6 : Int) ≤ 1099511627776; omega
end Go.Proofs.Ytjklaemhfhakhaa
/- wakes. -/
namespace Go.Proofs.Ytjklaemhfhakhaa
open Go.ChangeShapes Go.WideShapes Go.ChangeAt Go.RowKit

theorem tl_two (w : World) : TL (w.alloc (.cells #[.int .i64 4, .int .i64 1, .int .i64 0, .int .i64 6, .int .i64 2, .int .i64 0] 26)) (some ⟨w.heap.size, 0, none⟩) 2 2 T2 := by
  have e := heap_alloc_last w (.cells #[.int .i64 4, .int .i64 1, .int .i64 0, .int .i64 6, .int .i64 2, .int .i64 0] 26)
  refine ⟨Nat.le_refl _, fun _ => ⟨_, _, rfl, fun i hi => ?_⟩⟩
  rcases (show i = 0 ∨ i = 1 by omega) with rfl | rfl
  · exact ⟨(row_cell e 0).1, (row_cell e 1).1, (row_cell e 2).1⟩
  · exact ⟨(row_cell e 3).1, (row_cell e 4).1, (row_cell e 5).1⟩
/-- A stretch at a place of a row. -/
structure SlAt (w : World) (g o : Nat) (s : Sl) : Prop where
  c0 : w.cell? ⟨g, o, none⟩ = some (.int .i64 s.t)
  c1 : w.cell? ⟨g, o + 1, none⟩ = some (.int .i64 s.f)
  c2 : w.cell? ⟨g, o + 2, none⟩ = some (.int .i64 s.e)
  c3 : w.cell? ⟨g, o + 3, none⟩ = some (.bool s.l)
theorem SlAt.kp {w w' : World} {F : Nat → Prop} {g o : Nat} {s : Sl} (h : SlAt w g o s) (hk : Kp F w w') (hF : F g) : SlAt w' g o s := ⟨hk.cell hF h.c0, hk.cell hF h.c1, hk.cell hF h.c2, hk.cell hF h.c3⟩
theorem SlAt.up {w w' : World} {g o : Nat} {s : Sl} (h : SlAt w g o s) (hu : Up w w') : SlAt w' g o s := h.kp (F := fun _ => True) (Kp.of_up hu) trivial
theorem SO.sl {b : Nat} {w : World} {p : Option Addr} {n cap : Nat} {D : List Sl} (h : SO b w (.slice p n cap) D) (h0 : 0 < n) : ∃ g, p = some ⟨g, 0, none⟩ ∧ b ≤ g ∧ g < w.heap.size ∧ ∀ i, i < n → SlAt w g (i * 4) (D.getD i Sl.zero) := by
  have hl := h.len
  obtain ⟨g, e, h1, h2, _⟩ := h.at (i := 0) (by omega)
  refine ⟨g, e, h1, h2, fun i hi => ?_⟩
  obtain ⟨g', e', _, _, k⟩ := h.at (i := i) (by omega)
  rw [e] at e'
  simp only [Option.some.injEq, Addr.mk.injEq] at e'
  rw [← e'.1] at k
  exact ⟨k 0 _ (by omega) rfl, k 1 _ (by omega) rfl, k 2 _ (by omega) rfl, k 3 _ (by omega) rfl⟩
theorem Kept.upw {n : Nat} {w w1 w2 : World} {L L' : Ly} (h : Kept n w1 w2 L L') (hu : Up w w1) (hO : ∀ b, L.Own n b → w.heap.size ≤ b) : Up w w2 := by
  have k1 : Kp (fun b => b < w.heap.size) w w2 := ⟨h.kp.os.trans hu.os, h.kp.tape.trans hu.tape, h.kp.output.trans hu.output, Nat.le_trans hu.size h.kp.size, fun b hb hl => (h.kp.block b (fun q => by have := hO b q; omega) (Nat.lt_of_lt_of_le hl hu.size)).trans (hu.block b hl)⟩
  exact k1.up fun b hb => hb
/-- A plan, all that is known of it. -/
structure PU (w : World) (L : Ly) (n : Nat) (p : Pl) : Prop where
  pw : PW w L n p
  ok : L.Ok n
  pb : PB n p
def P3 : Pl := P2.set 0 ⟨⟨8, 9, 2, 0⟩, [], (P2.c 0).done⟩
theorem d17 (W : World) (L : Ly) (h : PU W L 2 P0) : Calls Try.prog 17 #[.pointer (some ⟨L.bp, 0, none⟩)] W (fun e w' => ∃ L', e = .returned (.tuple #[.agg #[.int .i64 0, .int .i64 0, .int .i64 1, .bool false], .int .i64 0]) ∧ Hid (PU w' L' 2 P1) ∧ Hid (Kept 2 W w' L L')) := by
  obtain ⟨h1, h2⟩ := t17k h.pw h.ok h.pb (by omega) (by omega) (by rw [w2]; omega)
  refine h1.mono ?_
  rintro e w' ⟨rfl, L', k1, k2⟩
  refine ⟨L', ?_, ⟨k1, k2.out.ok, h2⟩, k2⟩
  rw [w1]
  rfl
theorem d18 (W : World) (L : Ly) (h : PU W L 2 P1) : Calls Try.prog 18 #[.pointer (some ⟨L.bp, 0, none⟩), .int .i64 7] W (fun e w' => ∃ L' g c, e = .returned (.slice (some ⟨g, 0, none⟩) 3 c) ∧ Hid (PU w' L' 2 P2) ∧ Hid (Kept 2 W w' L L') ∧ Hid (W.heap.size ≤ g) ∧ Hid (3 ≤ c) ∧ Hid (SlAt w' g 0 ⟨1, 1, 3, false⟩) ∧ Hid (SlAt w' g 8 ⟨1, 6, 7, false⟩)) := by
  refine (t18 h.pw h.ok h.pb (by omega) 7 (by omega)).mono ?_
  rintro e w' ⟨pp, c, L', k1, k2, k3, k4, k5⟩
  rw [show min (7 : Int) 1152921504606846976 = 7 by decide] at k1 k2 k3 k4
  rw [w3] at k1 k2
  obtain ⟨g, rfl, g1, g2, g3⟩ := k2.out.sl (by show 0 < 3; omega)
  have hc : 3 ≤ c := by
    rcases k2.out.2 with ⟨q, _⟩ | ⟨g', cap', cur, q, _, _, q3, _⟩
    · cases q
    · simp only [Value.slice.injEq] at q
      have : ([⟨1, 1, 3, false⟩, ⟨0, 4, 5, false⟩, ⟨1, 6, 7, false⟩] : List Sl).length = 3 := rfl
      omega
  exact ⟨L', g, c, k1, ⟨k3, k5.out.ok, k4⟩, k5, g1, hc, g3 0 (by show 0 < 3; omega), g3 2 (by show 2 < 3; omega)⟩
theorem d13 (W : World) (L : Ly) (h : PU W L 2 P2) : Calls Try.prog 13 #[.pointer (some ⟨L.bp, 0, none⟩)] W (VU W (.tuple #[.int .i64 7, .int .i64 12])) := by
  have := t13 h.pw h.pb E2 L2 (fun i hi => by
    obtain ⟨a, b, c, d⟩ := w7
    rcases (show i = 0 ∨ i = 1 by omega) with rfl | rfl
    · rw [a, b]; exact ⟨rfl, rfl, by decide, by decide, by decide⟩
    · rw [c, d]; exact ⟨rfl, rfl, by decide, by decide, by decide⟩) (by omega)
  rw [w8] at this
  exact this
theorem d19 (W : World) (L : Ly) (h : PU W L 2 P2) : Calls Try.prog 19 #[.pointer (some ⟨L.bp, 0, none⟩), .int .i64 0, .agg #[.int .i64 9, .int .i64 2, .int .i64 0]] W (fun e w' => ∃ L', e = .returned (.int .i64 0) ∧ Hid (PW w' L' 2 P3) ∧ Hid (Kept 2 W w' L L')) := by
  have := t19a h.pw h.ok (i := 0) (by omega) w5.1 (by rw [w4, w6]; omega) (e := 9) (l := 2) (r := 0) (by show (1 : Int) ≤ 2 ∧ (2 : Int) ≤ 9 ∧ (9 : Int) ≤ 1099511627776; omega)
  rw [w6] at this
  refine this.mono ?_
  rintro e w' ⟨h1, L', h2, h3⟩
  exact ⟨L', h1, h2, h3⟩
theorem d15 (W : World) (L : Ly) (h : PW W L 2 P3) : Calls Try.prog 15 #[.pointer (some ⟨L.bp, 0, none⟩)] W fun e w' => e = .returned (.int .i64 7) ∧ w' = W := by
  have := t15 h
  rw [show P3.now = 7 from w4] at this
  exact this
theorem d19e (W : World) (L : Ly) (h : PW W L 2 P3) : Calls Try.prog 19 #[.pointer (some ⟨L.bp, 0, none⟩), .int .i64 2, .agg #[.int .i64 1, .int .i64 1, .int .i64 0]] W (VU W (.int .i64 240)) := t19e h (Or.inr (Or.inl (Int.le_refl _)))
set_option maxRecDepth 20000 in
set_option maxHeartbeats 8000000 in
theorem t9 (w : World) : Calls Try.prog 9 #[] w (VU w (.bool true)) := by
  have HT : Hid (TL (w.alloc (.cells #[.int .i64 4, .int .i64 1, .int .i64 0, .int .i64 6, .int .i64 2, .int .i64 0] 26)) (some ⟨w.heap.size, 0, none⟩) 2 2 T2) := tl_two w
  have C1 : ∀ W p, Hid (TL W p 2 2 T2 → Calls Try.prog 10 #[.slice p 2 2] W (fun e w' => ∃ L, e = .returned (.tuple #[.pointer (some ⟨L.bp, 0, none⟩), .int .i64 0]) ∧ Hid (PW w' L 2 P0 ∧ L.Ok 2 ∧ PB 2 P0) ∧ Hid (Up W w') ∧ Hid (∀ b, L.Own 2 b → W.heap.size ≤ b))) := by
    intro W p hT
    refine (t10 hT (by omega)).mono ?_
    rintro e w' (⟨_, L, h1, h2, h3, h4, h5⟩ | ⟨h1, _⟩)
    · exact ⟨L, h1, ⟨h2, h3, PB.newP may2⟩, h5, h4⟩
    · exact absurd may2 h1
  go_enter Try.func9, Try.ntmps9
  go_wp2_with (first
    | (go_at_call 10; (with_reducible refine ((C1 _ _).out HT.out).mono ?_); rintro e w1 ⟨L0, rfl, HP, HU, HO⟩; (have HP0 : Hid (PU w1 L0 2 P0) := ⟨HP.out.1, HP.out.2.1, HP.out.2.2⟩); (have HU1 : Hid (Up w w1) := (Up.alloc _ _).trans HU.out); (have HO1 : Hid (∀ b, L0.Own 2 b → w.heap.size ≤ b) := fun b q => Nat.le_trans (Up.alloc w _).size (HO.out b q)))
    | (go_at_call 17; (with_reducible refine (d17 _ _ HP0.out).mono ?_); rintro e w2 ⟨L1, rfl, HP1, HK1⟩; (have HP1a : Hid (PU (w2.alloc (.cells #[.int .i64 0, .int .i64 0, .int .i64 1, .bool false] 42)) L1 2 P1) := ⟨HP1.out.pw.up (Up.alloc _ _), HP1.out.ok, HP1.out.pb⟩); (have HU2 : Hid (Up w (w2.alloc (.cells #[.int .i64 0, .int .i64 0, .int .i64 1, .bool false] 42))) := (HK1.out.upw HU1.out HO1.out).trans (Up.alloc _ _)); (have HO2 : Hid (∀ b, L1.Own 2 b → w.heap.size ≤ b) := fun b q => HO1.out b (HK1.out.own b q)); (have HA1 : Hid (SlAt (w2.alloc (.cells #[.int .i64 0, .int .i64 0, .int .i64 1, .bool false] 42)) w2.heap.size 0 ⟨0, 0, 1, false⟩) := by have e0 := heap_alloc_last w2 (.cells #[.int .i64 0, .int .i64 0, .int .i64 1, .bool false] 42); exact ⟨(row_cell e0 0).1, (row_cell e0 1).1, (row_cell e0 2).1, (row_cell e0 3).1⟩); (have HN1 : Hid (¬ L1.Own 2 w2.heap.size) := fun q => Nat.lt_irrefl _ (HP1.out.pw.own_lt q)); rw [HK1.out.bp.symm])
    | (go_at_call 18; (with_reducible refine (d18 _ _ HP1a.out).mono ?_); rintro e w3 ⟨L2, g, c, rfl, HP2, HK2, HG2, HC2, HS0, HS2⟩; (have HA2 : Hid (SlAt w3 w2.heap.size 0 ⟨0, 0, 1, false⟩) := HA1.out.kp HK2.out.kp HN1.out); (have HU3 : Hid (Up w w3) := HK2.out.upw HU2.out HO2.out); (have HO3 : Hid (∀ b, L2.Own 2 b → w.heap.size ≤ b) := fun b q => HO2.out b (HK2.out.own b q)); (have HN2 : Hid (¬ L2.Own 2 w2.heap.size ∧ ¬ L2.Own 2 g) := ⟨fun q => HN1.out (HK2.out.own _ q), fun q => by have h1 := HP1a.out.pw.own_lt (HK2.out.own _ q); have h2 := HG2.out; omega⟩); rw [HK2.out.bp.symm])
    | (go_at_call 13; (with_reducible refine (d13 _ _ HP2.out).mono ?_); rintro e w4 ⟨rfl, HU4⟩; (have HP2a : Hid (PU w4 L2 2 P2) := ⟨HP2.out.pw.up HU4.out, HP2.out.ok, HP2.out.pb⟩))
    | (go_at_call 19; (with_reducible refine (d19 _ _ HP2a.out).mono ?_); rintro e w5 ⟨L3, rfl, HP3, HK3⟩; (have HA3 : Hid (SlAt w5 w2.heap.size 0 ⟨0, 0, 1, false⟩) := (HA2.out.up HU4.out).kp HK3.out.kp HN2.out.1); (have HS0a : Hid (SlAt w5 g 0 ⟨1, 1, 3, false⟩) := (HS0.out.up HU4.out).kp HK3.out.kp HN2.out.2); (have HS2a : Hid (SlAt w5 g 8 ⟨1, 6, 7, false⟩) := (HS2.out.up HU4.out).kp HK3.out.kp HN2.out.2); (have HU5 : Hid (Up w w5) := HK3.out.upw (HU3.out.trans HU4.out) HO3.out); (obtain ⟨a0, a1, a2, a3⟩ := HA3.out); (obtain ⟨s0, s1, s2, s3⟩ := HS0a.out); (obtain ⟨r0, r1, r2, r3⟩ := HS2a.out); simp only [Nat.zero_add, Nat.reduceAdd] at a0 a1 a2 a3 s0 s1 s2 s3 r0 r1 r2 r3; (have hc := HC2.out); rw [HK3.out.bp.symm])
    | (go_at_call 15; (with_reducible refine (d15 _ _ HP3.out).mono ?_); rintro e w6 ⟨rfl, hw6⟩; subst w6)
    | (go_at_call 19; (with_reducible refine (d19e _ _ HP3.out).mono ?_); rintro e w7 ⟨rfl, HU7⟩))
  go_ret
  exact ⟨rfl, HU5.out.trans HU7.out⟩
end Go.Proofs.Ytjklaemhfhakhaa
