/- change, where nothing is laid; the last row dropped. -/
import Derived.Test.YtjklaemhfhakhaaKd
import Derived.Test.YtjklaemhfhakhaaEe
import Derived.Deep.DeepCutAuto
namespace Go.Proofs.Ytjklaemhfhakhaa
open Go.ChangeShapes Go.WideShapes Go.ChangeAt Go.RowKit

/-- The last row is dropped. -/
theorem PW.pop {w : World} {L : Ly} {n : Nat} {p : Pl} (h : PW w L n p) (hL : L.Ok n) {i : Nat} (hi : i < n) {y : Rw} {t0 : List Rw} (hx : (p.c i).tl = t0 ++ [y]) : PW (w.setCell ⟨L.bt, i * 2, none⟩ (.slice (some ⟨L.br i, L.ro i, none⟩) (t0.length + 1) (L.rc i))) L n (p.set i ⟨(p.c i).hd, t0, (p.c i).done⟩) := by
  refine h.store ⟨rfl, rfl, rfl⟩ (cell_other h.p0 (Or.inl hL.pt)) (Or.inl (fun e => hL.pt e.symm)) fun j hj => ?_
  by_cases e : j = i
  · subst e
    rw [Pl.set_at]
    have hc := h.cap j hj
    rw [hx] at hc
    simp only [List.length_append, List.length_singleton] at hc
    refine ⟨World.cell?_setCell_same _ _ _ (h.cr j hj), cell_other (h.cd j hj) (Or.inr (by show j * 2 + 1 ≠ j * 2; omega)), fun k z hz => ?_, by show t0.length + 1 ≤ L.rc j; omega, fun k hk => ⟨k, hk, rfl⟩⟩
    have hz' : ((p.c j).hd :: (p.c j).tl)[k]? = some z := by
      rw [hx, ← List.cons_append]
      have hz1 : ((p.c j).hd :: t0)[k]? = some z := hz
      have hlt : k < ((p.c j).hd :: t0).length := by
        rcases Nat.lt_or_ge k ((p.c j).hd :: t0).length with q | q
        · exact q
        · rw [List.getElem?_eq_none q] at hz1; cases hz1
      rw [List.getElem?_append_left hlt]
      exact hz1
    exact (h.rw' j hj k z hz').off (Or.inl (hL.rt j hj))
  · rw [Pl.set_ne _ _ e]
    exact ⟨cell_other (h.cr j hj) (Or.inr (by show j * 2 ≠ i * 2; omega)), cell_other (h.cd j hj) (Or.inr (by show j * 2 + 1 ≠ i * 2; omega)), fun k y hy => (h.rw' j hj k y hy).off (Or.inl (hL.rt j hj)), h.cap j hj, fun k hk => ⟨k, hk, rfl⟩⟩
theorem KeptG.up {n : Nat} {w w1 w2 : World} {L L1 : Ly} (k : KeptG n w w1 L L1) (hu : Up w1 w2) : KeptG n w w2 L L1 := ⟨k.ok, k.bp, k.own, k.kp.trans (Kp.of_up hu)⟩
theorem pop_kept {w : World} {L : Ly} {n : Nat} (hL : L.Ok n) (i : Nat) (v : Value) : KeptG n w (w.setCell ⟨L.bt, i * 2, none⟩ v) L L := ((Kept.of_up hL (Up.refl w)).set (g := L.bt) (o := i * 2) (Or.inr (Or.inl rfl)) v hL rfl (fun _ q => q)).g
set_option maxHeartbeats 4000000 in
/-- The last row has begun, and is of that task. -/
theorem t40e {w : World} {L : Ly} {n : Nat} {p : Pl} (h : PW w L n p) (hL : L.Ok n) {i : Nat} (hi : i < n) (hm : (p.c i).tl.length ≤ 1000000) {now : Int} (h1 : (p.c i).last.nx ≤ now) (e l r : Int) (hne : (p.c i).last.e = e ∧ (p.c i).last.l = l ∧ (p.c i).last.r = r) :
    Calls Try.prog 40 #[.pointer (some ⟨L.bt, i * 2, none⟩), .int .i64 now, .agg #[.int .i64 e, .int .i64 l, .int .i64 r]] w (ChR w L n p (.tuple #[])) := by
  have H : Hid (PW w L n p) := h
  have HL : Hid (L.Ok n) := hL
  have c1 := h.cr i hi
  have HR := h.rw' i hi (p.c i).tl.length (p.c i).last (p.c i).last_at
  have l1 := h.lt
  have l2 := h.lr hi
  obtain ⟨T, hT⟩ : ∃ T, (p.c i).tl.length = T := ⟨_, rfl⟩
  obtain ⟨x, hx⟩ : ∃ x, (p.c i).last = x := ⟨_, rfl⟩
  rw [hx] at HR hne h1
  obtain ⟨nx, ea, la, ra⟩ := x
  obtain ⟨rfl, rfl, rfl⟩ : ea = e ∧ la = l ∧ ra = r := hne
  rw [hT] at c1 HR hm
  obtain ⟨c3, c4, c5, c6⟩ := HR
  simp only at c3 c4 c5 c6 h1
  clear h hL hT hx
  have q1 : (((T + 1 : Nat) : Int)) - 1 = (T : Int) := by omega
  have q2 : IntKind.i64.wrap (T : Int) = (T : Int) := by rw [IntKind.wrap_i64]; omega
  have q3 : (T : Int) < ((T + 1 : Nat) : Int) := by omega
  have q4 : (0 : Int) ≤ (T : Int) := by omega
  have q5 : ¬ now < nx := by omega
  clear h1
  go_enter Try.func40, Try.ntmps40
  go_wp2_with fail
  go_end0
  have HU9 := (Up.alloc w (.cells #[.int .i64 ea, .int .i64 la, .int .i64 ra] 26)).trans (Up.alloc _ (.cells #[.int .i64 nx, .int .i64 ea, .int .i64 la, .int .i64 ra] 67))
  exact ⟨rfl, L, H.out.up HU9, (Kept.of_up HL.out HU9).g⟩
set_option maxHeartbeats 4000000 in
/-- The last row has not begun, and the row ahead is of that task. -/
theorem t40f {w : World} {L : Ly} {n : Nat} {p : Pl} (h : PW w L n p) (hL : L.Ok n) {i : Nat} (hi : i < n) {t0 : List Rw} {y : Rw} (hx : (p.c i).tl = t0 ++ [y]) (hm : t0.length ≤ 1000000) {now : Int} (h1 : now < y.nx) (e l r : Int) (hne : (Crs.mk (p.c i).hd t0 (p.c i).done).last.e = e ∧ (Crs.mk (p.c i).hd t0 (p.c i).done).last.l = l ∧ (Crs.mk (p.c i).hd t0 (p.c i).done).last.r = r) :
    Calls Try.prog 40 #[.pointer (some ⟨L.bt, i * 2, none⟩), .int .i64 now, .agg #[.int .i64 e, .int .i64 l, .int .i64 r]] w (ChR w L n (p.set i ⟨(p.c i).hd, t0, (p.c i).done⟩) (.tuple #[])) := by
  have H : Hid (PW w L n p) := h
  have HL : Hid (L.Ok n) := hL
  have HX : Hid ((p.c i).tl = t0 ++ [y]) := hx
  have c1 := h.cr i hi
  have hcap := h.cap i hi
  have hlen : (p.c i).tl.length = t0.length + 1 := by rw [hx]; simp
  have HY := (h.rw' i hi (t0.length + 1) y (by rw [hx]; simp)).nx
  have HLA : Hid (((Crs.mk (p.c i).hd t0 (p.c i).done).hd :: t0)[t0.length]? = some (Crs.mk (p.c i).hd t0 (p.c i).done).last) := Crs.last_at (Crs.mk (p.c i).hd t0 (p.c i).done)
  obtain ⟨T, hT⟩ : ∃ T, t0.length = T := ⟨_, rfl⟩
  obtain ⟨x, hx'⟩ : ∃ x, (Crs.mk (p.c i).hd t0 (p.c i).done).last = x := ⟨_, rfl⟩
  rw [hx'] at HLA hne
  obtain ⟨nx, ea, la, ra⟩ := x
  obtain ⟨rfl, rfl, rfl⟩ : ea = e ∧ la = l ∧ ra = r := hne
  rw [hlen, hT] at c1 hcap
  rw [hT] at HY HLA hm
  have HT : Hid (t0.length = T) := hT
  clear hx'
  have l1 := h.lt
  have l2 := h.lr hi
  have z1 := h.ft (i * 2)
  have HBT : Hid (L.bt ≠ L.br i) := fun q => hL.rt i hi q.symm
  clear h hL hx hlen hT
  generalize hyn : y.nx = yn at *
  have q1 : (((T + 1 + 1 : Nat) : Int)) - 1 = ((T + 1 : Nat) : Int) := by omega
  have q2 : IntKind.i64.wrap ((T + 1 : Nat) : Int) = ((T + 1 : Nat) : Int) := by rw [IntKind.wrap_i64]; omega
  have q3 : ((T + 1 : Nat) : Int) < ((T + 1 + 1 : Nat) : Int) := by omega
  have q4 : (0 : Int) ≤ ((T + 1 : Nat) : Int) := by omega
  have q5 : ¬ ((T + 1 : Nat) : Int) = 0 := by omega
  have q6 : ((T + 1 : Nat) : Int) - 1 = (T : Int) := by omega
  have q7 : IntKind.i64.wrap (T : Int) = (T : Int) := by rw [IntKind.wrap_i64]; omega
  have q8 : (0 : Int) ≤ (T : Int) := by omega
  have q9 : (T : Int) < ((T + 1 : Nat) : Int) := by omega
  have q10 : ((T + 1 : Nat) : Int) ≤ (L.rc i : Int) := by omega
  go_enter Try.func40, Try.ntmps40
  go_upto_region 5 with fail
  have HU1 : Hid (Up w (w.alloc (.cells #[.int .i64 ea, .int .i64 la, .int .i64 ra] 26))) := Up.alloc _ _
  have e0 := heap_alloc_last w (.cells #[.int .i64 ea, .int .i64 la, .int .i64 ra] 26)
  have HGB : Hid (w.heap.size ≠ L.bt) := by intro q; omega
  have d1 := cell_up c1 HU1.out
  have z2 := frozen_up c1 z1 HU1.out
  clear c1 z1 HY l1 l2
  generalize w.alloc (.cells #[.int .i64 ea, .int .i64 la, .int .i64 ra] 26) = W0 at *
  generalize hG : w.heap.size = G at *
  clear hG
  have HP2 := (H.out.up HU1.out).pop HL.out hi HX.out
  have HK2 := KeptG.after HU1.out (pop_kept (w := W0) HL.out i (.slice (some ⟨L.br i, L.ro i, none⟩) (t0.length + 1) (L.rc i)))
  have g0 := cell_other (a' := ⟨L.bt, i * 2, none⟩) (y := .slice (some ⟨L.br i, L.ro i, none⟩) (t0.length + 1) (L.rc i)) (row_cell e0 0).1 (Or.inl HGB.out)
  have g1 := cell_other (a' := ⟨L.bt, i * 2, none⟩) (y := .slice (some ⟨L.br i, L.ro i, none⟩) (t0.length + 1) (L.rc i)) (row_cell e0 1).1 (Or.inl HGB.out)
  have g2 := cell_other (a' := ⟨L.bt, i * 2, none⟩) (y := .slice (some ⟨L.br i, L.ro i, none⟩) (t0.length + 1) (L.rc i)) (row_cell e0 2).1 (Or.inl HGB.out)
  rw [HT.out] at HP2 HK2 g0 g1 g2
  replace g0 : _ = some (Value.int .i64 ea) := g0
  replace g1 : _ = some (Value.int .i64 la) := g1
  replace g2 : _ = some (Value.int .i64 ra) := g2
  have c2 := HP2.cr i hi
  have hr := HP2.rw' i hi T ⟨nx, ea, la, ra⟩ (by rw [Pl.set_at]; exact HLA.out)
  rw [Pl.set_at] at c2
  simp only [HT.out] at c2
  obtain ⟨r0, r1, r2, r3⟩ := hr
  simp only at r0 r1 r2 r3
  have HPP : Hid (PW (W0.setCell ⟨L.bt, i * 2, none⟩ (.slice (some ⟨L.br i, L.ro i, none⟩) (T + 1) (L.rc i))) L n (p.set i ⟨(p.c i).hd, t0, (p.c i).done⟩)) := HP2
  have HKK : Hid (KeptG n w (W0.setCell ⟨L.bt, i * 2, none⟩ (.slice (some ⟨L.br i, L.ro i, none⟩) (T + 1) (L.rc i))) L L) := HK2
  have HG : Hid ((W0.setCell ⟨L.bt, i * 2, none⟩ (.slice (some ⟨L.br i, L.ro i, none⟩) (T + 1) (L.rc i))).cell? ⟨G, 0, none⟩ = some (.int .i64 ea) ∧ (W0.setCell ⟨L.bt, i * 2, none⟩ (.slice (some ⟨L.br i, L.ro i, none⟩) (T + 1) (L.rc i))).cell? ⟨G, 1, none⟩ = some (.int .i64 la) ∧ (W0.setCell ⟨L.bt, i * 2, none⟩ (.slice (some ⟨L.br i, L.ro i, none⟩) (T + 1) (L.rc i))).cell? ⟨G, 2, none⟩ = some (.int .i64 ra)) := ⟨g0, g1, g2⟩
  have HRR : Hid (RowAt (W0.setCell ⟨L.bt, i * 2, none⟩ (.slice (some ⟨L.br i, L.ro i, none⟩) (T + 1) (L.rc i))) (L.br i) (L.ro i + T * 4) ⟨nx, ea, la, ra⟩) := ⟨r0, r1, r2, r3⟩
  clear HP2 HK2 e0 h1 HU1 g0 g1 g2 r0 r1 r2 r3 c2
  go_upto_region 6 with fail
  have c2 := HPP.out.cr i hi
  rw [Pl.set_at] at c2
  simp only [HT.out] at c2
  have l1 := HPP.out.lt
  have l2 := HPP.out.lr hi
  obtain ⟨r0, r1, r2, r3⟩ := HRR.out
  obtain ⟨g0, g1, g2⟩ := HG.out
  have l3 := World.block_lt_of_cell? _ _ g0
  simp only at l3
  simp only at r0 r1 r2 r3
  clear d1 z2
  generalize W0.setCell ⟨L.bt, i * 2, none⟩ (.slice (some ⟨L.br i, L.ro i, none⟩) (T + 1) (L.rc i)) = W at *
  go_wp2_with fail
  go_end0
  have HU9 := Up.alloc W (.cells #[.int .i64 nx, .int .i64 ea, .int .i64 la, .int .i64 ra] 67)
  exact ⟨rfl, L, HPP.out.up HU9, HKK.out.up HU9⟩
end Go.Proofs.Ytjklaemhfhakhaa
/- change: the last row dropped, another laid. -/
namespace Go.Proofs.Ytjklaemhfhakhaa
open Go.ChangeShapes Go.WideShapes Go.ChangeAt Go.RowKit

theorem KeptG.pre {n : Nat} {w w1 w2 : World} {L L2 : Ly} (k1 : KeptG n w w1 L L) (k : KeptG n w1 w2 L L2) : KeptG n w w2 L L2 :=
  ⟨k.ok, k.bp, fun b hb => by
    rcases k.own b hb with q | q
    · exact Or.inl q
    · exact Or.inr (Nat.le_trans k1.kp.size q), k1.kp.trans k.kp⟩
set_option maxHeartbeats 8000000 in
theorem t40g {w : World} {L : Ly} {n : Nat} {p p' : Pl} (h : PW w L n p) (hL : L.Ok n) {i : Nat} (hi : i < n) {t0 : List Rw} {y : Rw} (hx : (p.c i).tl = t0 ++ [y]) (hp' : p' = p.set i ⟨(p.c i).hd, t0, (p.c i).done⟩) (hm : t0.length ≤ 1000000) {now : Int} (hy : now < y.nx) (h0 : 0 ≤ (p'.c i).last.nx) (h1 : (p'.c i).last.nx ≤ now) (h2 : now ≤ 1152921504606846976) (he : 1 ≤ (p'.c i).last.e) (he2 : (p'.c i).last.e ≤ 1099511627776) (e l r : Int) (hne : ¬ ((p'.c i).last.e = e ∧ (p'.c i).last.l = l ∧ (p'.c i).last.r = r)) :
    Calls Try.prog 40 #[.pointer (some ⟨L.bt, i * 2, none⟩), .int .i64 now, .agg #[.int .i64 e, .int .i64 l, .int .i64 r]] w (ChR w L n (p'.set i ((p'.c i).more ⟨aft (p'.c i).last.nx (p'.c i).last.e now, e, l, r⟩)) (.tuple #[])) := by
  have H : Hid (PW w L n p) := h
  have HL : Hid (L.Ok n) := hL
  have HX : Hid ((p.c i).tl = t0 ++ [y]) := hx
  have HPE : Hid (p.set i ⟨(p.c i).hd, t0, (p.c i).done⟩ = p') := hp'.symm
  have c1 := h.cr i hi
  have hcap := h.cap i hi
  have hlen : (p.c i).tl.length = t0.length + 1 := by rw [hx]; simp
  have HY := (h.rw' i hi (t0.length + 1) y (by rw [hx]; simp)).nx
  have ht0 : (p'.c i).tl = t0 := by rw [hp', Pl.set_at]
  have HLA : Hid (((p'.c i).hd :: (p'.c i).tl)[(p'.c i).tl.length]? = some (p'.c i).last) := (p'.c i).last_at
  have C52 : ∀ W, Hid (Calls Try.prog 52 #[.agg #[.int .i64 (p'.c i).last.nx, .int .i64 (p'.c i).last.e, .int .i64 (p'.c i).last.l, .int .i64 (p'.c i).last.r], .int .i64 now] W (VU W (.int .i64 (aft (p'.c i).last.nx (p'.c i).last.e now)))) := fun W => t52 _ _ h0 h1 h2 he he2 W
  obtain ⟨T, hT⟩ : ∃ T, t0.length = T := ⟨_, rfl⟩
  have HT : Hid ((p'.c i).tl.length = T) := by rw [ht0]; exact hT
  have HT0 : Hid (t0.length = T) := hT
  generalize haft : aft (p'.c i).last.nx (p'.c i).last.e now = A at *
  obtain ⟨x, hx'⟩ : ∃ x, (p'.c i).last = x := ⟨_, rfl⟩
  rw [hx'] at HLA hne C52
  rw [HT.out] at HLA
  obtain ⟨nx, ea, la, ra⟩ := x
  rw [hlen, hT] at c1 hcap
  rw [hT] at HY hm
  simp only at hne C52
  have l1 := h.lt
  have l2 := h.lr hi
  have z1 := h.ft (i * 2)
  have HBT : Hid (L.bt ≠ L.br i) := fun q => hL.rt i hi q.symm
  clear h hL hx hlen hT h0 h1 h2 he he2 haft hx' hp' ht0
  generalize hyn : y.nx = yn at *
  have q1 : (((T + 1 + 1 : Nat) : Int)) - 1 = ((T + 1 : Nat) : Int) := by omega
  have q2 : IntKind.i64.wrap ((T + 1 : Nat) : Int) = ((T + 1 : Nat) : Int) := by rw [IntKind.wrap_i64]; omega
  have q3 : ((T + 1 : Nat) : Int) < ((T + 1 + 1 : Nat) : Int) := by omega
  have q4 : (0 : Int) ≤ ((T + 1 : Nat) : Int) := by omega
  have q5 : ¬ ((T + 1 : Nat) : Int) = 0 := by omega
  have q6 : ((T + 1 : Nat) : Int) - 1 = (T : Int) := by omega
  have q7 : IntKind.i64.wrap (T : Int) = (T : Int) := by rw [IntKind.wrap_i64]; omega
  have q8 : (0 : Int) ≤ (T : Int) := by omega
  have q9 : (T : Int) < ((T + 1 : Nat) : Int) := by omega
  have q10 : ((T + 1 : Nat) : Int) ≤ (L.rc i : Int) := by omega
  by_cases a1 : ea = e
  · obtain rfl : e = ea := a1.symm
    by_cases a2 : la = l
    · obtain rfl : l = la := a2.symm
      have a3 : ¬ ra = r := fun q => hne ⟨rfl, rfl, q⟩
      clear hne a1 a2
      go_enter Try.func40, Try.ntmps40
      go_upto_region 5 with fail
      have HU1 : Hid (Up w (w.alloc (.cells #[.int .i64 e, .int .i64 l, .int .i64 r] 26))) := Up.alloc _ _
      have e0 := heap_alloc_last w (.cells #[.int .i64 e, .int .i64 l, .int .i64 r] 26)
      have HGB : Hid (w.heap.size ≠ L.bt) := by intro q; omega
      have d1 := cell_up c1 HU1.out
      have z2 := frozen_up c1 z1 HU1.out
      clear c1 z1 HY l1
      generalize w.alloc (.cells #[.int .i64 e, .int .i64 l, .int .i64 r] 26) = W0 at *
      generalize hG : w.heap.size = G at *
      clear hG
      have HP2 := (H.out.up HU1.out).pop HL.out hi HX.out
      have HK2 := KeptG.after HU1.out (pop_kept (w := W0) HL.out i (.slice (some ⟨L.br i, L.ro i, none⟩) (t0.length + 1) (L.rc i)))
      have g0 := cell_other (a' := ⟨L.bt, i * 2, none⟩) (y := .slice (some ⟨L.br i, L.ro i, none⟩) (t0.length + 1) (L.rc i)) (row_cell e0 0).1 (Or.inl HGB.out)
      have g1 := cell_other (a' := ⟨L.bt, i * 2, none⟩) (y := .slice (some ⟨L.br i, L.ro i, none⟩) (t0.length + 1) (L.rc i)) (row_cell e0 1).1 (Or.inl HGB.out)
      have g2 := cell_other (a' := ⟨L.bt, i * 2, none⟩) (y := .slice (some ⟨L.br i, L.ro i, none⟩) (t0.length + 1) (L.rc i)) (row_cell e0 2).1 (Or.inl HGB.out)
      rw [HT0.out] at HP2 HK2 g0 g1 g2
      rw [HPE.out] at HP2
      have HPP : Hid (PW (W0.setCell ⟨L.bt, i * 2, none⟩ (.slice (some ⟨L.br i, L.ro i, none⟩) (T + 1) (L.rc i))) L n p') := HP2
      have HKK : Hid (KeptG n w (W0.setCell ⟨L.bt, i * 2, none⟩ (.slice (some ⟨L.br i, L.ro i, none⟩) (T + 1) (L.rc i))) L L) := HK2
      have HG : Hid ((W0.setCell ⟨L.bt, i * 2, none⟩ (.slice (some ⟨L.br i, L.ro i, none⟩) (T + 1) (L.rc i))).cell? ⟨G, 0, none⟩ = some (.int .i64 e) ∧ (W0.setCell ⟨L.bt, i * 2, none⟩ (.slice (some ⟨L.br i, L.ro i, none⟩) (T + 1) (L.rc i))).cell? ⟨G, 1, none⟩ = some (.int .i64 l) ∧ (W0.setCell ⟨L.bt, i * 2, none⟩ (.slice (some ⟨L.br i, L.ro i, none⟩) (T + 1) (L.rc i))).cell? ⟨G, 2, none⟩ = some (.int .i64 r)) := ⟨g0, g1, g2⟩
      clear HP2 HK2 e0 hy HU1 g0 g1 g2
      go_upto_region 6 with fail
      have c2 := HPP.out.cr i hi
      rw [HT.out] at c2
      have K2 : Hid _ := c2
      have l1 := HPP.out.lt
      have l3 := HPP.out.lr hi
      obtain ⟨r0, r1, r2, r3⟩ := HPP.out.rw' i hi T ⟨nx, e, l, ra⟩ HLA.out
      obtain ⟨g0, g1, g2⟩ := HG.out
      have l4 := World.block_lt_of_cell? _ _ g0
      simp only at r0 r1 r2 r3 l4
      clear d1 z2 HX HPE hyn
      generalize (W0.setCell ⟨L.bt, i * 2, none⟩ (.slice (some ⟨L.br i, L.ro i, none⟩) (T + 1) (L.rc i))) = W at *
      go_wp2_with fail
      have HU9 : Hid (Up W (W.alloc (.cells #[.int .i64 nx, .int .i64 e, .int .i64 l, .int .i64 ra] 67))) := Up.alloc _ _
      have HT9 : Hid (TkAt (W.alloc (.cells #[.int .i64 nx, .int .i64 e, .int .i64 l, .int .i64 ra] 67)) G 0 ⟨e, l, r⟩) := (show TkAt W G 0 ⟨e, l, r⟩ from ⟨g0, by rw [Nat.zero_add]; exact g1, by rw [Nat.zero_add]; exact g2⟩).up HU9.out
      have HR9 : Hid (RowAt (W.alloc (.cells #[.int .i64 nx, .int .i64 e, .int .i64 l, .int .i64 ra] 67)) W.heap.size 0 ⟨nx, e, l, ra⟩) := by
        have z := heap_alloc_last W (.cells #[.int .i64 nx, .int .i64 e, .int .i64 l, .int .i64 ra] 67)
        exact ⟨(row_cell z 0).1, (row_cell z 1).1, (row_cell z 2).1, (row_cell z 3).1⟩
      have HP9 : Hid (PW _ L n p') := HPP.out.up HU9.out
      have k1 := cell_up K2.out HU9.out
      have K1 : Hid _ := k1
      clear k1 c2 r0 r1 r2 r3 g0 g1 g2 HPP
      generalize hW9 : W.alloc (.cells #[.int .i64 nx, .int .i64 e, .int .i64 l, .int .i64 ra] 67) = W9 at *
      clear hW9
      generalize hG1 : W.heap.size = G1 at *
      clear hG1
      refine wp_region_shut 12 [(0, none), (1, none), (2, none), (3, none), (4, some false), (5, some false), (6, none), (8, some false), (7, some true), (9, none), (10, some true), (11, some true)] (fun v => RowAt v G1 0 ⟨nx, e, l, ra⟩ ∧ TkAt v G 0 ⟨e, l, r⟩ ∧ v.cell? ⟨L.bt, i * 2, none⟩ = some (.slice (some ⟨L.br i, L.ro i, none⟩) (T + 1) (L.rc i))) (by kernel_rfl) (by decide) rfl (by kernel_rfl) (fun _ _ d _ _ h => by cases d <;> exact h) ⟨HR9.out.up (Up.drew _), HT9.out.up (Up.drew _), cell_up K1.out (Up.drew _)⟩ ?_
      refine OrdS.looks (.pointer (some ⟨L.bt, i * 2, none⟩)) (some 55) _ rfl rfl (Or.inl ⟨by kernel_rfl, fun w' hS => ?_⟩) ?_
      · go_simp
      refine OrdS.looks (.pointer (some ⟨L.bt, i * 2, none⟩)) (some 56) _ rfl rfl (Or.inl ⟨by kernel_rfl, fun w' hS => ?_⟩) ?_
      · go_simp
      refine OrdS.looks (.pointer (some ⟨L.bt, i * 2, none⟩)) (some 57) _ rfl rfl (Or.inl ⟨by kernel_rfl, fun w' hS => ?_⟩) ?_
      · go_simp
      refine OrdS.looks (.pointer (some ⟨L.bt, i * 2, none⟩)) (some 58) _ rfl rfl (Or.inl ⟨by kernel_rfl, fun w' hS => ?_⟩) ?_
      · go_simp
      refine OrdS.reads (.slice (some ⟨L.br i, L.ro i, none⟩) (T + 1) (L.rc i)) (some 59) _ rfl rfl (Or.inl ⟨by kernel_rfl, fun w' hS => ?_⟩) ?_
      · obtain ⟨-, -, z⟩ := hS
        go_simp
      refine OrdS.reads (.agg #[.int .i64 nx, .int .i64 e, .int .i64 l, .int .i64 ra]) (some 60) _ rfl rfl (Or.inl ⟨by kernel_rfl, fun w' hS => ?_⟩) ?_
      · obtain ⟨⟨z0, z1, z2, z3⟩, -, -⟩ := hS
        simp only [Nat.zero_add] at z0 z1 z2 z3
        go_simp
      refine OrdS.looks (.int .i64 now) (some 61) _ rfl rfl (Or.inl ⟨by kernel_rfl, fun w' hS => ?_⟩) ?_
      · go_simp
      refine OrdS.reads (.agg #[.int .i64 e, .int .i64 l, .int .i64 r]) (some 63) _ rfl rfl (Or.inl ⟨by kernel_rfl, fun w' hS => ?_⟩) ?_
      · obtain ⟨-, ⟨z0, z1, z2⟩, -⟩ := hS
        simp only [Nat.zero_add] at z0 z1 z2
        go_simp
      simp only [Act.put, List.setIfInBounds_toArray, List.set_cons_succ, List.set_cons_zero]
      refine OrdS.does ?_
      refine wpOp_callG (f := 52) (some 62) rfl rfl (by kernel_rfl) rfl #[.agg #[.int .i64 nx, .int .i64 e, .int .i64 l, .int .i64 ra], .int .i64 now] (by kernel_rfl) (enters Try.func52 (by kernel_rfl) (by kernel_rfl) _ _) ?_
      refine (C52 _).out.mono ?_
      rintro q w3 ⟨rfl, HU3⟩
      have HV3 : Hid (Up W9 w3) := (Up.drew _).trans HU3.out
      clear HU3
      refine ⟨_, rfl, ⟨HR9.out.up HV3.out, HT9.out.up HV3.out, cell_up K1.out HV3.out⟩, ?_⟩
      simp only [Act.put, List.setIfInBounds_toArray, List.set_cons_succ, List.set_cons_zero]
      refine OrdS.looks (.agg #[.int .i64 A, .int .i64 e, .int .i64 l, .int .i64 r]) (some 64) _ rfl rfl (Or.inl ⟨by kernel_rfl, fun w' hS => ?_⟩) ?_
      · go_simp
      simp only [Act.put, List.setIfInBounds_toArray, List.set_cons_succ, List.set_cons_zero]
      refine OrdS.does ?_
      refine wpOp_one (v := .slice (some ⟨w3.heap.size, 0, none⟩) 1 1) (w' := w3.alloc (.cells #[.int .i64 A, .int .i64 e, .int .i64 l, .int .i64 r] 67)) (some 65) rfl rfl rfl (by go_simp) ?_
      have hz : RowAt (w3.alloc (.cells #[.int .i64 A, .int .i64 e, .int .i64 l, .int .i64 r] 67)) w3.heap.size 0 ⟨A, e, l, r⟩ := by
        have z := heap_alloc_last w3 (.cells #[.int .i64 A, .int .i64 e, .int .i64 l, .int .i64 r] 67)
        exact ⟨(row_cell z 0).1, (row_cell z 1).1, (row_cell z 2).1, (row_cell z 3).1⟩
      have HVV : Hid (Up W9 (w3.alloc (.cells #[.int .i64 A, .int .i64 e, .int .i64 l, .int .i64 r] 67))) := HV3.out.trans (Up.alloc _ _)
      clear HV3
      generalize w3.alloc (.cells #[.int .i64 A, .int .i64 e, .int .i64 l, .int .i64 r] 67) = V at *
      generalize w3.heap.size = GB at *
      clear w3
      have HPV : Hid (PW V L n p') := HP9.out.up HVV.out
      refine ⟨⟨HR9.out.up HVV.out, HT9.out.up HVV.out, cell_up K1.out HVV.out⟩, ?_⟩
      simp only [Act.put, List.setIfInBounds_toArray, List.set_cons_succ, List.set_cons_zero]
      refine OrdS.does ?_
      refine wpOp_row (some 66) rfl rfl rfl _ _ rfl (D := (p'.c i).hd :: (p'.c i).tl) (z := ⟨A, e, l, r⟩) (b := GB) rfl rfl (by rw [List.length_cons, HT.out]) (HPV.out.rw' i hi) hz (HPV.out.sp i hi) (HPV.out.fr i hi) (HPV.out.lr hi) (by omega) ?_
      intro g' o' c' w5 HA
      have h5 : ∀ {a : Addr} {x : Value}, a.block ≠ L.br i → W9.cell? a = some x → w5.cell? a = some x := fun hb hc => HA.out.kp.cell hb (cell_up hc HVV.out)
      have n1 : G ≠ L.br i := by omega
      have n2 : G1 ≠ L.br i := by omega
      have y1 : w5.cell? ⟨L.bt, i * 2, none⟩ = some (.slice (some ⟨L.br i, L.ro i, none⟩) (T + 1) (L.rc i)) := h5 HBT.out K1.out
      have y2 : w5.frozen? ⟨L.bt, i * 2, none⟩ = false := HA.out.kp.frozen (a := ⟨L.bt, i * 2, none⟩) HBT.out HPV.out.lt (HPV.out.ft _)
      have y3 : L.bt < w5.heap.size := Nat.lt_of_lt_of_le HPV.out.lt HA.out.kp.size
      refine ⟨⟨⟨h5 n2 HR9.out.nx, h5 n2 HR9.out.e, h5 n2 HR9.out.l, h5 n2 HR9.out.r⟩, ⟨h5 n1 HT9.out.c0, h5 n1 HT9.out.c1, h5 n1 HT9.out.c2⟩, y1⟩, ?_⟩
      obtain ⟨m1, m2⟩ := HPV.out.more HL.out hi HA.out
      rw [HT.out] at m1 m2
      have M1 : Hid _ := m1
      have M2 : Hid _ := m2
      clear m1 m2 h5
      simp only [Act.put, List.setIfInBounds_toArray, List.set_cons_succ, List.set_cons_zero]
      refine OrdS.ends ?_
      simp only [List.drop_succ_cons, List.drop_zero]
      go_wp2_with fail
      go_end0
      exact ⟨rfl, _, M1, HKK.out.pre (KeptG.after (HU9.out.trans HVV.out) M2.out)⟩
    · clear hne a1
      go_enter Try.func40, Try.ntmps40
      go_upto_region 5 with fail
      have HU1 : Hid (Up w (w.alloc (.cells #[.int .i64 e, .int .i64 l, .int .i64 r] 26))) := Up.alloc _ _
      have e0 := heap_alloc_last w (.cells #[.int .i64 e, .int .i64 l, .int .i64 r] 26)
      have HGB : Hid (w.heap.size ≠ L.bt) := by intro q; omega
      have d1 := cell_up c1 HU1.out
      have z2 := frozen_up c1 z1 HU1.out
      clear c1 z1 HY l1
      generalize w.alloc (.cells #[.int .i64 e, .int .i64 l, .int .i64 r] 26) = W0 at *
      generalize hG : w.heap.size = G at *
      clear hG
      have HP2 := (H.out.up HU1.out).pop HL.out hi HX.out
      have HK2 := KeptG.after HU1.out (pop_kept (w := W0) HL.out i (.slice (some ⟨L.br i, L.ro i, none⟩) (t0.length + 1) (L.rc i)))
      have g0 := cell_other (a' := ⟨L.bt, i * 2, none⟩) (y := .slice (some ⟨L.br i, L.ro i, none⟩) (t0.length + 1) (L.rc i)) (row_cell e0 0).1 (Or.inl HGB.out)
      have g1 := cell_other (a' := ⟨L.bt, i * 2, none⟩) (y := .slice (some ⟨L.br i, L.ro i, none⟩) (t0.length + 1) (L.rc i)) (row_cell e0 1).1 (Or.inl HGB.out)
      have g2 := cell_other (a' := ⟨L.bt, i * 2, none⟩) (y := .slice (some ⟨L.br i, L.ro i, none⟩) (t0.length + 1) (L.rc i)) (row_cell e0 2).1 (Or.inl HGB.out)
      rw [HT0.out] at HP2 HK2 g0 g1 g2
      rw [HPE.out] at HP2
      have HPP : Hid (PW (W0.setCell ⟨L.bt, i * 2, none⟩ (.slice (some ⟨L.br i, L.ro i, none⟩) (T + 1) (L.rc i))) L n p') := HP2
      have HKK : Hid (KeptG n w (W0.setCell ⟨L.bt, i * 2, none⟩ (.slice (some ⟨L.br i, L.ro i, none⟩) (T + 1) (L.rc i))) L L) := HK2
      have HG : Hid ((W0.setCell ⟨L.bt, i * 2, none⟩ (.slice (some ⟨L.br i, L.ro i, none⟩) (T + 1) (L.rc i))).cell? ⟨G, 0, none⟩ = some (.int .i64 e) ∧ (W0.setCell ⟨L.bt, i * 2, none⟩ (.slice (some ⟨L.br i, L.ro i, none⟩) (T + 1) (L.rc i))).cell? ⟨G, 1, none⟩ = some (.int .i64 l) ∧ (W0.setCell ⟨L.bt, i * 2, none⟩ (.slice (some ⟨L.br i, L.ro i, none⟩) (T + 1) (L.rc i))).cell? ⟨G, 2, none⟩ = some (.int .i64 r)) := ⟨g0, g1, g2⟩
      clear HP2 HK2 e0 hy HU1 g0 g1 g2
      go_upto_region 6 with fail
      have c2 := HPP.out.cr i hi
      rw [HT.out] at c2
      have K2 : Hid _ := c2
      have l1 := HPP.out.lt
      have l3 := HPP.out.lr hi
      obtain ⟨r0, r1, r2, r3⟩ := HPP.out.rw' i hi T ⟨nx, e, la, ra⟩ HLA.out
      obtain ⟨g0, g1, g2⟩ := HG.out
      have l4 := World.block_lt_of_cell? _ _ g0
      simp only at r0 r1 r2 r3 l4
      clear d1 z2 HX HPE hyn
      generalize (W0.setCell ⟨L.bt, i * 2, none⟩ (.slice (some ⟨L.br i, L.ro i, none⟩) (T + 1) (L.rc i))) = W at *
      go_wp2_with fail
      have HU9 : Hid (Up W (W.alloc (.cells #[.int .i64 nx, .int .i64 e, .int .i64 la, .int .i64 ra] 67))) := Up.alloc _ _
      have HT9 : Hid (TkAt (W.alloc (.cells #[.int .i64 nx, .int .i64 e, .int .i64 la, .int .i64 ra] 67)) G 0 ⟨e, l, r⟩) := (show TkAt W G 0 ⟨e, l, r⟩ from ⟨g0, by rw [Nat.zero_add]; exact g1, by rw [Nat.zero_add]; exact g2⟩).up HU9.out
      have HR9 : Hid (RowAt (W.alloc (.cells #[.int .i64 nx, .int .i64 e, .int .i64 la, .int .i64 ra] 67)) W.heap.size 0 ⟨nx, e, la, ra⟩) := by
        have z := heap_alloc_last W (.cells #[.int .i64 nx, .int .i64 e, .int .i64 la, .int .i64 ra] 67)
        exact ⟨(row_cell z 0).1, (row_cell z 1).1, (row_cell z 2).1, (row_cell z 3).1⟩
      have HP9 : Hid (PW _ L n p') := HPP.out.up HU9.out
      have k1 := cell_up K2.out HU9.out
      have K1 : Hid _ := k1
      clear k1 c2 r0 r1 r2 r3 g0 g1 g2 HPP
      generalize hW9 : W.alloc (.cells #[.int .i64 nx, .int .i64 e, .int .i64 la, .int .i64 ra] 67) = W9 at *
      clear hW9
      generalize hG1 : W.heap.size = G1 at *
      clear hG1
      refine wp_region_shut 12 [(0, none), (1, none), (2, none), (3, none), (4, some false), (5, some false), (6, none), (8, some false), (7, some true), (9, none), (10, some true), (11, some true)] (fun v => RowAt v G1 0 ⟨nx, e, la, ra⟩ ∧ TkAt v G 0 ⟨e, l, r⟩ ∧ v.cell? ⟨L.bt, i * 2, none⟩ = some (.slice (some ⟨L.br i, L.ro i, none⟩) (T + 1) (L.rc i))) (by kernel_rfl) (by decide) rfl (by kernel_rfl) (fun _ _ d _ _ h => by cases d <;> exact h) ⟨HR9.out.up (Up.drew _), HT9.out.up (Up.drew _), cell_up K1.out (Up.drew _)⟩ ?_
      refine OrdS.looks (.pointer (some ⟨L.bt, i * 2, none⟩)) (some 55) _ rfl rfl (Or.inl ⟨by kernel_rfl, fun w' hS => ?_⟩) ?_
      · go_simp
      refine OrdS.looks (.pointer (some ⟨L.bt, i * 2, none⟩)) (some 56) _ rfl rfl (Or.inl ⟨by kernel_rfl, fun w' hS => ?_⟩) ?_
      · go_simp
      refine OrdS.looks (.pointer (some ⟨L.bt, i * 2, none⟩)) (some 57) _ rfl rfl (Or.inl ⟨by kernel_rfl, fun w' hS => ?_⟩) ?_
      · go_simp
      refine OrdS.looks (.pointer (some ⟨L.bt, i * 2, none⟩)) (some 58) _ rfl rfl (Or.inl ⟨by kernel_rfl, fun w' hS => ?_⟩) ?_
      · go_simp
      refine OrdS.reads (.slice (some ⟨L.br i, L.ro i, none⟩) (T + 1) (L.rc i)) (some 59) _ rfl rfl (Or.inl ⟨by kernel_rfl, fun w' hS => ?_⟩) ?_
      · obtain ⟨-, -, z⟩ := hS
        go_simp
      refine OrdS.reads (.agg #[.int .i64 nx, .int .i64 e, .int .i64 la, .int .i64 ra]) (some 60) _ rfl rfl (Or.inl ⟨by kernel_rfl, fun w' hS => ?_⟩) ?_
      · obtain ⟨⟨z0, z1, z2, z3⟩, -, -⟩ := hS
        simp only [Nat.zero_add] at z0 z1 z2 z3
        go_simp
      refine OrdS.looks (.int .i64 now) (some 61) _ rfl rfl (Or.inl ⟨by kernel_rfl, fun w' hS => ?_⟩) ?_
      · go_simp
      refine OrdS.reads (.agg #[.int .i64 e, .int .i64 l, .int .i64 r]) (some 63) _ rfl rfl (Or.inl ⟨by kernel_rfl, fun w' hS => ?_⟩) ?_
      · obtain ⟨-, ⟨z0, z1, z2⟩, -⟩ := hS
        simp only [Nat.zero_add] at z0 z1 z2
        go_simp
      simp only [Act.put, List.setIfInBounds_toArray, List.set_cons_succ, List.set_cons_zero]
      refine OrdS.does ?_
      refine wpOp_callG (f := 52) (some 62) rfl rfl (by kernel_rfl) rfl #[.agg #[.int .i64 nx, .int .i64 e, .int .i64 la, .int .i64 ra], .int .i64 now] (by kernel_rfl) (enters Try.func52 (by kernel_rfl) (by kernel_rfl) _ _) ?_
      refine (C52 _).out.mono ?_
      rintro q w3 ⟨rfl, HU3⟩
      have HV3 : Hid (Up W9 w3) := (Up.drew _).trans HU3.out
      clear HU3
      refine ⟨_, rfl, ⟨HR9.out.up HV3.out, HT9.out.up HV3.out, cell_up K1.out HV3.out⟩, ?_⟩
      simp only [Act.put, List.setIfInBounds_toArray, List.set_cons_succ, List.set_cons_zero]
      refine OrdS.looks (.agg #[.int .i64 A, .int .i64 e, .int .i64 l, .int .i64 r]) (some 64) _ rfl rfl (Or.inl ⟨by kernel_rfl, fun w' hS => ?_⟩) ?_
      · go_simp
      simp only [Act.put, List.setIfInBounds_toArray, List.set_cons_succ, List.set_cons_zero]
      refine OrdS.does ?_
      refine wpOp_one (v := .slice (some ⟨w3.heap.size, 0, none⟩) 1 1) (w' := w3.alloc (.cells #[.int .i64 A, .int .i64 e, .int .i64 l, .int .i64 r] 67)) (some 65) rfl rfl rfl (by go_simp) ?_
      have hz : RowAt (w3.alloc (.cells #[.int .i64 A, .int .i64 e, .int .i64 l, .int .i64 r] 67)) w3.heap.size 0 ⟨A, e, l, r⟩ := by
        have z := heap_alloc_last w3 (.cells #[.int .i64 A, .int .i64 e, .int .i64 l, .int .i64 r] 67)
        exact ⟨(row_cell z 0).1, (row_cell z 1).1, (row_cell z 2).1, (row_cell z 3).1⟩
      have HVV : Hid (Up W9 (w3.alloc (.cells #[.int .i64 A, .int .i64 e, .int .i64 l, .int .i64 r] 67))) := HV3.out.trans (Up.alloc _ _)
      clear HV3
      generalize w3.alloc (.cells #[.int .i64 A, .int .i64 e, .int .i64 l, .int .i64 r] 67) = V at *
      generalize w3.heap.size = GB at *
      clear w3
      have HPV : Hid (PW V L n p') := HP9.out.up HVV.out
      refine ⟨⟨HR9.out.up HVV.out, HT9.out.up HVV.out, cell_up K1.out HVV.out⟩, ?_⟩
      simp only [Act.put, List.setIfInBounds_toArray, List.set_cons_succ, List.set_cons_zero]
      refine OrdS.does ?_
      refine wpOp_row (some 66) rfl rfl rfl _ _ rfl (D := (p'.c i).hd :: (p'.c i).tl) (z := ⟨A, e, l, r⟩) (b := GB) rfl rfl (by rw [List.length_cons, HT.out]) (HPV.out.rw' i hi) hz (HPV.out.sp i hi) (HPV.out.fr i hi) (HPV.out.lr hi) (by omega) ?_
      intro g' o' c' w5 HA
      have h5 : ∀ {a : Addr} {x : Value}, a.block ≠ L.br i → W9.cell? a = some x → w5.cell? a = some x := fun hb hc => HA.out.kp.cell hb (cell_up hc HVV.out)
      have n1 : G ≠ L.br i := by omega
      have n2 : G1 ≠ L.br i := by omega
      have y1 : w5.cell? ⟨L.bt, i * 2, none⟩ = some (.slice (some ⟨L.br i, L.ro i, none⟩) (T + 1) (L.rc i)) := h5 HBT.out K1.out
      have y2 : w5.frozen? ⟨L.bt, i * 2, none⟩ = false := HA.out.kp.frozen (a := ⟨L.bt, i * 2, none⟩) HBT.out HPV.out.lt (HPV.out.ft _)
      have y3 : L.bt < w5.heap.size := Nat.lt_of_lt_of_le HPV.out.lt HA.out.kp.size
      refine ⟨⟨⟨h5 n2 HR9.out.nx, h5 n2 HR9.out.e, h5 n2 HR9.out.l, h5 n2 HR9.out.r⟩, ⟨h5 n1 HT9.out.c0, h5 n1 HT9.out.c1, h5 n1 HT9.out.c2⟩, y1⟩, ?_⟩
      obtain ⟨m1, m2⟩ := HPV.out.more HL.out hi HA.out
      rw [HT.out] at m1 m2
      have M1 : Hid _ := m1
      have M2 : Hid _ := m2
      clear m1 m2 h5
      simp only [Act.put, List.setIfInBounds_toArray, List.set_cons_succ, List.set_cons_zero]
      refine OrdS.ends ?_
      simp only [List.drop_succ_cons, List.drop_zero]
      go_wp2_with fail
      go_end0
      exact ⟨rfl, _, M1, HKK.out.pre (KeptG.after (HU9.out.trans HVV.out) M2.out)⟩
  · clear hne
    go_enter Try.func40, Try.ntmps40
    go_upto_region 5 with fail
    have HU1 : Hid (Up w (w.alloc (.cells #[.int .i64 e, .int .i64 l, .int .i64 r] 26))) := Up.alloc _ _
    have e0 := heap_alloc_last w (.cells #[.int .i64 e, .int .i64 l, .int .i64 r] 26)
    have HGB : Hid (w.heap.size ≠ L.bt) := by intro q; omega
    have d1 := cell_up c1 HU1.out
    have z2 := frozen_up c1 z1 HU1.out
    clear c1 z1 HY l1
    generalize w.alloc (.cells #[.int .i64 e, .int .i64 l, .int .i64 r] 26) = W0 at *
    generalize hG : w.heap.size = G at *
    clear hG
    have HP2 := (H.out.up HU1.out).pop HL.out hi HX.out
    have HK2 := KeptG.after HU1.out (pop_kept (w := W0) HL.out i (.slice (some ⟨L.br i, L.ro i, none⟩) (t0.length + 1) (L.rc i)))
    have g0 := cell_other (a' := ⟨L.bt, i * 2, none⟩) (y := .slice (some ⟨L.br i, L.ro i, none⟩) (t0.length + 1) (L.rc i)) (row_cell e0 0).1 (Or.inl HGB.out)
    have g1 := cell_other (a' := ⟨L.bt, i * 2, none⟩) (y := .slice (some ⟨L.br i, L.ro i, none⟩) (t0.length + 1) (L.rc i)) (row_cell e0 1).1 (Or.inl HGB.out)
    have g2 := cell_other (a' := ⟨L.bt, i * 2, none⟩) (y := .slice (some ⟨L.br i, L.ro i, none⟩) (t0.length + 1) (L.rc i)) (row_cell e0 2).1 (Or.inl HGB.out)
    rw [HT0.out] at HP2 HK2 g0 g1 g2
    rw [HPE.out] at HP2
    have HPP : Hid (PW (W0.setCell ⟨L.bt, i * 2, none⟩ (.slice (some ⟨L.br i, L.ro i, none⟩) (T + 1) (L.rc i))) L n p') := HP2
    have HKK : Hid (KeptG n w (W0.setCell ⟨L.bt, i * 2, none⟩ (.slice (some ⟨L.br i, L.ro i, none⟩) (T + 1) (L.rc i))) L L) := HK2
    have HG : Hid ((W0.setCell ⟨L.bt, i * 2, none⟩ (.slice (some ⟨L.br i, L.ro i, none⟩) (T + 1) (L.rc i))).cell? ⟨G, 0, none⟩ = some (.int .i64 e) ∧ (W0.setCell ⟨L.bt, i * 2, none⟩ (.slice (some ⟨L.br i, L.ro i, none⟩) (T + 1) (L.rc i))).cell? ⟨G, 1, none⟩ = some (.int .i64 l) ∧ (W0.setCell ⟨L.bt, i * 2, none⟩ (.slice (some ⟨L.br i, L.ro i, none⟩) (T + 1) (L.rc i))).cell? ⟨G, 2, none⟩ = some (.int .i64 r)) := ⟨g0, g1, g2⟩
    clear HP2 HK2 e0 hy HU1 g0 g1 g2
    go_upto_region 6 with fail
    have c2 := HPP.out.cr i hi
    rw [HT.out] at c2
    have K2 : Hid _ := c2
    have l1 := HPP.out.lt
    have l3 := HPP.out.lr hi
    obtain ⟨r0, r1, r2, r3⟩ := HPP.out.rw' i hi T ⟨nx, ea, la, ra⟩ HLA.out
    obtain ⟨g0, g1, g2⟩ := HG.out
    have l4 := World.block_lt_of_cell? _ _ g0
    simp only at r0 r1 r2 r3 l4
    clear d1 z2 HX HPE hyn
    generalize (W0.setCell ⟨L.bt, i * 2, none⟩ (.slice (some ⟨L.br i, L.ro i, none⟩) (T + 1) (L.rc i))) = W at *
    go_wp2_with fail
    have HU9 : Hid (Up W (W.alloc (.cells #[.int .i64 nx, .int .i64 ea, .int .i64 la, .int .i64 ra] 67))) := Up.alloc _ _
    have HT9 : Hid (TkAt (W.alloc (.cells #[.int .i64 nx, .int .i64 ea, .int .i64 la, .int .i64 ra] 67)) G 0 ⟨e, l, r⟩) := (show TkAt W G 0 ⟨e, l, r⟩ from ⟨g0, by rw [Nat.zero_add]; exact g1, by rw [Nat.zero_add]; exact g2⟩).up HU9.out
    have HR9 : Hid (RowAt (W.alloc (.cells #[.int .i64 nx, .int .i64 ea, .int .i64 la, .int .i64 ra] 67)) W.heap.size 0 ⟨nx, ea, la, ra⟩) := by
      have z := heap_alloc_last W (.cells #[.int .i64 nx, .int .i64 ea, .int .i64 la, .int .i64 ra] 67)
      exact ⟨(row_cell z 0).1, (row_cell z 1).1, (row_cell z 2).1, (row_cell z 3).1⟩
    have HP9 : Hid (PW _ L n p') := HPP.out.up HU9.out
    have k1 := cell_up K2.out HU9.out
    have K1 : Hid _ := k1
    clear k1 c2 r0 r1 r2 r3 g0 g1 g2 HPP
    generalize hW9 : W.alloc (.cells #[.int .i64 nx, .int .i64 ea, .int .i64 la, .int .i64 ra] 67) = W9 at *
    clear hW9
    generalize hG1 : W.heap.size = G1 at *
    clear hG1
    refine wp_region_shut 12 [(0, none), (1, none), (2, none), (3, none), (4, some false), (5, some false), (6, none), (8, some false), (7, some true), (9, none), (10, some true), (11, some true)] (fun v => RowAt v G1 0 ⟨nx, ea, la, ra⟩ ∧ TkAt v G 0 ⟨e, l, r⟩ ∧ v.cell? ⟨L.bt, i * 2, none⟩ = some (.slice (some ⟨L.br i, L.ro i, none⟩) (T + 1) (L.rc i))) (by kernel_rfl) (by decide) rfl (by kernel_rfl) (fun _ _ d _ _ h => by cases d <;> exact h) ⟨HR9.out.up (Up.drew _), HT9.out.up (Up.drew _), cell_up K1.out (Up.drew _)⟩ ?_
    refine OrdS.looks (.pointer (some ⟨L.bt, i * 2, none⟩)) (some 55) _ rfl rfl (Or.inl ⟨by kernel_rfl, fun w' hS => ?_⟩) ?_
    · go_simp
    refine OrdS.looks (.pointer (some ⟨L.bt, i * 2, none⟩)) (some 56) _ rfl rfl (Or.inl ⟨by kernel_rfl, fun w' hS => ?_⟩) ?_
    · go_simp
    refine OrdS.looks (.pointer (some ⟨L.bt, i * 2, none⟩)) (some 57) _ rfl rfl (Or.inl ⟨by kernel_rfl, fun w' hS => ?_⟩) ?_
    · go_simp
    refine OrdS.looks (.pointer (some ⟨L.bt, i * 2, none⟩)) (some 58) _ rfl rfl (Or.inl ⟨by kernel_rfl, fun w' hS => ?_⟩) ?_
    · go_simp
    refine OrdS.reads (.slice (some ⟨L.br i, L.ro i, none⟩) (T + 1) (L.rc i)) (some 59) _ rfl rfl (Or.inl ⟨by kernel_rfl, fun w' hS => ?_⟩) ?_
    · obtain ⟨-, -, z⟩ := hS
      go_simp
    refine OrdS.reads (.agg #[.int .i64 nx, .int .i64 ea, .int .i64 la, .int .i64 ra]) (some 60) _ rfl rfl (Or.inl ⟨by kernel_rfl, fun w' hS => ?_⟩) ?_
    · obtain ⟨⟨z0, z1, z2, z3⟩, -, -⟩ := hS
      simp only [Nat.zero_add] at z0 z1 z2 z3
      go_simp
    refine OrdS.looks (.int .i64 now) (some 61) _ rfl rfl (Or.inl ⟨by kernel_rfl, fun w' hS => ?_⟩) ?_
    · go_simp
    refine OrdS.reads (.agg #[.int .i64 e, .int .i64 l, .int .i64 r]) (some 63) _ rfl rfl (Or.inl ⟨by kernel_rfl, fun w' hS => ?_⟩) ?_
    · obtain ⟨-, ⟨z0, z1, z2⟩, -⟩ := hS
      simp only [Nat.zero_add] at z0 z1 z2
      go_simp
    simp only [Act.put, List.setIfInBounds_toArray, List.set_cons_succ, List.set_cons_zero]
    refine OrdS.does ?_
    refine wpOp_callG (f := 52) (some 62) rfl rfl (by kernel_rfl) rfl #[.agg #[.int .i64 nx, .int .i64 ea, .int .i64 la, .int .i64 ra], .int .i64 now] (by kernel_rfl) (enters Try.func52 (by kernel_rfl) (by kernel_rfl) _ _) ?_
    refine (C52 _).out.mono ?_
    rintro q w3 ⟨rfl, HU3⟩
    have HV3 : Hid (Up W9 w3) := (Up.drew _).trans HU3.out
    clear HU3
    refine ⟨_, rfl, ⟨HR9.out.up HV3.out, HT9.out.up HV3.out, cell_up K1.out HV3.out⟩, ?_⟩
    simp only [Act.put, List.setIfInBounds_toArray, List.set_cons_succ, List.set_cons_zero]
    refine OrdS.looks (.agg #[.int .i64 A, .int .i64 e, .int .i64 l, .int .i64 r]) (some 64) _ rfl rfl (Or.inl ⟨by kernel_rfl, fun w' hS => ?_⟩) ?_
    · go_simp
    simp only [Act.put, List.setIfInBounds_toArray, List.set_cons_succ, List.set_cons_zero]
    refine OrdS.does ?_
    refine wpOp_one (v := .slice (some ⟨w3.heap.size, 0, none⟩) 1 1) (w' := w3.alloc (.cells #[.int .i64 A, .int .i64 e, .int .i64 l, .int .i64 r] 67)) (some 65) rfl rfl rfl (by go_simp) ?_
    have hz : RowAt (w3.alloc (.cells #[.int .i64 A, .int .i64 e, .int .i64 l, .int .i64 r] 67)) w3.heap.size 0 ⟨A, e, l, r⟩ := by
      have z := heap_alloc_last w3 (.cells #[.int .i64 A, .int .i64 e, .int .i64 l, .int .i64 r] 67)
      exact ⟨(row_cell z 0).1, (row_cell z 1).1, (row_cell z 2).1, (row_cell z 3).1⟩
    have HVV : Hid (Up W9 (w3.alloc (.cells #[.int .i64 A, .int .i64 e, .int .i64 l, .int .i64 r] 67))) := HV3.out.trans (Up.alloc _ _)
    clear HV3
    generalize w3.alloc (.cells #[.int .i64 A, .int .i64 e, .int .i64 l, .int .i64 r] 67) = V at *
    generalize w3.heap.size = GB at *
    clear w3
    have HPV : Hid (PW V L n p') := HP9.out.up HVV.out
    refine ⟨⟨HR9.out.up HVV.out, HT9.out.up HVV.out, cell_up K1.out HVV.out⟩, ?_⟩
    simp only [Act.put, List.setIfInBounds_toArray, List.set_cons_succ, List.set_cons_zero]
    refine OrdS.does ?_
    refine wpOp_row (some 66) rfl rfl rfl _ _ rfl (D := (p'.c i).hd :: (p'.c i).tl) (z := ⟨A, e, l, r⟩) (b := GB) rfl rfl (by rw [List.length_cons, HT.out]) (HPV.out.rw' i hi) hz (HPV.out.sp i hi) (HPV.out.fr i hi) (HPV.out.lr hi) (by omega) ?_
    intro g' o' c' w5 HA
    have h5 : ∀ {a : Addr} {x : Value}, a.block ≠ L.br i → W9.cell? a = some x → w5.cell? a = some x := fun hb hc => HA.out.kp.cell hb (cell_up hc HVV.out)
    have n1 : G ≠ L.br i := by omega
    have n2 : G1 ≠ L.br i := by omega
    have y1 : w5.cell? ⟨L.bt, i * 2, none⟩ = some (.slice (some ⟨L.br i, L.ro i, none⟩) (T + 1) (L.rc i)) := h5 HBT.out K1.out
    have y2 : w5.frozen? ⟨L.bt, i * 2, none⟩ = false := HA.out.kp.frozen (a := ⟨L.bt, i * 2, none⟩) HBT.out HPV.out.lt (HPV.out.ft _)
    have y3 : L.bt < w5.heap.size := Nat.lt_of_lt_of_le HPV.out.lt HA.out.kp.size
    refine ⟨⟨⟨h5 n2 HR9.out.nx, h5 n2 HR9.out.e, h5 n2 HR9.out.l, h5 n2 HR9.out.r⟩, ⟨h5 n1 HT9.out.c0, h5 n1 HT9.out.c1, h5 n1 HT9.out.c2⟩, y1⟩, ?_⟩
    obtain ⟨m1, m2⟩ := HPV.out.more HL.out hi HA.out
    rw [HT.out] at m1 m2
    have M1 : Hid _ := m1
    have M2 : Hid _ := m2
    clear m1 m2 h5
    simp only [Act.put, List.setIfInBounds_toArray, List.set_cons_succ, List.set_cons_zero]
    refine OrdS.ends ?_
    simp only [List.drop_succ_cons, List.drop_zero]
    go_wp2_with fail
    go_end0
    exact ⟨rfl, _, M1, HKK.out.pre (KeptG.after (HU9.out.trans HVV.out) M2.out)⟩
end Go.Proofs.Ytjklaemhfhakhaa
