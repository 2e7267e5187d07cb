/- work. -/
import Derived.Test.YtjklaemhfhakhaaCa
namespace Go.Proofs.Ytjklaemhfhakhaa
open Go.ChangeShapes Go.WideShapes Go.ChangeAt Go.RowKit

/-- What work leaves. -/
def WorkR (w : World) (L : Ly) (n : Nat) (p' : Pl) (e : Ending) (w' : World) : Prop := e = .returned (.tuple #[]) ∧ ∃ L', Hid (PW w' L' n p') ∧ Hid (Kept n w w' L L')
set_option maxHeartbeats 1000000 in
theorem t51a {w : World} {L : Ly} {n : Nat} {p : Pl} (h : PW w L n p) (hL : L.Ok n) {i : Nat} (hi : i < n) {d : Int} (hd : 0 ≤ d ∧ d ≤ 2305843009213693952) (ho : (p.c i).Ok) (hlt : (p.c i).done + d < (p.c i).hd.l) : Calls Try.prog 51 #[.pointer (some ⟨L.bt, i * 2, none⟩), .int .i64 d] w (WorkR w L n (p.set i ((p.c i).work d))) := by
  have H : Hid (PW w L n p) := h
  have HL : Hid (L.Ok n) := hL
  have c1 := h.cr i hi
  have c2 := h.cd i hi
  have c5 := (h.hd hi).l
  have z2 := h.ft (i * 2 + 1)
  have hW : Hid ((p.c i).work d = ⟨(p.c i).hd, (p.c i).tl, (p.c i).done + d⟩) := by
    show _ = _
    unfold Crs.work
    rw [if_pos hlt]
  have HD := h.setDone hL hi ((p.c i).done + d)
  have HK := (Kept.of_up (w := w) (w' := w) hL (Up.refl w)).set (g := L.bt) (o := i * 2 + 1) (Or.inr (Or.inl rfl)) (.int .i64 ((p.c i).done + d)) hL rfl (fun _ q => q)
  obtain ⟨m1, m2, m3⟩ := ho.hd.may
  have m6 := ho.lo
  have m7 := ho.hi
  clear h hL ho
  have HD : Hid (PW _ L n _) := HD
  have HK : Hid (Kept n w _ L L) := HK
  obtain ⟨T, hT⟩ : ∃ T, (p.c i).tl.length + 1 = T := ⟨_, rfl⟩
  rw [hT] at c1
  have q1 : (0 : Int) < (T : Int) := by omega
  clear hT
  generalize hdn : (p.c i).done = dn at *
  generalize hll : (p.c i).hd.l = l at *
  have d1 : IntKind.i64.wrap (dn + d) = dn + d := by rw [IntKind.wrap_i64]; omega
  have HN : Hid ((p.c i).done = dn) := hdn
  have x2 : Hid (∀ W, W = w.setCell ⟨L.bt, i * 2 + 1, none⟩ (.int .i64 (dn + d)) → W.cell? ⟨L.bt, i * 2 + 1, none⟩ = some (.int .i64 (dn + d)) ∧ W.cell? ⟨L.br i, L.ro i + 2, none⟩ = some (.int .i64 l)) := by
    rintro W rfl
    exact ⟨World.cell?_setCell_same _ _ _ c2, cell_other c5 (Or.inl (HL.out.rt i hi))⟩
  clear hdn hll
  go_enter Try.func51, Try.ntmps51
  go_wp2_with fail
  obtain ⟨y1, y2⟩ := x2.out _ rfl
  generalize w.setCell ⟨L.bt, i * 2 + 1, none⟩ (.int .i64 (dn + d)) = W at *
  go_region
  go_wp2
  go_end0
  refine ⟨rfl, L, ?_, HK.out.trans (Kept.of_up HL.out (Up.drew _))⟩
  rw [hW.out]
  exact HD.out.up (Up.drew _)
/-- A row, and what stands in it. -/
theorem PW.at {w : World} {L : Ly} {n : Nat} {p : Pl} {i : Nat} {c : Crs} (h : PW w L n (p.set i c)) (hi : i < n) : w.cell? ⟨L.bt, i * 2, none⟩ = some (.slice (some ⟨L.br i, L.ro i, none⟩) (c.tl.length + 1) (L.rc i)) ∧ w.cell? ⟨L.bt, i * 2 + 1, none⟩ = some (.int .i64 c.done) ∧ RowAt w (L.br i) (L.ro i) c.hd ∧ c.tl.length + 1 ≤ L.rc i := by
  have h1 := h.cr i hi
  have h2 := h.cd i hi
  have h3 := h.hd hi
  have h4 := h.cap i hi
  rw [Pl.set_at] at h1 h2 h3 h4
  exact ⟨h1, h2, h3, h4⟩
theorem PW.at2 {w : World} {L : Ly} {n : Nat} {p : Pl} {i : Nat} {c : Crs} (h : PW w L n (p.set i c)) (hi : i < n) {x : Rw} {xs : List Rw} (hx : c.tl = x :: xs) : RowAt w (L.br i) (L.ro i + 4) x := by
  have := h.rw' i hi 1 x (by rw [Pl.set_at, hx]; rfl)
  rwa [Nat.one_mul] at this
theorem work0 {w W : World} {L : Ly} {n : Nat} {p : Pl} {i : Nat} {c : Crs} (hL : L.Ok n) (hi : i < n) (HD : PW W L n (p.set i c)) (HK : Kept n w W L L) (x : Int) : ∃ W2, (W.setCell ⟨L.bt, i * 2 + 1, none⟩ (.int .i64 x)).drew = W2 ∧ Hid (PW W2 L n (p.set i ⟨c.hd, c.tl, x⟩)) ∧ Hid (Kept n w W2 L L) := by
  refine ⟨_, rfl, ?_, ?_⟩
  · have := HD.setDone hL hi x
    rw [Pl.set_set, Pl.set_at] at this
    exact this.up (Up.drew _)
  · exact (HK.set (g := L.bt) (o := i * 2 + 1) (Or.inr (Or.inl rfl)) (.int .i64 x) hL rfl (fun _ q => q)).trans (Kept.of_up hL (Up.drew _))
theorem work1 {w W : World} {L : Ly} {n : Nat} {p : Pl} {i : Nat} {c : Crs} (hL : L.Ok n) (hi : i < n) (HD : PW W L n (p.set i c)) (HK : Kept n w W L L) (x : Int) : ∃ W2, (W.setCell ⟨L.br i, L.ro i, none⟩ (.int .i64 x)).drew = W2 ∧ Hid (PW W2 L n (p.set i ⟨⟨x, c.hd.e, c.hd.l, c.hd.r⟩, c.tl, c.done⟩)) ∧ Hid (Kept n w W2 L L) := by
  refine ⟨_, rfl, ?_, ?_⟩
  · have := HD.setNx hL hi x
    rw [Pl.set_set, Pl.set_at] at this
    exact this.up (Up.drew _)
  · exact (HK.set (g := L.br i) (o := L.ro i) (Or.inr (Or.inr ⟨i, hi, rfl⟩)) (.int .i64 x) hL rfl (fun _ q => q)).trans (Kept.of_up hL (Up.drew _))
theorem work2 {w W : World} {L : Ly} {n : Nat} {p : Pl} {i : Nat} {c : Crs} (hL : L.Ok n) (hi : i < n) (HD : PW W L n (p.set i c)) (HK : Kept n w W L L) {x : Rw} {xs : List Rw} (hx : c.tl = x :: xs) : ∃ W2, (W.setCell ⟨L.bt, i * 2, none⟩ (.slice (some ⟨L.br i, L.ro i + 4, none⟩) (xs.length + 1) (L.rc i - 1))).drew = W2 ∧ Hid (PW W2 (L.drop i) n (p.set i ⟨x, xs, c.done⟩)) ∧ Hid (Kept n w W2 L (L.drop i)) := by
  refine ⟨_, rfl, ?_, ?_⟩
  · have := HD.drop hL hi (x := x) (xs := xs) (by rw [Pl.set_at]; exact hx)
    rw [Pl.set_set, Pl.set_at] at this
    exact this.up (Up.drew _)
  · exact (HK.set (g := L.bt) (o := i * 2) (Or.inr (Or.inl rfl)) (.slice (some ⟨L.br i, L.ro i + 4, none⟩) (xs.length + 1) (L.rc i - 1)) (Ly.drop_ok hL i) rfl (fun _ q => q)).trans (Kept.of_up (Ly.drop_ok hL i) (Up.drew _))
set_option maxHeartbeats 2000000 in
theorem t51b {w : World} {L : Ly} {n : Nat} {p : Pl} (h : PW w L n p) (hL : L.Ok n) {i : Nat} (hi : i < n) {d : Int} (hd : 0 ≤ d ∧ d ≤ 2305843009213693952) (ho : (p.c i).Ok) (hge : (p.c i).hd.l ≤ (p.c i).done + d) : Calls Try.prog 51 #[.pointer (some ⟨L.bt, i * 2, none⟩), .int .i64 d] w (WorkR w L n (p.set i ((p.c i).work d))) := by
  have HL : Hid (L.Ok n) := hL
  have HD1 := h.setDone hL hi ((p.c i).done + d)
  have c1 := h.cr i hi
  have c2 := h.cd i hi
  have z2 := h.ft (i * 2 + 1)
  have HK1 : Hid (Kept n w _ L L) := (Kept.of_up (w := w) (w' := w) hL (Up.refl w)).set (g := L.bt) (o := i * 2 + 1) (Or.inr (Or.inl rfl)) (.int .i64 ((p.c i).done + d)) hL rfl (fun _ q => q)
  obtain ⟨m1, m2, m3⟩ := ho.hd.may
  have m4 := ho.hd.lo
  have m5 := ho.hd.hi
  have m6 := ho.lo
  have m7 := ho.hi
  have hW : (p.c i).work d = nextC (p.c i).hd (p.c i).tl := by
    unfold Crs.work
    rw [if_neg (by omega)]
  generalize (p.c i).work d = c' at *
  clear h hL ho
  generalize p.c i = c at *
  obtain ⟨⟨nx, e, l, r⟩, tl, dn⟩ := c
  simp only at *
  have HW : Hid (c' = nextC ⟨nx, e, l, r⟩ tl) := hW
  clear hW
  have HD1 : Hid (PW _ L n (p.set i ⟨⟨nx, e, l, r⟩, tl, dn + d⟩)) := HD1
  obtain ⟨T, hT⟩ : ∃ T, tl.length + 1 = T := ⟨_, rfl⟩
  have HT : Hid (tl.length + 1 = T) := hT
  rw [hT] at c1
  have q1 : (0 : Int) < (T : Int) := by omega
  clear hT
  have d1 : IntKind.i64.wrap (dn + d) = dn + d := by rw [IntKind.wrap_i64]; omega
  have d2 : IntKind.i64.wrap (nx + e) = nx + e := by rw [IntKind.wrap_i64]; omega
  have hnlt : decide (dn + d < l) = false := by simp; omega
  go_enter Try.func51, Try.ntmps51
  go_wp2_with fail
  obtain ⟨a1, a2, a3, a4⟩ := HD1.out.at hi
  have z3 := HD1.out.ft (i * 2 + 1)
  have y5 := a3.l
  simp only at a1 a2 y5
  rw [HT.out] at a1
  generalize w.setCell ⟨L.bt, i * 2 + 1, none⟩ (.int .i64 (dn + d)) = W1 at *
  clear a3 c1 c2
  go_region
  go_wp2_with fail
  obtain ⟨W2, hW2, HD2, HK2⟩ := work0 HL.out hi HD1.out HK1.out 0
  rw [hW2]
  clear hW2 HD1 HK1 a1 a2 a4 y5 z2 z3
  obtain ⟨b1, b2, b3, b4⟩ := HD2.out.at hi
  have b5 := b3.nx
  have b6 := b3.e
  have z5 := HD2.out.fr i hi (L.ro i)
  simp only at b1 b2 b5 b6
  rw [HT.out] at b1
  clear b3
  go_region
  obtain ⟨W3, hW3, HD3, HK3⟩ := work1 HL.out hi HD2.out HK2.out (nx + e)
  rw [hW3]
  clear hW3 HD2 HK2 b1 b2 b4 b5 b6 z5
  simp only at HD3
  obtain ⟨b1, b2, b3, b4⟩ := HD3.out.at hi
  have b5 := b3.nx
  simp only at b1 b2 b5
  rw [HT.out] at b1
  clear b3
  cases tl with
  | nil =>
    obtain rfl : T = 1 := HT.out.symm
    go_wp2_with fail
    go_region
    go_wp2
    go_end0
    refine ⟨rfl, L, ?_, HK3.out.trans (Kept.of_up HL.out (Up.drew _))⟩
    rw [HW.out]
    exact HD3.out.up (Up.drew _)
  | cons x xs =>
    have q2 : (1 : Int) < (T : Int) := by have := HT.out; simp only [List.length_cons] at this; omega
    have HX := HD3.out.at2 hi (x := x) (xs := xs) rfl
    have b7 := HX.nx
    clear HX
    by_cases he : nx + e = x.nx
    · have he2 : ((nx + e) == x.nx) = true := by simp [he]
      have HE : Hid (nx + e = x.nx) := he
      have q3 : (1 : Int) ≤ (T : Int) := by omega
      have hT := HT.out
      simp only [List.length_cons] at hT b4
      have HT1 : Hid (T - 1 = xs.length + 1) := by show _ = _; omega
      have q4 : (T : Int) ≤ (L.rc i : Int) := by omega
      have q5 : (1 : Int) ≤ (L.rc i : Int) := by omega
      have q6 : 1 ≤ T := by omega
      have q7 : T ≤ L.rc i := by omega
      have q8 : ¬ L.rc i = 1 := by omega
      have z7 := HD3.out.ft (i * 2)
      clear he hT b4
      go_wp2_with fail
      go_region
      go_wp2
      go_region
      go_wp2
      go_end0
      obtain ⟨W4, hW4, HD4, HK4⟩ := work2 HL.out hi HD3.out HK3.out (x := x) (xs := xs) rfl
      rw [HT1.out, hW4]
      refine ⟨rfl, _, ?_, HK4.out.trans (Kept.of_up HK4.out.ok (Up.drew _))⟩
      rw [HW.out, nextC, if_pos HE.out]
      exact HD4.out.up (Up.drew _)
    · go_wp2_with fail
      go_region
      go_wp2
      go_end0
      refine ⟨rfl, L, ?_, HK3.out.trans (Kept.of_up HL.out (Up.drew _))⟩
      rw [HW.out, nextC, if_neg he]
      exact HD3.out.up (Up.drew _)
theorem t51 {w : World} {L : Ly} {n : Nat} {p : Pl} (h : PW w L n p) (hL : L.Ok n) {i : Nat} (hi : i < n) {d : Int} (hd : 0 ≤ d ∧ d ≤ 2305843009213693952) (ho : (p.c i).Ok) : Calls Try.prog 51 #[.pointer (some ⟨L.bt, i * 2, none⟩), .int .i64 d] w (WorkR w L n (p.set i ((p.c i).work d))) := by
  by_cases q : (p.c i).done + d < (p.c i).hd.l
  · exact t51a h hL hi hd ho q
  · exact t51b h hL hi hd ho (by omega)
end Go.Proofs.Ytjklaemhfhakhaa
