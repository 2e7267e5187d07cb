/- What stores leave of a plan. -/
import Derived.Test.YtjklaemhfhakhaaBf
namespace Go.Proofs.Ytjklaemhfhakhaa
open Go.ChangeShapes Go.WideShapes Go.ChangeAt Go.RowKit

def Pl.set (p : Pl) (i : Nat) (c : Crs) : Pl := ⟨p.now, upd p.c i c⟩
theorem Pl.set_at (p : Pl) (i : Nat) (c : Crs) : (p.set i c).c i = c := upd_at _ _ _
theorem Pl.set_ne (p : Pl) {i j : Nat} (c : Crs) (h : j ≠ i) : (p.set i c).c j = p.c j := upd_ne _ _ h
theorem Pl.set_set (p : Pl) (i : Nat) (c d : Crs) : (p.set i c).set i d = p.set i d := by
  show Pl.mk _ _ = Pl.mk _ _
  congr 1
  funext j
  by_cases e : j = i
  · subst e; rw [upd_at, upd_at]
  · simp only [Pl.set, upd_ne _ _ e]
theorem some_off {w : World} {a a' : Addr} {y : Value} (h : (w.cell? a).isSome = true) (hn : a.block ≠ a'.block ∨ a.off ≠ a'.off) : ((w.setCell a' y).cell? a).isSome = true := by
  obtain ⟨v, hv⟩ := Option.isSome_iff_exists.1 h
  rw [cell_other hv hn]; rfl
theorem some_set {w : World} {a a' : Addr} {y : Value} (h : (w.cell? a).isSome = true) : ((w.setCell a' y).cell? a).isSome = true := by
  obtain ⟨v, hv⟩ := Option.isSome_iff_exists.1 h
  by_cases e : a = a'
  · subst e; rw [World.cell?_setCell_same _ _ _ hv]; rfl
  · rw [World.cell?_setCell_other _ _ _ _ (fun q => e q.symm), hv]; rfl
theorem RowAt.off {w : World} {g o b k : Nat} {x : Rw} {v : Value} (h : RowAt w g o x) (hn : g ≠ b ∨ (k < o ∨ o + 3 < k)) : RowAt (w.setCell ⟨b, k, none⟩ v) g o x := by
  refine ⟨cell_other h.nx ?_, cell_other h.e ?_, cell_other h.l ?_, cell_other h.r ?_⟩
  all_goals (rcases hn with e | e; exact Or.inl e; refine Or.inr ?_; first | (show o ≠ k; omega) | (show o + 1 ≠ k; omega) | (show o + 2 ≠ k; omega) | (show o + 3 ≠ k; omega))
theorem RowAt.setNx {w : World} {g o : Nat} {x : Rw} (h : RowAt w g o x) (y : Int) : RowAt (w.setCell ⟨g, o, none⟩ (.int .i64 y)) g o { x with nx := y } :=
  ⟨World.cell?_setCell_same _ _ _ h.nx, cell_other h.e (Or.inr (by show o + 1 ≠ o; omega)), cell_other h.l (Or.inr (by show o + 2 ≠ o; omega)), cell_other h.r (Or.inr (by show o + 3 ≠ o; omega))⟩
/-- A store into the table of tasks. -/
theorem PW.store {w : World} {L L' : Ly} {n : Nat} {p p' : Pl} (h : PW w L n p) {g k : Nat} {v : Value} (hlay : L'.bp = L.bp ∧ L'.bt = L.bt ∧ L'.br = L.br)
    (hp : (w.setCell ⟨g, k, none⟩ v).cell? ⟨L.bp, 0, none⟩ = some (.int .i64 p'.now)) (hp1 : g ≠ L.bp ∨ k ≠ 1)
    (hc : ∀ i, i < n → (w.setCell ⟨g, k, none⟩ v).cell? ⟨L.bt, i * 2, none⟩ = some (.slice (some ⟨L.br i, L'.ro i, none⟩) ((p'.c i).tl.length + 1) (L'.rc i)) ∧ (w.setCell ⟨g, k, none⟩ v).cell? ⟨L.bt, i * 2 + 1, none⟩ = some (.int .i64 (p'.c i).done) ∧ (∀ j x, ((p'.c i).hd :: (p'.c i).tl)[j]? = some x → RowAt (w.setCell ⟨g, k, none⟩ v) (L.br i) (L'.ro i + j * 4) x) ∧ (p'.c i).tl.length + 1 ≤ L'.rc i ∧ (∀ j, j < L'.rc i * 4 → ∃ j', j' < L.rc i * 4 ∧ L.ro i + j' = L'.ro i + j)) :
    PW (w.setCell ⟨g, k, none⟩ v) L' n p' := by
  obtain ⟨e1, e2, e3⟩ := hlay
  have hs : ∀ b, b < w.heap.size → b < (w.setCell ⟨g, k, none⟩ v).heap.size := fun b hb => Nat.lt_of_lt_of_le hb (Below.setCell (Below.refl 0 w) (Nat.zero_le _) v).size
  refine ⟨by rw [e1]; exact hp, ?_, fun i hi => by rw [e2, e3]; exact (hc i hi).1, fun i hi => by rw [e2]; exact (hc i hi).2.1, fun i hi j x hx => by rw [e3]; exact (hc i hi).2.2.1 j x hx, fun i hi => (hc i hi).2.2.2.1, fun i hi j hj => ?_, by rw [e1]; exact hs _ h.lp, by rw [e2]; exact hs _ h.lt, fun j => by rw [e1, World.frozen?_setCell]; exact h.fp j, fun j => by rw [e2, World.frozen?_setCell]; exact h.ft j, fun i hi j => by rw [e3, World.frozen?_setCell]; exact h.fr i hi j⟩
  · rw [e1, e2]
    refine cell_other h.p1 ?_
    rcases hp1 with q | q
    · exact Or.inl (fun e => q e.symm)
    · exact Or.inr (fun e => q e.symm)
  · obtain ⟨j', h1, h2⟩ := (hc i hi).2.2.2.2 j hj
    rw [e3, ← h2]
    exact some_set (h.sp i hi j' h1)
theorem PW.setDone {w : World} {L : Ly} {n : Nat} {p : Pl} (h : PW w L n p) (hL : L.Ok n) {i : Nat} (hi : i < n) (x : Int) : PW (w.setCell ⟨L.bt, i * 2 + 1, none⟩ (.int .i64 x)) L n (p.set i { p.c i with done := x }) := by
  refine h.store ⟨rfl, rfl, rfl⟩ (cell_other h.p0 (Or.inl hL.pt)) (Or.inl (fun e => hL.pt e.symm)) fun j hj => ?_
  by_cases e : j = i
  · subst e
    rw [Pl.set_at]
    exact ⟨cell_other (h.cr j hj) (Or.inr (by show j * 2 ≠ j * 2 + 1; omega)), World.cell?_setCell_same _ _ _ (h.cd j hj), fun k y hy => (h.rw' j hj k y hy).off (Or.inl (hL.rt j hj)), h.cap j hj, fun k hk => ⟨k, hk, rfl⟩⟩
  · rw [Pl.set_ne _ _ e]
    exact ⟨cell_other (h.cr j hj) (Or.inr (by show j * 2 ≠ i * 2 + 1; omega)), cell_other (h.cd j hj) (Or.inr (by show j * 2 + 1 ≠ i * 2 + 1; omega)), fun k y hy => (h.rw' j hj k y hy).off (Or.inl (hL.rt j hj)), h.cap j hj, fun k hk => ⟨k, hk, rfl⟩⟩
theorem PW.setNx {w : World} {L : Ly} {n : Nat} {p : Pl} (h : PW w L n p) (hL : L.Ok n) {i : Nat} (hi : i < n) (x : Int) : PW (w.setCell ⟨L.br i, L.ro i, none⟩ (.int .i64 x)) L n (p.set i { p.c i with hd := { (p.c i).hd with nx := x } }) := by
  refine h.store ⟨rfl, rfl, rfl⟩ (cell_other h.p0 (Or.inl (fun e => hL.rp i hi e.symm))) (Or.inl (hL.rp i hi)) fun j hj => ?_
  by_cases e : j = i
  · subst e
    rw [Pl.set_at]
    refine ⟨cell_other (h.cr j hj) (Or.inl (fun e => hL.rt j hj e.symm)), cell_other (h.cd j hj) (Or.inl (fun e => hL.rt j hj e.symm)), fun k y hy => ?_, h.cap j hj, fun k hk => ⟨k, hk, rfl⟩⟩
    cases k with
    | zero =>
      simp only [List.getElem?_cons_zero, Option.some.injEq] at hy
      subst hy
      rw [Nat.zero_mul, Nat.add_zero]
      exact (h.hd hj).setNx x
    | succ k =>
      have hy' : ((p.c j).hd :: (p.c j).tl)[k + 1]? = some y := hy
      exact (h.rw' j hj (k + 1) y hy').off (Or.inr (Or.inl (by omega)))
  · rw [Pl.set_ne _ _ e]
    exact ⟨cell_other (h.cr j hj) (Or.inl (fun e => hL.rt i hi e.symm)), cell_other (h.cd j hj) (Or.inl (fun e => hL.rt i hi e.symm)), fun k y hy => (h.rw' j hj k y hy).off (Or.inl (hL.rr j i hj hi e)), h.cap j hj, fun k hk => ⟨k, hk, rfl⟩⟩
theorem PW.setNow {w : World} {L : Ly} {n : Nat} {p : Pl} (h : PW w L n p) (hL : L.Ok n) (x : Int) : PW (w.setCell ⟨L.bp, 0, none⟩ (.int .i64 x)) L n ⟨x, p.c⟩ := by
  refine h.store ⟨rfl, rfl, rfl⟩ (World.cell?_setCell_same _ _ _ h.p0) (Or.inr (by omega)) fun j hj => ?_
  exact ⟨cell_other (h.cr j hj) (Or.inl (fun e => hL.pt e.symm)), cell_other (h.cd j hj) (Or.inl (fun e => hL.pt e.symm)), fun k y hy => (h.rw' j hj k y hy).off (Or.inl (hL.rp j hj)), h.cap j hj, fun k hk => ⟨k, hk, rfl⟩⟩
/-- Its first row is gone. -/
def Ly.drop (L : Ly) (i : Nat) : Ly := { L with ro := upd L.ro i (L.ro i + 4), rc := upd L.rc i (L.rc i - 1) }
theorem PW.drop {w : World} {L : Ly} {n : Nat} {p : Pl} (h : PW w L n p) (hL : L.Ok n) {i : Nat} (hi : i < n) {x : Rw} {xs : List Rw} (hx : (p.c i).tl = x :: xs) : PW (w.setCell ⟨L.bt, i * 2, none⟩ (.slice (some ⟨L.br i, L.ro i + 4, none⟩) (xs.length + 1) (L.rc i - 1))) (L.drop i) n (p.set i ⟨x, xs, (p.c i).done⟩) := by
  refine h.store ⟨rfl, rfl, rfl⟩ (cell_other h.p0 (Or.inl hL.pt)) (Or.inl (fun e => hL.pt e.symm)) fun j hj => ?_
  by_cases e : j = i
  · subst e
    rw [Pl.set_at]
    have hc := h.cap j hj
    rw [hx] at hc
    simp only [List.length_cons] at hc
    show _ = some (Value.slice (some ⟨L.br j, upd L.ro j (L.ro j + 4) j, none⟩) (xs.length + 1) (upd L.rc j (L.rc j - 1) j)) ∧ _ ∧ (∀ k y, (x :: xs)[k]? = some y → RowAt _ (L.br j) (upd L.ro j (L.ro j + 4) j + k * 4) y) ∧ xs.length + 1 ≤ upd L.rc j (L.rc j - 1) j ∧ ∀ k, k < upd L.rc j (L.rc j - 1) j * 4 → ∃ k', k' < L.rc j * 4 ∧ L.ro j + k' = upd L.ro j (L.ro j + 4) j + k
    rw [upd_at, upd_at]
    refine ⟨World.cell?_setCell_same _ _ _ (h.cr j hj), cell_other (h.cd j hj) (Or.inr (by show j * 2 + 1 ≠ j * 2; omega)), fun k y hy => ?_, by omega, fun k hk => ⟨k + 4, by omega, by omega⟩⟩
    have hy' : ((p.c j).hd :: (p.c j).tl)[k + 1]? = some y := by rw [hx]; exact hy
    have := (h.rw' j hj (k + 1) y hy').off (b := L.bt) (k := j * 2) (v := .slice (some ⟨L.br j, L.ro j + 4, none⟩) (xs.length + 1) (L.rc j - 1)) (Or.inl (hL.rt j hj))
    rwa [show L.ro j + (k + 1) * 4 = L.ro j + 4 + k * 4 by omega] at this
  · rw [Pl.set_ne _ _ e]
    show _ = some (Value.slice (some ⟨L.br j, upd L.ro i (L.ro i + 4) j, none⟩) _ (upd L.rc i (L.rc i - 1) j)) ∧ _ ∧ (∀ k y, _ → RowAt _ (L.br j) (upd L.ro i (L.ro i + 4) j + k * 4) y) ∧ _ ≤ upd L.rc i (L.rc i - 1) j ∧ ∀ k, k < upd L.rc i (L.rc i - 1) j * 4 → ∃ k', k' < L.rc j * 4 ∧ L.ro j + k' = upd L.ro i (L.ro i + 4) j + k
    rw [upd_ne _ _ e, upd_ne _ _ e]
    exact ⟨cell_other (h.cr j hj) (Or.inr (by show j * 2 ≠ i * 2; omega)), cell_other (h.cd j hj) (Or.inr (by show j * 2 + 1 ≠ i * 2; omega)), fun k y hy => (h.rw' j hj k y hy).off (Or.inl (hL.rt j hj)), h.cap j hj, fun k hk => ⟨k, hk, rfl⟩⟩
theorem Ly.drop_ok {L : Ly} {n : Nat} (h : L.Ok n) (i : Nat) : (L.drop i).Ok n := ⟨h.pt, h.rp, h.rt, h.rr⟩
/-- What has been kept while a plan has been turned. -/
structure Kept (n : Nat) (w w' : World) (L L' : Ly) : Prop where
  ok : L'.Ok n
  bp : L'.bp = L.bp
  own : ∀ b, L'.Own n b → L.Own n b
  kp : Kp (fun b => ¬ L.Own n b) w w'
theorem Kept.of_up {n : Nat} {w w' : World} {L : Ly} (h : L.Ok n) (hu : Up w w') : Kept n w w' L L := ⟨h, rfl, fun _ hb => hb, Kp.of_up hu⟩
theorem Kept.trans {n : Nat} {w w1 w2 : World} {L L1 L2 : Ly} (h : Kept n w w1 L L1) (k : Kept n w1 w2 L1 L2) : Kept n w w2 L L2 :=
  ⟨k.ok, k.bp.trans h.bp, fun b hb => h.own b (k.own b hb), ⟨k.kp.os.trans h.kp.os, k.kp.tape.trans h.kp.tape, k.kp.output.trans h.kp.output, Nat.le_trans h.kp.size k.kp.size, fun b hb hl => (k.kp.block b (fun q => hb (h.own b q)) (Nat.lt_of_lt_of_le hl h.kp.size)).trans (h.kp.block b hb hl)⟩⟩
theorem Kept.set {n : Nat} {w w1 : World} {L L1 L2 : Ly} (h : Kept n w w1 L L1) {g o : Nat} (hg : L1.Own n g) (v : Value) (h2 : L2.Ok n) (hb : L2.bp = L1.bp) (ho : ∀ b, L2.Own n b → L1.Own n b) : Kept n w (w1.setCell ⟨g, o, none⟩ v) L L2 :=
  h.trans ⟨h2, hb, ho, Kp.set _ w1 (fun q => q hg) v⟩
theorem Kept.beyond {n : Nat} {w w1 : World} {L L1 : Ly} (h : Kept n w w1 L L1) {g o : Nat} (hg : w.heap.size ≤ g) (v : Value) : Kept n w (w1.setCell ⟨g, o, none⟩ v) L L1 := by
  have hk : Kp (fun b => b ≠ g) w1 (w1.setCell ⟨g, o, none⟩ v) := Kp.set _ _ (fun q => q rfl) v
  exact ⟨h.ok, h.bp, h.own, ⟨hk.os.trans h.kp.os, hk.tape.trans h.kp.tape, hk.output.trans h.kp.output, Nat.le_trans h.kp.size hk.size, fun b hb hl => (hk.block b (by show b ≠ g; omega) (Nat.lt_of_lt_of_le hl h.kp.size)).trans (h.kp.block b hb hl)⟩⟩
end Go.Proofs.Ytjklaemhfhakhaa
/- work. -/
namespace Go.Proofs.Ytjklaemhfhakhaa
open Go.ChangeShapes Go.WideShapes Go.ChangeAt Go.RowKit

/-- What work leaves. -/
def WorkR (w : World) (L : Ly) (n : Nat) (p' : Pl) (e : Ending) (w' : World) : Prop := e = .returned (.tuple #[]) ∧ ∃ L', Hid (PW w' L' n p') ∧ Hid (Kept n w w' L L')
set_option maxHeartbeats 1000000 in
theorem t51a {w : World} {L : Ly} {n : Nat} {p : Pl} (h : PW w L n p) (hL : L.Ok n) {i : Nat} (hi : i < n) {d : Int} (hd : 0 ≤ d ∧ d ≤ 2305843009213693952) (ho : (p.c i).Ok) (hlt : (p.c i).done + d < (p.c i).hd.l) : Calls Try.prog 51 #[.pointer (some ⟨L.bt, i * 2, none⟩), .int .i64 d] w (WorkR w L n (p.set i ((p.c i).work d))) := by
  have H : Hid (PW w L n p) := h
  have HL : Hid (L.Ok n) := hL
  have c1 := h.cr i hi
  have c2 := h.cd i hi
  have c5 := (h.hd hi).l
  have z2 := h.ft (i * 2 + 1)
  have hW : Hid ((p.c i).work d = ⟨(p.c i).hd, (p.c i).tl, (p.c i).done + d⟩) := by
    show _ = _
    unfold Crs.work
    rw [if_pos hlt]
  have HD := h.setDone hL hi ((p.c i).done + d)
  have HK := (Kept.of_up (w := w) (w' := w) hL (Up.refl w)).set (g := L.bt) (o := i * 2 + 1) (Or.inr (Or.inl rfl)) (.int .i64 ((p.c i).done + d)) hL rfl (fun _ q => q)
  obtain ⟨m1, m2, m3⟩ := ho.hd.may
  have m6 := ho.lo
  have m7 := ho.hi
  clear h hL ho
  have HD : Hid (PW _ L n _) := HD
  have HK : Hid (Kept n w _ L L) := HK
  obtain ⟨T, hT⟩ : ∃ T, (p.c i).tl.length + 1 = T := ⟨_, rfl⟩
  rw [hT] at c1
  have q1 : (0 : Int) < (T : Int) := by omega
  clear hT
  generalize hdn : (p.c i).done = dn at *
  generalize hll : (p.c i).hd.l = l at *
  have d1 : IntKind.i64.wrap (dn + d) = dn + d := by rw [IntKind.wrap_i64]; omega
  have HN : Hid ((p.c i).done = dn) := hdn
  have x2 : Hid (∀ W, W = w.setCell ⟨L.bt, i * 2 + 1, none⟩ (.int .i64 (dn + d)) → W.cell? ⟨L.bt, i * 2 + 1, none⟩ = some (.int .i64 (dn + d)) ∧ W.cell? ⟨L.br i, L.ro i + 2, none⟩ = some (.int .i64 l)) := by
    rintro W rfl
    exact ⟨World.cell?_setCell_same _ _ _ c2, cell_other c5 (Or.inl (HL.out.rt i hi))⟩
  clear hdn hll
  go_enter Try.func51, Try.ntmps51
  go_wp2_with fail
  obtain ⟨y1, y2⟩ := x2.out _ rfl
  generalize w.setCell ⟨L.bt, i * 2 + 1, none⟩ (.int .i64 (dn + d)) = W at *
  go_region
  go_wp2
  go_end0
  refine ⟨rfl, L, ?_, HK.out.trans (Kept.of_up HL.out (Up.drew _))⟩
  rw [hW.out]
  exact HD.out.up (Up.drew _)
/-- A row, and what stands in it. -/
theorem PW.at {w : World} {L : Ly} {n : Nat} {p : Pl} {i : Nat} {c : Crs} (h : PW w L n (p.set i c)) (hi : i < n) : w.cell? ⟨L.bt, i * 2, none⟩ = some (.slice (some ⟨L.br i, L.ro i, none⟩) (c.tl.length + 1) (L.rc i)) ∧ w.cell? ⟨L.bt, i * 2 + 1, none⟩ = some (.int .i64 c.done) ∧ RowAt w (L.br i) (L.ro i) c.hd ∧ c.tl.length + 1 ≤ L.rc i := by
  have h1 := h.cr i hi
  have h2 := h.cd i hi
  have h3 := h.hd hi
  have h4 := h.cap i hi
  rw [Pl.set_at] at h1 h2 h3 h4
  exact ⟨h1, h2, h3, h4⟩
theorem PW.at2 {w : World} {L : Ly} {n : Nat} {p : Pl} {i : Nat} {c : Crs} (h : PW w L n (p.set i c)) (hi : i < n) {x : Rw} {xs : List Rw} (hx : c.tl = x :: xs) : RowAt w (L.br i) (L.ro i + 4) x := by
  have := h.rw' i hi 1 x (by rw [Pl.set_at, hx]; rfl)
  rwa [Nat.one_mul] at this
theorem work0 {w W : World} {L : Ly} {n : Nat} {p : Pl} {i : Nat} {c : Crs} (hL : L.Ok n) (hi : i < n) (HD : PW W L n (p.set i c)) (HK : Kept n w W L L) (x : Int) : ∃ W2, (W.setCell ⟨L.bt, i * 2 + 1, none⟩ (.int .i64 x)).drew = W2 ∧ Hid (PW W2 L n (p.set i ⟨c.hd, c.tl, x⟩)) ∧ Hid (Kept n w W2 L L) := by
  refine ⟨_, rfl, ?_, ?_⟩
  · have := HD.setDone hL hi x
    rw [Pl.set_set, Pl.set_at] at this
    exact this.up (Up.drew _)
  · exact (HK.set (g := L.bt) (o := i * 2 + 1) (Or.inr (Or.inl rfl)) (.int .i64 x) hL rfl (fun _ q => q)).trans (Kept.of_up hL (Up.drew _))
theorem work1 {w W : World} {L : Ly} {n : Nat} {p : Pl} {i : Nat} {c : Crs} (hL : L.Ok n) (hi : i < n) (HD : PW W L n (p.set i c)) (HK : Kept n w W L L) (x : Int) : ∃ W2, (W.setCell ⟨L.br i, L.ro i, none⟩ (.int .i64 x)).drew = W2 ∧ Hid (PW W2 L n (p.set i ⟨⟨x, c.hd.e, c.hd.l, c.hd.r⟩, c.tl, c.done⟩)) ∧ Hid (Kept n w W2 L L) := by
  refine ⟨_, rfl, ?_, ?_⟩
  · have := HD.setNx hL hi x
    rw [Pl.set_set, Pl.set_at] at this
    exact this.up (Up.drew _)
  · exact (HK.set (g := L.br i) (o := L.ro i) (Or.inr (Or.inr ⟨i, hi, rfl⟩)) (.int .i64 x) hL rfl (fun _ q => q)).trans (Kept.of_up hL (Up.drew _))
theorem work2 {w W : World} {L : Ly} {n : Nat} {p : Pl} {i : Nat} {c : Crs} (hL : L.Ok n) (hi : i < n) (HD : PW W L n (p.set i c)) (HK : Kept n w W L L) {x : Rw} {xs : List Rw} (hx : c.tl = x :: xs) : ∃ W2, (W.setCell ⟨L.bt, i * 2, none⟩ (.slice (some ⟨L.br i, L.ro i + 4, none⟩) (xs.length + 1) (L.rc i - 1))).drew = W2 ∧ Hid (PW W2 (L.drop i) n (p.set i ⟨x, xs, c.done⟩)) ∧ Hid (Kept n w W2 L (L.drop i)) := by
  refine ⟨_, rfl, ?_, ?_⟩
  · have := HD.drop hL hi (x := x) (xs := xs) (by rw [Pl.set_at]; exact hx)
    rw [Pl.set_set, Pl.set_at] at this
    exact this.up (Up.drew _)
  · exact (HK.set (g := L.bt) (o := i * 2) (Or.inr (Or.inl rfl)) (.slice (some ⟨L.br i, L.ro i + 4, none⟩) (xs.length + 1) (L.rc i - 1)) (Ly.drop_ok hL i) rfl (fun _ q => q)).trans (Kept.of_up (Ly.drop_ok hL i) (Up.drew _))
set_option maxHeartbeats 2000000 in
theorem t51b {w : World} {L : Ly} {n : Nat} {p : Pl} (h : PW w L n p) (hL : L.Ok n) {i : Nat} (hi : i < n) {d : Int} (hd : 0 ≤ d ∧ d ≤ 2305843009213693952) (ho : (p.c i).Ok) (hge : (p.c i).hd.l ≤ (p.c i).done + d) : Calls Try.prog 51 #[.pointer (some ⟨L.bt, i * 2, none⟩), .int .i64 d] w (WorkR w L n (p.set i ((p.c i).work d))) := by
  have HL : Hid (L.Ok n) := hL
  have HD1 := h.setDone hL hi ((p.c i).done + d)
  have c1 := h.cr i hi
  have c2 := h.cd i hi
  have z2 := h.ft (i * 2 + 1)
  have HK1 : Hid (Kept n w _ L L) := (Kept.of_up (w := w) (w' := w) hL (Up.refl w)).set (g := L.bt) (o := i * 2 + 1) (Or.inr (Or.inl rfl)) (.int .i64 ((p.c i).done + d)) hL rfl (fun _ q => q)
  obtain ⟨m1, m2, m3⟩ := ho.hd.may
  have m4 := ho.hd.lo
  have m5 := ho.hd.hi
  have m6 := ho.lo
  have m7 := ho.hi
  have hW : (p.c i).work d = nextC (p.c i).hd (p.c i).tl := by
    unfold Crs.work
    rw [if_neg (by omega)]
  generalize (p.c i).work d = c' at *
  clear h hL ho
  generalize p.c i = c at *
  obtain ⟨⟨nx, e, l, r⟩, tl, dn⟩ := c
  simp only at *
  have HW : Hid (c' = nextC ⟨nx, e, l, r⟩ tl) := hW
  clear hW
  have HD1 : Hid (PW _ L n (p.set i ⟨⟨nx, e, l, r⟩, tl, dn + d⟩)) := HD1
  obtain ⟨T, hT⟩ : ∃ T, tl.length + 1 = T := ⟨_, rfl⟩
  have HT : Hid (tl.length + 1 = T) := hT
  rw [hT] at c1
  have q1 : (0 : Int) < (T : Int) := by omega
  clear hT
  have d1 : IntKind.i64.wrap (dn + d) = dn + d := by rw [IntKind.wrap_i64]; omega
  have d2 : IntKind.i64.wrap (nx + e) = nx + e := by rw [IntKind.wrap_i64]; omega
  have hnlt : decide (dn + d < l) = false := by simp; omega
  go_enter Try.func51, Try.ntmps51
  go_wp2_with fail
  obtain ⟨a1, a2, a3, a4⟩ := HD1.out.at hi
  have z3 := HD1.out.ft (i * 2 + 1)
  have y5 := a3.l
  simp only at a1 a2 y5
  rw [HT.out] at a1
  generalize w.setCell ⟨L.bt, i * 2 + 1, none⟩ (.int .i64 (dn + d)) = W1 at *
  clear a3 c1 c2
  go_region
  go_wp2_with fail
  obtain ⟨W2, hW2, HD2, HK2⟩ := work0 HL.out hi HD1.out HK1.out 0
  rw [hW2]
  clear hW2 HD1 HK1 a1 a2 a4 y5 z2 z3
  obtain ⟨b1, b2, b3, b4⟩ := HD2.out.at hi
  have b5 := b3.nx
  have b6 := b3.e
  have z5 := HD2.out.fr i hi (L.ro i)
  simp only at b1 b2 b5 b6
  rw [HT.out] at b1
  clear b3
  go_region
  obtain ⟨W3, hW3, HD3, HK3⟩ := work1 HL.out hi HD2.out HK2.out (nx + e)
  rw [hW3]
  clear hW3 HD2 HK2 b1 b2 b4 b5 b6 z5
  simp only at HD3
  obtain ⟨b1, b2, b3, b4⟩ := HD3.out.at hi
  have b5 := b3.nx
  simp only at b1 b2 b5
  rw [HT.out] at b1
  clear b3
  cases tl with
  | nil =>
    obtain rfl : T = 1 := HT.out.symm
    go_wp2_with fail
    go_region
    go_wp2
    go_end0
    refine ⟨rfl, L, ?_, HK3.out.trans (Kept.of_up HL.out (Up.drew _))⟩
    rw [HW.out]
    exact HD3.out.up (Up.drew _)
  | cons x xs =>
    have q2 : (1 : Int) < (T : Int) := by have := HT.out; simp only [List.length_cons] at this; omega
    have HX := HD3.out.at2 hi (x := x) (xs := xs) rfl
    have b7 := HX.nx
    clear HX
    by_cases he : nx + e = x.nx
    · have he2 : ((nx + e) == x.nx) = true := by simp [he]
      have HE : Hid (nx + e = x.nx) := he
      have q3 : (1 : Int) ≤ (T : Int) := by omega
      have hT := HT.out
      simp only [List.length_cons] at hT b4
      have HT1 : Hid (T - 1 = xs.length + 1) := by show _ = _; omega
      have q4 : (T : Int) ≤ (L.rc i : Int) := by omega
      have q5 : (1 : Int) ≤ (L.rc i : Int) := by omega
      have q6 : 1 ≤ T := by omega
      have q7 : T ≤ L.rc i := by omega
      have q8 : ¬ L.rc i = 1 := by omega
      have z7 := HD3.out.ft (i * 2)
      clear he hT b4
      go_wp2_with fail
      go_region
      go_wp2
      go_region
      go_wp2
      go_end0
      obtain ⟨W4, hW4, HD4, HK4⟩ := work2 HL.out hi HD3.out HK3.out (x := x) (xs := xs) rfl
      rw [HT1.out, hW4]
      refine ⟨rfl, _, ?_, HK4.out.trans (Kept.of_up HK4.out.ok (Up.drew _))⟩
      rw [HW.out, nextC, if_pos HE.out]
      exact HD4.out.up (Up.drew _)
    · go_wp2_with fail
      go_region
      go_wp2
      go_end0
      refine ⟨rfl, L, ?_, HK3.out.trans (Kept.of_up HL.out (Up.drew _))⟩
      rw [HW.out, nextC, if_neg he]
      exact HD3.out.up (Up.drew _)
theorem t51 {w : World} {L : Ly} {n : Nat} {p : Pl} (h : PW w L n p) (hL : L.Ok n) {i : Nat} (hi : i < n) {d : Int} (hd : 0 ≤ d ∧ d ≤ 2305843009213693952) (ho : (p.c i).Ok) : Calls Try.prog 51 #[.pointer (some ⟨L.bt, i * 2, none⟩), .int .i64 d] w (WorkR w L n (p.set i ((p.c i).work d))) := by
  by_cases q : (p.c i).done + d < (p.c i).hd.l
  · exact t51a h hL hi hd ho q
  · exact t51b h hL hi hd ho (by omega)
end Go.Proofs.Ytjklaemhfhakhaa
