/- change, whole. -/
import Derived.Test.YtjklaemhfhakhaaNo
import Derived.Test.YtjklaemhfhakhaaNr
import Derived.Test.YtjklaemhfhakhaaNh
namespace Go.Proofs.Ytjklaemhfhakhaa
open Go.ChangeShapes Go.WideShapes Go.ChangeAt Go.RowKit

def Crs.addC (c : Crs) (a e l r : Int) : Crs := if c.last.e = e ∧ c.last.l = l ∧ c.last.r = r then c else c.more ⟨aft c.last.nx c.last.e a, e, l, r⟩
def Crs.chg (c : Crs) (a e l r : Int) : Crs :=
  if a < c.last.nx then (if c.tl = [] then ⟨⟨c.hd.nx, e, l, r⟩, [], c.done⟩ else (Crs.mk c.hd c.tl.dropLast c.done).addC a e l r) else c.addC a e l r
theorem Crs.last_R (c : Crs) : lastR (c.hd :: c.tl) = c.last := by
  unfold lastR Crs.last
  rw [List.getLastD_eq_getLast?, List.getLast?_eq_some_getLast (by simp)]
  rfl
theorem Crs.addC_list (c : Crs) (a e l r : Int) : (c.addC a e l r).hd :: (c.addC a e l r).tl = addL (c.hd :: c.tl) a e l r ∧ (c.addC a e l r).done = c.done := by
  unfold Crs.addC addL
  rw [c.last_R]
  by_cases h : c.last.e = e ∧ c.last.l = l ∧ c.last.r = r
  · rw [if_pos h, if_pos h]; exact ⟨rfl, rfl⟩
  · rw [if_neg h, if_neg h]; exact ⟨rfl, rfl⟩
theorem Crs.chg_list (c : Crs) (a e l r : Int) : (c.chg a e l r).hd :: (c.chg a e l r).tl = chgL (c.hd :: c.tl) a e l r ∧ (c.chg a e l r).done = c.done := by
  unfold Crs.chg chgL
  rw [c.last_R]
  by_cases h : a < c.last.nx
  · rw [if_pos h, if_pos h]
    by_cases h2 : c.tl = []
    · have h3 : (c.hd :: c.tl).length = 1 := by rw [h2]; rfl
      rw [if_pos h2, if_pos h3]
      have : c.last = c.hd := by rw [← c.last_R, h2]; rfl
      rw [this]
      exact ⟨rfl, rfl⟩
    · have h3 : ¬ (c.hd :: c.tl).length = 1 := by
        intro q
        rw [List.length_cons] at q
        exact h2 (List.length_eq_zero_iff.1 (by omega))
      rw [if_neg h2, if_neg h3]
      have := (Crs.mk c.hd c.tl.dropLast c.done).addC_list a e l r
      rw [show (c.hd :: c.tl).dropLast = c.hd :: c.tl.dropLast from by cases hh : c.tl with | nil => exact absurd hh h2 | cons x xs => rfl]
      exact this
  · rw [if_neg h, if_neg h]
    exact c.addC_list a e l r
theorem t40 {w : World} {L : Ly} {n : Nat} {p : Pl} (h : PW w L n p) (hL : L.Ok n) {i : Nat} (hi : i < n) (hm : (p.c i).tl.length ≤ 1000000) {now : Int} (h2 : now ≤ 1152921504606846976) (hr : ∀ x, x ∈ (p.c i).hd :: (p.c i).tl → 0 ≤ x.nx ∧ 1 ≤ x.e ∧ x.e ≤ 1099511627776)
    (hp : ∀ t0 y, (p.c i).tl = t0 ++ [y] → (Crs.mk (p.c i).hd t0 (p.c i).done).last.nx ≤ now) (e l r : Int) :
    Calls Try.prog 40 #[.pointer (some ⟨L.bt, i * 2, none⟩), .int .i64 now, .agg #[.int .i64 e, .int .i64 l, .int .i64 r]] w (ChR w L n (p.set i ((p.c i).chg now e l r)) (.tuple #[])) := by
  have hmem : ∀ c : Crs, c.last ∈ c.hd :: c.tl := fun c => by unfold Crs.last; exact List.getLast_mem _
  unfold Crs.chg
  by_cases c1 : now < (p.c i).last.nx
  · rw [if_pos c1]
    by_cases c2 : (p.c i).tl = []
    · rw [if_pos c2]
      have hl : (p.c i).last = (p.c i).hd := by rw [← (p.c i).last_R, c2]; rfl
      rw [hl] at c1
      exact (t40a h hL hi c2 c1 e l r).mono fun _ _ ⟨a, L', b, d⟩ => ⟨a, L', b, d.out.g⟩
    · rw [if_neg c2]
      have hx : (p.c i).tl = (p.c i).tl.dropLast ++ [(p.c i).tl.getLast c2] := (List.dropLast_concat_getLast c2).symm
      have hy : (p.c i).last = (p.c i).tl.getLast c2 := by
        unfold Crs.last
        exact List.getLast_cons c2
      rw [hy] at c1
      have hml : (p.c i).tl.dropLast.length ≤ 1000000 := by rw [List.length_dropLast]; omega
      unfold Crs.addC
      by_cases c3 : (Crs.mk (p.c i).hd (p.c i).tl.dropLast (p.c i).done).last.e = e ∧ (Crs.mk (p.c i).hd (p.c i).tl.dropLast (p.c i).done).last.l = l ∧ (Crs.mk (p.c i).hd (p.c i).tl.dropLast (p.c i).done).last.r = r
      · rw [if_pos c3]
        exact t40f h hL hi hx hml c1 e l r c3
      · rw [if_neg c3]
        have hin : (Crs.mk (p.c i).hd (p.c i).tl.dropLast (p.c i).done).last ∈ (p.c i).hd :: (p.c i).tl := by
          have := hmem (Crs.mk (p.c i).hd (p.c i).tl.dropLast (p.c i).done)
          rcases List.mem_cons.1 this with q | q
          · rw [q]; exact List.mem_cons_self
          · exact List.mem_cons_of_mem _ (List.dropLast_subset _ q)
        obtain ⟨b1, b2, b3⟩ := hr _ hin
        have hpp : (p.set i ⟨(p.c i).hd, (p.c i).tl.dropLast, (p.c i).done⟩).c i = ⟨(p.c i).hd, (p.c i).tl.dropLast, (p.c i).done⟩ := Pl.set_at _ _ _
        have := t40g h hL hi hx rfl hml c1 (by rw [hpp]; exact b1) (by rw [hpp]; exact hp _ _ hx) h2 (by rw [hpp]; exact b2) (by rw [hpp]; exact b3) e l r (by rw [hpp]; exact c3)
        rw [hpp, Pl.set_set] at this
        exact this
  · rw [if_neg c1]
    unfold Crs.addC
    by_cases c3 : (p.c i).last.e = e ∧ (p.c i).last.l = l ∧ (p.c i).last.r = r
    · rw [if_pos c3]
      have := t40e h hL hi hm (by omega : (p.c i).last.nx ≤ now) e l r c3
      rwa [show p.set i (p.c i) = p from by
        show Pl.mk p.now (upd p.c i (p.c i)) = p
        rw [show upd p.c i (p.c i) = p.c from funext fun j => by
          by_cases q : j = i
          · subst q; exact upd_at _ _ _
          · exact upd_ne _ _ q]]
    · rw [if_neg c3]
      obtain ⟨b1, b2, b3⟩ := hr _ (hmem _)
      exact t40c h hL hi hm b1 (by omega) h2 b2 b3 e l r c3
end Go.Proofs.Ytjklaemhfhakhaa
/- Set, whole. -/
namespace Go.Proofs.Ytjklaemhfhakhaa
open Go.ChangeShapes Go.WideShapes Go.ChangeAt Go.RowKit

set_option maxHeartbeats 2000000 in
theorem t19g {w : World} {L : Ly} {n : Nat} {p : Pl} (h : PW w L n p) (hL : L.Ok n) {i : Nat} (hi : i < n) (hk : (p.c i).tl.length ≤ 1000000) (h2 : p.now ≤ 1152921504606846976) (hr : ∀ x, x ∈ (p.c i).hd :: (p.c i).tl → 0 ≤ x.nx ∧ 1 ≤ x.e ∧ x.e ≤ 1099511627776)
    (hp : ∀ t0 y, (p.c i).tl = t0 ++ [y] → (Crs.mk (p.c i).hd t0 (p.c i).done).last.nx ≤ p.now) {e l r : Int} (hm : MayT e l) : Calls Try.prog 19 #[.pointer (some ⟨L.bp, 0, none⟩), .int .i64 i, .agg #[.int .i64 e, .int .i64 l, .int .i64 r]] w (ChR w L n (p.set i ((p.c i).chg p.now e l r)) (.int .i64 0)) := by
  have H : Hid (PW w L n p) := h
  have HL : Hid (L.Ok n) := hL
  have g0 := h.p0
  have g1 := h.p1
  have l1 := h.lp
  have m1 : ¬ (i : Int) < 0 := by omega
  have m2 : ¬ (n : Int) ≤ (i : Int) := by omega
  have m3 : (i : Int) < (n : Int) := by omega
  have C25 : ∀ w, Hid (Calls Try.prog 25 #[.agg #[.int .i64 e, .int .i64 l, .int .i64 r]] w (VU w (.bool true))) := fun w => by
    have := t25 e l r w
    rw [(may_dec e l).2 hm] at this
    exact this
  have C40 : ∀ W, Hid (PW W L n p → Calls Try.prog 40 #[.pointer (some ⟨L.bt, i * 2, none⟩), .int .i64 p.now, .agg #[.int .i64 e, .int .i64 l, .int .i64 r]] W (ChR W L n (p.set i ((p.c i).chg p.now e l r)) (.tuple #[]))) := fun W hW => t40 hW HL.out hi hk h2 hr hp e l r
  clear h hL hk h2 hr hp hm
  go_enter Try.func19, Try.ntmps19
  go_upto_region 5 with (go_at_call 25; (with_reducible refine ((C25 _).out).mono ?_); rintro e w1 ⟨rfl, HU1⟩)
  have HP1 : Hid (PW w1 L n p) := H.out.up ((Up.alloc _ _).trans HU1.out)
  have HW1 : Hid (Up w w1) := (Up.alloc _ _).trans HU1.out
  have HT : Hid (TkAt w1 w.heap.size 0 ⟨e, l, r⟩) := by
    have e0 := heap_alloc_last w (.cells #[.int .i64 e, .int .i64 l, .int .i64 r] 26)
    have : TkAt (w.alloc (.cells #[.int .i64 e, .int .i64 l, .int .i64 r] 26)) w.heap.size 0 ⟨e, l, r⟩ := ⟨(row_cell e0 0).1, by rw [Nat.zero_add]; exact (row_cell e0 1).1, by rw [Nat.zero_add]; exact (row_cell e0 2).1⟩
    exact this.up HU1.out
  have k0 := HP1.out.p0
  have k1 := HP1.out.p1
  refine wp_region_up 11 [cV (.pointer (some ⟨L.bp, 0, none⟩)), cV (.pointer (some ⟨L.bp, 0, none⟩)), cV (.pointer (some ⟨L.bp, 1, none⟩)), cV (.slice (some ⟨L.bt, 0, none⟩) n n), cV (.int .i64 i), cV (.pointer (some ⟨L.bt, i * 2, none⟩)), cV (.pointer (some ⟨L.bp, 0, none⟩)), cV (.pointer (some ⟨L.bp, 0, none⟩)), cV (.pointer (some ⟨L.bp, 0, none⟩)), cV (.int .i64 p.now), cV (.agg #[.int .i64 e, .int .i64 l, .int .i64 r])] (by kernel_rfl) (by decide) rfl (by kernel_rfl) (by kernel_rfl) ⟨mV _, mV _, mV _, mV _, mV _, mV _, mV _, mV _, mV _, mV _, mV _, trivial⟩ ?_
  intro vals
  simp only [List.take_succ_cons, List.take_zero, valsN, FillL, Act.put, List.setIfInBounds_toArray, List.set_cons_succ, List.set_cons_zero, Nat.zero_add, Nat.reduceAdd]
  refine ⟨⟨fun v hu h => ?_, fun v hu h => ?_, fun v hu h => ?_, fun v hu h => ?_, fun v hu h => ?_, fun v hu h => ?_, fun v hu h => ?_, fun v hu h => ?_, fun v hu h => ?_, fun v hu h => ?_, fun v hu h => ?_, trivial⟩, fun v hu h => ?_⟩
  all_goals have h0 := hu
  · refine UpO.is _ rfl rfl ?_
    go_simp
  · have e0 : vals 0 = .pointer (some ⟨L.bp, 0, none⟩) := h 0 (by decide) (by kernel_rfl)
    refine UpO.is _ rfl rfl ?_
    rw [e0]
    go_simp
  · have e1 : vals 1 = .pointer (some ⟨L.bp, 0, none⟩) := h 1 (by decide) (by kernel_rfl)
    refine UpO.is _ rfl rfl ?_
    rw [e1]
    go_simp
  · have e2 : vals 2 = .pointer (some ⟨L.bp, 1, none⟩) := h 2 (by decide) (by kernel_rfl)
    have z := cell_up k1 h0
    refine UpO.is _ rfl rfl ?_
    rw [e2]
    go_simp
  · refine UpO.is _ rfl rfl ?_
    go_simp
  · have e3 : vals 3 = .slice (some ⟨L.bt, 0, none⟩) n n := h 3 (by decide) (by kernel_rfl)
    have e4 : vals 4 = .int .i64 i := h 4 (by decide) (by kernel_rfl)
    refine UpO.is _ rfl rfl ?_
    rw [e3, e4]
    go_simp
  · refine UpO.is _ rfl rfl ?_
    go_simp
  · have e6 : vals 6 = .pointer (some ⟨L.bp, 0, none⟩) := h 6 (by decide) (by kernel_rfl)
    refine UpO.is _ rfl rfl ?_
    rw [e6]
    go_simp
  · have e7 : vals 7 = .pointer (some ⟨L.bp, 0, none⟩) := h 7 (by decide) (by kernel_rfl)
    refine UpO.is _ rfl rfl ?_
    rw [e7]
    go_simp
  · have e8 : vals 8 = .pointer (some ⟨L.bp, 0, none⟩) := h 8 (by decide) (by kernel_rfl)
    have z := cell_up k0 h0
    refine UpO.is _ rfl rfl ?_
    rw [e8]
    go_simp
  · obtain ⟨t0, t1, t2⟩ := HT.out.up h0
    simp only [Nat.zero_add] at t0 t1 t2
    refine UpO.is _ rfl rfl ?_
    go_simp
  · have e5 : vals 5 = .pointer (some ⟨L.bt, i * 2, none⟩) := h 5 (by decide)
    have e9 : vals 9 = .int .i64 p.now := h 9 (by decide)
    have e10 : vals 10 = .agg #[.int .i64 e, .int .i64 l, .int .i64 r] := h 10 (by decide)
    clear h
    rw [e5, e9, e10]
    clear e5 e9 e10
    simp only [List.drop_succ_cons, List.drop_zero]
    have HPV : Hid (PW v L n p) := HP1.out.up hu
    have HUV : Hid (Up w v) := HW1.out.trans hu
    go_wp2_with (go_at_call 40; (with_reducible refine ((C40 _).out HPV.out).mono ?_); rintro e w3 ⟨rfl, L2, HP3, HK3⟩)
    go_ret
    exact ⟨rfl, L2, HP3, KeptG.after HUV.out HK3.out⟩
end Go.Proofs.Ytjklaemhfhakhaa
/- Both plans beside each other: what a Set keeps. No program. -/
namespace Go.Proofs.Ytjklaemhfhakhaa

theorem chain_le {nx : Int} : ∀ {w : List Jr}, chain nx w → (∀ j ∈ w, 1 ≤ j.k ∧ 1 ≤ j.e) → ∀ j ∈ w, j.f ≤ nx
  | [], _, _, _, hj => by cases hj
  | [j], h, hm, i, hi => by
    obtain rfl : i = j := by simpa using hi
    obtain ⟨a, b⟩ := hm i hi
    have := Int.mul_nonneg (show 0 ≤ i.k by omega) (show 0 ≤ i.e by omega)
    have h' : i.f + i.k * i.e = nx := h
    omega
  | j :: j' :: t, h, hm, i, hi => by
    have ih := chain_le (w := j' :: t) h.2 (fun q hq => hm q (List.mem_cons_of_mem _ hq))
    rcases List.mem_cons.1 hi with rfl | q
    · obtain ⟨a, b⟩ := hm i hi
      have := Int.mul_nonneg (show 0 ≤ i.k by omega) (show 0 ≤ i.e by omega)
      have h' : i.f + i.k * i.e = j'.f := h.1
      have := ih j' List.mem_cons_self
      omega
    · exact ih i q
theorem past_le {nx a : Int} : ∀ {w : List Jr}, chain nx w → past a w → (∀ j ∈ w, 1 ≤ j.k ∧ 1 ≤ j.e) → ∀ j ∈ w, j.f ≤ a
  | [], _, _, _, _, hj => by cases hj
  | [j], _, h, hm, i, hi => by
    obtain rfl : i = j := by simpa using hi
    obtain ⟨a1, b⟩ := hm i hi
    have := Int.mul_nonneg (show 0 ≤ i.k - 1 by omega) (show 0 ≤ i.e by omega)
    have h' : i.f + (i.k - 1) * i.e ≤ a := h
    omega
  | j :: j' :: t, h, hp, hm, i, hi => by
    have ih := past_le (w := j' :: t) h.2 hp (fun q hq => hm q (List.mem_cons_of_mem _ hq))
    rcases List.mem_cons.1 hi with rfl | q
    · obtain ⟨a1, b⟩ := hm i hi
      have := Int.mul_nonneg (show 0 ≤ i.k by omega) (show 0 ≤ i.e by omega)
      have h' : i.f + i.k * i.e = j'.f := h.1
      have := ih j' List.mem_cons_self
      omega
    · exact ih i q
theorem On.Ok.ke {x : On} {a : Int} (h : x.Ok a) : ∀ j ∈ x.w, 1 ≤ j.k ∧ 1 ≤ j.e := fun j hj => by
  obtain ⟨⟨m1, m2, m3⟩, k1, k2⟩ := h.jm j hj
  exact ⟨k1, by omega⟩
theorem On.Ok.rows {x : On} {a : Int} (h : x.Ok a) : ∀ y ∈ x.rws, y.Ok := fun y hy => by
  unfold On.rws at hy
  rcases List.mem_append.1 hy with q | q
  · obtain ⟨j, hj, rfl⟩ := List.mem_map.1 q
    have := chain_le h.ch h.ke j hj
    obtain ⟨m, k1, k2⟩ := h.jm j hj
    have h2 := h.lo
    exact ⟨m, k2, by show j.f ≤ _; omega⟩
  · by_cases c : x.same = true
    · rw [if_pos c] at q; cases q
    · rw [if_neg c] at q
      obtain rfl : y = x.cur := by simpa using q
      exact ⟨h.may, h.lo.1, h.lo.2⟩
/-- A task of the program's plan is as it should be because the document's is. -/
theorem Abs.crs {x : On} {c : Crs} {a : Int} (h : Abs x c) (ho : x.Ok a) (hf : c.tl.length ≤ 1152921504606846976) : c.Ok := by
  have hr : ∀ y ∈ c.hd :: c.tl, y.Ok := by rw [h.rows]; exact ho.rows
  have hd := h.done
  have e := h.rows
  refine ⟨hr _ List.mem_cons_self, fun y hy => hr y (List.mem_cons_of_mem _ hy), hf, ?_, ?_⟩
  · cases hw : x.w with
    | nil => simp only [On.dn, hw] at hd; omega
    | cons j t =>
      simp only [On.dn, hw] at hd
      have := ho.lf j t hw
      omega
  · cases hw : x.w with
    | nil =>
      simp only [On.dn, hw] at hd
      obtain ⟨m1, m2, m3⟩ := (hr _ List.mem_cons_self).may
      omega
    | cons j t =>
      simp only [On.dn, hw] at hd
      unfold On.rws at e
      rw [hw, List.map_cons, List.cons_append, List.cons.injEq] at e
      have := ho.lf j t hw
      rw [e.1]
      show c.done < j.l
      omega
/-- Of the rows all but the last have begun. -/
theorem Abs.begun {x : On} {c : Crs} {a : Int} (h : Abs x c) (ho : x.Ok a) {t0 : List Rw} {y : Rw} (hx : c.tl = t0 ++ [y]) : (Crs.mk c.hd t0 c.done).last.nx ≤ a := by
  have hin : (Crs.mk c.hd t0 c.done).last ∈ c.hd :: t0 := by unfold Crs.last; exact List.getLast_mem _
  have e := h.rows
  rw [hx, ← List.cons_append] at e
  have hd : c.hd :: t0 = x.rws.dropLast := by rw [← e, List.dropLast_concat]
  rw [hd] at hin
  have hw : ∀ z ∈ x.rws.dropLast, z ∈ x.w.map Jr.rw := by
    intro z hz
    unfold On.rws at hz
    by_cases q : x.same = true
    · rw [if_pos q, List.append_nil] at hz
      exact List.dropLast_subset _ hz
    · rw [if_neg q, List.dropLast_concat] at hz
      exact hz
  obtain ⟨j, hj, e2⟩ := List.mem_map.1 (hw _ hin)
  rw [← e2]
  exact past_le ho.ch ho.pa ho.ke j hj
/-- Both plans are one. -/
structure Two (n N : Nat) (p : Pl) (X : Nat → On) : Prop where
  now : 0 ≤ p.now ∧ p.now ≤ 1152921504606846976
  ab : AllAbs n X p
  ok : ∀ i, i < n → (X i).Ok p.now
  few : Few n N p
theorem Two.pb {n N : Nat} {p : Pl} {X : Nat → On} (h : Two n N p X) (hN : N ≤ 1000000) : PB n p :=
  ⟨h.now, fun i hi => (h.ab i hi).crs (h.ok i hi) (Nat.le_trans (h.few i hi) (by omega))⟩
theorem chg_len (c : Crs) (a e l r : Int) : (c.chg a e l r).tl.length ≤ c.tl.length + 1 := by
  have h : ∀ d : Crs, (d.addC a e l r).tl.length ≤ d.tl.length + 1 := fun d => by
    unfold Crs.addC
    split
    · omega
    · show (d.tl ++ [_]).length ≤ _
      simp
  unfold Crs.chg
  split
  · split
    · simp
    · have := h (Crs.mk c.hd c.tl.dropLast c.done)
      simp only [List.length_dropLast] at this
      omega
  · exact h c
theorem Two.set {n N : Nat} {p : Pl} {X : Nat → On} (h : Two n N p X) {i : Nat} (hi : i < n) {e l : Int} (r : Int) (hm : MayT e l) : Two n (N + 1) (p.set i ((p.c i).chg p.now e l r)) (upd (relX X p.now n) i (setO (relX X p.now n i) e l r)) := by
  have hR : ∀ j, j < n → (relX X p.now n j).Ok p.now ∧ p.now < (relX X p.now n j).nx ∧ Abs (relX X p.now n j) (p.c j) := fun j hj => by
    rw [relX_eq hj]
    have := relO_ok (h.ok j hj) (Int.le_refl _) h.now.2
    exact ⟨this.1, this.2, relO_abs (h.ab j hj) _⟩
  refine ⟨h.now, fun j hj => ?_, fun j hj => ?_, fun j hj => ?_⟩
  · by_cases q : j = i
    · subst q
      obtain ⟨a1, a2, a3⟩ := hR j hj
      rw [Pl.set_at, upd_at]
      obtain ⟨b1, b2⟩ := (p.c j).chg_list p.now e l r
      refine ⟨?_, ?_⟩
      · rw [b1, set_rows a1 a2, a3.rows]
      · rw [b2, a3.done]
        rfl
    · rw [Pl.set_ne _ _ q, upd_ne _ _ q]
      exact (hR j hj).2.2
  · show (upd (relX X p.now n) i _ j).Ok p.now
    by_cases q : j = i
    · subst q
      rw [upd_at]
      exact set_ok (hR j hj).1 r hm
    · rw [upd_ne _ _ q]
      exact (hR j hj).1
  · by_cases q : j = i
    · subst q
      rw [Pl.set_at]
      exact Nat.le_trans (chg_len _ _ _ _ _) (Nat.succ_le_succ (h.few j hj))
    · rw [Pl.set_ne _ _ q]
      exact Nat.le_succ_of_le (h.few j hj)
end Go.Proofs.Ytjklaemhfhakhaa
/- Both plans in one memory, their blocks apart. No program. -/
namespace Go.Proofs.Ytjklaemhfhakhaa
open Go.ChangeShapes Go.WideShapes Go.ChangeAt Go.RowKit

def Aside (L : Ly) (M : RL) (n : Nat) : Prop := ∀ b, L.Own n b → ¬ M.Own n b
theorem PW.own_less {w : World} {L : Ly} {n : Nat} {p : Pl} (h : PW w L n p) {g : Nat} (hg : L.Own n g) : g < w.heap.size := by
  rcases hg with rfl | rfl | ⟨i, hi, rfl⟩
  · exact h.lp
  · exact h.lt
  · exact h.lr hi
/-- The program's plan has been turned. -/
theorem Aside.left {w w1 : World} {L L' : Ly} {M : RL} {n : Nat} {a : Int} {X : Nat → On} (hA : Aside L M n) (hR : RW w M n a X) (k : KeptG n w w1 L L') : RW w1 M n a X ∧ Aside L' M n :=
  ⟨hR.kp k.kp (fun g hg q => hA g q hg), fun b hb hm => by
    rcases k.own b hb with q | q
    · exact hA b q hm
    · exact absurd (hR.own_lt hm) (by omega)⟩
/-- The document's plan has been turned. -/
theorem Aside.right {w w1 : World} {L : Ly} {M M' : RL} {n : Nat} {p : Pl} (hA : Aside L M n) (hP : PW w L n p) (k : RKept n w w1 M M') : PW w1 L n p ∧ Aside L M' n :=
  ⟨hP.kp k.kp (fun g hg q => hA g hg q), fun b hb hm => by
    rcases k.own b hm with q | q
    · exact hA b hb q
    · exact absurd (hP.own_less hb) (by omega)⟩
/-- Both plans lie in memory and are one. -/
structure Both (w : World) (L : Ly) (M : RL) (n N : Nat) (p : Pl) (X : Nat → On) : Prop where
  pw : PW w L n p
  lo : L.Ok n
  rw' : RW w M n p.now X
  mo : M.Ok n
  ap : Aside L M n
  two : Two n N p X
theorem Both.up {w w' : World} {L : Ly} {M : RL} {n N : Nat} {p : Pl} {X : Nat → On} (h : Both w L M n N p X) (hu : Up w w') : Both w' L M n N p X := ⟨h.pw.up hu, h.lo, h.rw'.up hu, h.mo, h.ap, h.two⟩
theorem Both.rq {w : World} {L : Ly} {M : RL} {n N : Nat} {p : Pl} {X : Nat → On} (h : Both w L M n N p X) (hN : N ≤ 1000000) : RQ w M n p X := ⟨h.rw', h.two.ab, h.two.ok, h.two.pb hN⟩
/-- Set, the program's. -/
theorem Both.set19 {w : World} {L : Ly} {n N : Nat} {p : Pl} {X : Nat → On} (h : Two n N p X) (hN : N ≤ 1000000) (hP : PW w L n p) (hL : L.Ok n) {i : Nat} (hi : i < n) {e l r : Int} (hm : MayT e l) : Calls Try.prog 19 #[.pointer (some ⟨L.bp, 0, none⟩), .int .i64 i, .agg #[.int .i64 e, .int .i64 l, .int .i64 r]] w (ChR w L n (p.set i ((p.c i).chg p.now e l r)) (.int .i64 0)) :=
  t19g hP hL hi (Nat.le_trans (h.few i hi) hN) h.now.2 (fun x hx => by
    have hb := (h.pb hN).c i hi
    have : x.Ok := by
      rcases List.mem_cons.1 hx with rfl | q
      · exact hb.hd
      · exact hb.tl x q
    obtain ⟨m1, m2, m3⟩ := this.may
    exact ⟨this.lo, by omega, m3⟩) (fun t0 y hx => (h.ab i hi).begun (h.ok i hi) hx) hm
theorem Few.until {n N : Nat} {T : Int} : ∀ {k : Nat} {p : Pl}, Few n N p → Few n N (untilN n T k p).2
  | 0, _, h => h
  | k + 1, p, h => by
    rw [untilN]
    split
    · split
      · exact h
      · exact Few.until (k := k) (h.go _ _ _)
    · exact h
/-- Slices told one behind the other lie apart. -/
theorem SO.apart {b1 b2 : Nat} {w w2 : World} {v1 v2 : Value} {D1 D2 : List Sl} (h1 : SO b1 w v1 D1) (h2 : SO b2 w2 v2 D2) (hb : w.heap.size ≤ b2) : ∀ r, v2.ownBlock = some r → some r ≠ v1.ownBlock := fun r hr e => by
  have a := (World.ownsRow.lt h2 r hr).1
  have b := (World.ownsRow.lt h1 r e.symm).2
  omega
end Go.Proofs.Ytjklaemhfhakhaa
