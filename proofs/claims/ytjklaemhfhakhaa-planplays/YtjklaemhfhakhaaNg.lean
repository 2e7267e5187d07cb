/- run: a stretch is done up to its end (the document's). -/
import Derived.Test.YtjklaemhfhakhaaNf
import Derived.Deep.Upon
namespace Go.Proofs.Ytjklaemhfhakhaa
open Go.ChangeShapes Go.WideShapes Go.ChangeAt Go.RowKit

/-- One number of what waits has been written. -/
theorem RW.jset {V : World} {L : RL} {n : Nat} {a : Int} {X : Nat → On} (h : RW V L n a X) (hL : L.Ok n) {i : Nat} (hi : i < n) {c m g o : Nat} (hV : L.V i = .slice (some ⟨g, 0, none⟩) m c) {E : List Jr} (hl : E.length = (X i).w.length) {y : Value} (hs : (fl5 (X i).w).set o y = fl5 E) (hm : (X i).w.length = m) :
    RW (V.setCell ⟨g, o, none⟩ y) L n a (upd X i { X i with w := E }) ∧ RKept n V (V.setCell ⟨g, o, none⟩ y) L L := by
  have hg : g ≠ L.bl := (hL.vp i hi g (by rw [hV]; simp [Value.ownBlock])).2
  have hkp : Kp (fun b => b ≠ g) V (V.setCell ⟨g, o, none⟩ y) := Kp.set _ _ (fun q => q rfl) _
  have hw := h.wt i hi
  have := h.one hL hi (x' := { X i with w := E }) (v' := L.V i) (hkp.mono (fun b _ q e => q.2 (by rw [hV, e]; simp [Value.ownBlock]))) (fun j' _ _ k' _ => World.cell?_setCell_other _ _ _ _ (fun e => by simp only [Addr.mk.injEq] at e; exact hg e.1)) (by
      have o := (h.at' i hi).kp hkp (fun e => hg e.symm)
      exact ⟨o.e, o.l, o.r, o.nx, o.wv, o.lf⟩) (by
      rw [hV] at hw ⊢
      unfold JO at hw ⊢
      rw [hl, ← hs, hm]
      rw [hm] at hw
      exact (World.ownsRow.stored hw o _).1) (fun k' => by rw [World.frozen?_setCell]; exact h.fl (by omega) k') (fun g' e => Or.inl e)
  rwa [RL.setV_self] at this
/-- A copy of what waits behind the first. -/
theorem run_tail {w : World} (ty : TypeId) {g cv m : Nat} {j : Jr} {t : List Jr} (h : JO w (.slice (some ⟨g, 0, none⟩) (m + 1) cv) (j :: t)) (hm : m ≤ 2000000) (q : Option Addr) (c : Nat) (hq : 0 < m → q = some ⟨g, 5, none⟩) :
    ∃ g' c' w', (Builtin.append_ #[74, 74] ty #[.slice (some ⟨w.heap.size, 0, none⟩) 0 0, .slice q m c]).run Try.prog (w.alloc (.cells #[] 114)) = .ok (.slice (some ⟨g', 0, none⟩) m c') w' ∧ JO w' (.slice (some ⟨g', 0, none⟩) m c') t ∧ Up w w' ∧ w.heap.size ≤ g' := by
  obtain ⟨i0, hi, hz0, hz1, hz2⟩ := info_parts info114
  have hl : t.length = m := by
    obtain ⟨p', c', e, _⟩ := h.form
    simp only [Value.slice.injEq, List.length_cons] at e
    omega
  have hown : (w.alloc (.cells #[] 114)).ownsRow w.heap.size 114 5 (.slice (some ⟨w.heap.size, 0, none⟩) 0 0) 0 [] := by
    have := World.ownsRow_lit (base := w.heap.size) (e := 114) (size := 5) w #[] 0 (Nat.le_refl _) (by unfold maxLen; omega) (by simp)
    simpa using this
  rcases Nat.eq_zero_or_pos m with rfl | hp
  · have ht : t = [] := List.length_eq_zero_iff.1 hl
    subst ht
    refine ⟨w.heap.size, 0, w.alloc (.cells #[] 114), ?_, ?_, Up.alloc _ _, Nat.le_refl _⟩
    · refine run_append_nothing _ 74 74 ty 114 i0 Try.underlying74 hi _ 0 0 (Nat.le_refl _) _ ?_
      cases q with
      | none => exact Src.ofNil _ Try.underlying74 c
      | some a => exact Src.ofSlice _ Try.underlying74 a 0 c [] (by simp) (fun j u h => by simp at h) (fun u h => by cases h)
    · exact owns_base hown (Nat.zero_le _)
  · have hq' := hq hp
    subst hq'
    have hnews : ∀ (k : Nat) (u : Value), (fl5 t)[k]? = some u → (w.alloc (.cells #[] 114)).cell? ((⟨g, 5, none⟩ : Addr).add k) = some u := by
      intro k u hk
      rw [addr_add]
      have hk5 : k < t.length * 5 := by
        rw [← fl5_len]
        rcases Nat.lt_or_ge k (fl5 t).length with q | q
        · exact q
        · rw [List.getElem?_eq_none q] at hk; cases hk
      have h0 : w.cell? ⟨g, 5 + k, none⟩ = some u := by
        have hh := h
        unfold JO at hh
        rw [List.length_cons, hl] at hh
        rw [World.ownsRow.cellAt hh (5 + k) (by omega), fl5_cons, List.getElem?_append_right (by show 5 ≤ 5 + k; omega)]
        rw [show 5 + k - (jL j).length = k by simp [jL]]
        exact hk
      exact cell_up h0 (Up.alloc _ _)
    obtain ⟨g', cap, w', k1, k2, k3, k4, _⟩ := run_append_lies (P := Try.prog) (w.alloc (.cells #[] 114)) 74 ty w.heap.size 114 i0 (.agg #[.int .i64 0, .int .i64 0, .int .i64 0, .int .i64 0, .int .i64 0]) 5 40 Try.underlying74 hi hz0 hz1 hz2 rfl (by decide) (.slice (some ⟨w.heap.size, 0, none⟩) 0 0) 0 [] hown ⟨g, 5, none⟩ m c (fl5 t) (by rw [fl5_len, hl]) hnews (fl5_one t) hp (by unfold maxLen; omega) (by omega) (Up.alloc w _).size _ rfl
    refine ⟨g', cap, w', ?_, ?_, ?_, (World.ownsRow.lt k2 g' (by simp [Value.ownBlock])).1⟩
    · rw [Nat.zero_add] at k1; exact k1
    · rw [Nat.zero_add, List.nil_append] at k2
      unfold JO
      rw [hl]
      exact owns_base k2 (Nat.zero_le _)
    · have hk := ((Kp.of_up (F := fun b => b < w.heap.size) (Up.alloc w (.cells #[] 114))).two (Kp.grown k3) (fun b hb _ e => by
        have : w.heap.size = b := by simpa [Value.ownBlock] using e.symm
        omega))
      exact hk.up (fun b hb => hb)
theorem wpList_tail {ops : Array Oper} {rest : List Oper} {o : Oper} {a : Act} {w : World} {Q : Exit → Act → World → Prop} (hgd : o.guard = none) (s x : Operand) (ho : o.op = .call { callee := .builtin .append, args := #[s, x], argTypes := #[74, 74] })
    {g cv m : Nat} {j : Jr} {t : List Jr} (hJ : JO w (.slice (some ⟨g, 0, none⟩) (m + 1) cv) (j :: t)) (hm : m ≤ 2000000) (q : Option Addr) (c : Nat) (hq : 0 < m → q = some ⟨g, 5, none⟩) (hs : a.eval s = .slice (some ⟨w.heap.size, 0, none⟩) 0 0) (hx : a.eval x = .slice q m c)
    (h : ∀ g' c' w', Hid (JO w' (.slice (some ⟨g', 0, none⟩) m c') t) → Hid (Up w w') → Hid (w.heap.size ≤ g') → wpList Try.prog ops Q rest (a.put o.dst (.slice (some ⟨g', 0, none⟩) m c')) w') : wpList Try.prog ops Q (o :: rest) a (w.alloc (.cells #[] 114)) := by
  refine wpList_plain hgd fun K hK => ?_
  obtain ⟨g', c', w', h1, h2, h3, h4⟩ := run_tail o.type hJ hm q c hq
  unfold Oper.wp execOp
  simp only [ho, resolve, invoke, builtin, Sem.run_bind, Sem.run_pure, Result.andThen_ok, List.map_toArray, List.map_cons, List.map_nil, hs, hx, h1]
  exact hK _ _ (h g' c' w' h2 h3 h4)
/-- What waits lies anew. -/
theorem RW.fresh {V w5 : World} {L : RL} {n : Nat} {a : Int} {X : Nat → On} (h : RW V L n a X) (hL : L.Ok n) {i : Nat} (hi : i < n) {g c' k : Nat} {E : List Jr} (hu : Up V w5) (hJ : JO w5 (.slice (some ⟨g, 0, none⟩) k c') E) (hb : V.heap.size ≤ g) :
    RW (w5.setCell ⟨L.bl, i * 6 + 4, none⟩ (.slice (some ⟨g, 0, none⟩) k c')) (L.setV i (.slice (some ⟨g, 0, none⟩) k c')) n a (upd X i { X i with w := E }) ∧ RKept n V (w5.setCell ⟨L.bl, i * 6 + 4, none⟩ (.slice (some ⟨g, 0, none⟩) k c')) L (L.setV i (.slice (some ⟨g, 0, none⟩) k c')) := by
  have hll := h.ll (by omega)
  have hgb : g ≠ L.bl := by omega
  have hon : OnAt w5 L.bl (i * 6) (X i) (L.V i) := (h.at' i hi).up hu
  refine h.one hL hi ?_ (fun j hj hji k' hk' => ?_) (hon.setW _ E) ?_ (fun k' => ?_) (fun g' e => ?_)
  · exact (Kp.of_up hu).setCell (fun q => q.1 rfl) _
  · rw [World.cell?_setCell_other _ _ _ _ (fun e => by simp only [Addr.mk.injEq] at e; omega)]
    exact World.cell?_of_block (a := ⟨L.bl, j * 6 + k', none⟩) (hu.block L.bl hll)
  · exact hJ.kp (Kp.set (fun b => b ≠ L.bl) _ (fun q => q rfl) _) (fun r hr => by
      have : g = r := by simpa [Value.ownBlock] using hr
      omega)
  · rw [World.frozen?_setCell]
    exact (h.up hu).fl (by omega) k'
  · have : g = g' := by simpa [Value.ownBlock] using e
    subst this
    exact Or.inr hb
set_option maxRecDepth 200000 in
set_option maxHeartbeats 16000000 in
theorem t43 {w : World} {L : RL} {n : Nat} {a : Int} {X : Nat → On} (h : RW w L n a X) (hL : L.Ok n) (hn : n ≤ 256) {m : Nat} (hm : m < n) {b : Int} (ho : (X m).Ok b) (hb : b ≤ 1152921504606846976) (hw : (X m).w ≠ []) (hlen : (X m).w.length ≤ 1000000) {f c : Int} (hf : 0 ≤ f) (hfc : f ≤ c) (hc : c ≤ 2305843009213693952) (hd : c - f ≤ (X m).lf) (late : Bool) : Calls Try.prog 43 #[.pointer (some ⟨L.bp, 0, none⟩), .agg #[.int .i64 m, .int .i64 f, .int .i64 c, .bool late]] w (RelR w L n c (upd X m (runO (X m) (c - f)))) := by
  have HU0 : Hid (Up w (w.alloc (.cells #[.int .i64 m, .int .i64 f, .int .i64 c, .bool late] 42))) := Up.alloc _ _
  have HS0 : Hid (SAt (w.alloc (.cells #[.int .i64 m, .int .i64 f, .int .i64 c, .bool late] 42)) w.heap.size ⟨m, f, c, late⟩) := SAt.of (heap_alloc_last w _)
  have HW0 : Hid (RW (w.alloc (.cells #[.int .i64 m, .int .i64 f, .int .i64 c, .bool late] 42)) L n a X) := h.up HU0.out
  have HK0 : Hid (RKept n w (w.alloc (.cells #[.int .i64 m, .int .i64 f, .int .i64 c, .bool late] 42)) L L) := RKept.of_up hL HU0.out
  have HNG : Hid (¬ L.Own n w.heap.size) := fun q => Nat.lt_irrefl _ (h.own_lt q)
  clear h hL
  obtain ⟨xx, hxx⟩ : ∃ xx, X m = xx := ⟨_, rfl⟩
  have HX : Hid (X m = xx) := hxx
  rw [hxx] at ho hw hlen hd
  obtain ⟨e, l, r, nx, D, lf⟩ := xx
  obtain ⟨j, t, rfl⟩ : ∃ j t, D = j :: t := by cases D with | nil => exact absurd rfl hw | cons j t => exact ⟨j, t, rfl⟩
  have HO : Hid (On.Ok ⟨e, l, r, nx, j :: t, lf⟩ b) := ho
  obtain ⟨lf1, lf2⟩ := ho.lf j t rfl
  obtain ⟨⟨j1, j2, j3⟩, jk, jf⟩ := ho.jm j (by simp)
  have jfb := ho.head rfl
  have HXL : Hid (X m = ⟨e, l, r, nx, j :: t, lf⟩) := hxx
  have hch := ho.ch
  have hkb : j.k ≤ 1152922604118474752 := by
    have h1 : j.k ≤ j.k * j.e := by
      have := Int.mul_le_mul_of_nonneg_left (show 1 ≤ j.e by omega) (show 0 ≤ j.k by omega)
      omega
    have h2 := ho.lo
    simp only at h2
    cases t with
    | nil =>
      have h3 : j.f + j.k * j.e = nx := hch
      omega
    | cons j' u =>
      have h3 : j.f + j.k * j.e = j'.f := hch.1
      have h4 : past b (j' :: u) := ho.pa
      have h5 := past_head (w := j' :: u) (nx := nx) rfl h4 hch.2 (fun y hy => ho.jm y (List.mem_cons_of_mem _ hy))
      omega
  clear ho hw hxx hch
  try simp only at lf1 lf2 hd hlen
  obtain ⟨jf', jk', je, jl, jr⟩ := j
  try simp only at lf1 lf2 j1 j2 j3 jk jf jfb hkb
  obtain ⟨pv, cv, hv, hcap, hpp⟩ := (HW0.out.wt m hm).form
  rw [HX.out] at hv hcap hpp
  try simp only [List.length_cons] at hv hcap hpp hlen
  obtain ⟨gv, rfl, -⟩ := hpp (by omega)
  have HV : Hid (L.V m = .slice (some ⟨gv, 0, none⟩) (t.length + 1) cv) := hv
  obtain ⟨T, hT⟩ : ∃ T, t.length = T := ⟨_, rfl⟩
  have HT : Hid (t.length = T) := hT
  rw [hT] at hlen hcap
  clear hv hpp hT
  have p0 := HW0.out.p0
  have p1 := HW0.out.p1
  have p9 := HW0.out.lt
  have fp1 := HW0.out.fp 1
  rw [HW0.out.ps (by omega)] at p0
  have hll := HW0.out.ll (by omega)
  have flf := HW0.out.fl (by omega) (m * 6 + 5)
  have x5 := (HW0.out.at' m hm).lf
  rw [HX.out] at x5
  try simp only at x5
  obtain ⟨s0, s1, s2, s3, -⟩ := HS0.out
  have lS := HS0.out.lt
  try simp only at s0 s1 s2 s3
  have b0 : (m : Int) < (n : Int) := by omega
  have b1 : (0 : Int) ≤ (m : Int) := by omega
  have d1 : IntKind.i64.wrap (c - f) = c - f := by rw [IntKind.wrap_i64]; omega
  have d2 : IntKind.i64.wrap (lf - (c - f)) = lf - (c - f) := by rw [IntKind.wrap_i64]; omega
  go_enter Try.func43, Try.ntmps43
  go_wp2_with fail
  generalize w.alloc (.cells #[.int .i64 m, .int .i64 f, .int .i64 c, .bool late] 42) = W0 at *
  generalize hGS : w.heap.size = GS at *
  go_region
  go_wp2_with fail
  go_region
  obtain ⟨m1, m2⟩ := HW0.out.setLf HK0.out.ok hm (lf - (c - f))
  have HW1 : Hid (RW (W0.setCell ⟨L.bl, m * 6 + 5, none⟩ (.int .i64 (lf - (c - f)))).drew.drew L n a (upd X m ⟨e, l, r, nx, ⟨jf', jk', je, jl, jr⟩ :: t, lf - (c - f)⟩)) := by
    have := (m1.up (Up.drew _)).up (Up.drew _)
    rw [HX.out] at this
    exact this
  have HK1 : Hid (RKept n w (W0.setCell ⟨L.bl, m * 6 + 5, none⟩ (.int .i64 (lf - (c - f)))).drew.drew L L) := (HK0.out.trans m2).upw ((Up.drew _).trans (Up.drew _))
  have HS1 : Hid (SAt (W0.setCell ⟨L.bl, m * 6 + 5, none⟩ (.int .i64 (lf - (c - f)))).drew.drew GS ⟨m, f, c, late⟩) := (HS0.out.kp (F := fun b => b ≠ L.bl) (Kp.set _ _ (fun q => q rfl) _) (fun e => HNG.out (Or.inr (Or.inl ⟨by omega, e⟩)))).up ((Up.drew _).trans (Up.drew _))
  have HZ : Hid (∃ z, lf - (c - f) = z) := ⟨_, rfl⟩
  clear m1 m2 HW0 HK0 HS0 HU0 p0 p1 p9 fp1 hll flf x5 s0 s1 s2 s3 lS d1 d2
  generalize (W0.setCell ⟨L.bl, m * 6 + 5, none⟩ (.int .i64 (lf - (c - f)))).drew.drew = W1 at *
  obtain ⟨z, hz⟩ := HZ.out
  have HZE : Hid (lf - (c - f) = z) := hz
  rw [hz] at HW1 ⊢
  have hz0 : 0 ≤ z := by omega
  clear hz hd
  have p1 := HW1.out.p1
  have p9 := HW1.out.lt
  have fp1 := HW1.out.fp 1
  obtain ⟨s0, s1, s2, s3, -⟩ := HS1.out
  have lS := HS1.out.lt
  try simp only at s0 s1 s2 s3
  go_upto_region 4 with fail
  obtain ⟨m1, m2⟩ := HW1.out.setA HK1.out.ok c
  have HW2 : Hid (RW (W1.setCell ⟨L.bp, 1, none⟩ (.int .i64 c)) L n c (upd X m ⟨e, l, r, nx, ⟨jf', jk', je, jl, jr⟩ :: t, z⟩)) := m1
  have HK2 : Hid (RKept n w (W1.setCell ⟨L.bp, 1, none⟩ (.int .i64 c)) L L) := HK1.out.trans m2
  clear m1 m2 HW1 HK1 HS1 p1 p9 fp1 s0 s1 s2 s3 lS
  generalize W1.setCell ⟨L.bp, 1, none⟩ (.int .i64 c) = W2 at *
  have hll := HW2.out.ll (by omega)
  obtain ⟨x0, x1, x2, x3, x4, x5⟩ := HW2.out.at' m hm
  simp only [upd_at] at x0 x1 x2 x3 x4 x5
  rw [HV.out, HT.out] at x4
  by_cases hzp : 0 < z
  · have HF : Hid (runO (X m) (c - f) = ⟨e, l, r, nx, ⟨jf', jk', je, jl, jr⟩ :: t, z⟩) := by
      show runO _ _ = _
      rw [HX.out]
      unfold runO
      simp only
      rw [if_pos (by rw [HZE.out]; exact hzp), HZE.out]
    go_wp2_with fail
    go_end0
    exact ⟨rfl, L, by rw [HF.out]; exact HW2, HK2⟩
  · obtain rfl : z = 0 := by omega
    have HV2 : Hid (L.V m = .slice (some ⟨gv, 0, none⟩) (T + 1) cv) := by rw [← HT.out]; exact HV
    have HJ2 : Hid (JO W2 (.slice (some ⟨gv, 0, none⟩) (T + 1) cv) (⟨jf', jk', je, jl, jr⟩ :: t)) := by
      have := HW2.out.wt m hm
      rw [HV2.out] at this
      simp only [upd_at] at this
      exact this
    obtain ⟨-, gq, hgq, lgv, zz, fgv⟩ := HJ2.out.get (i := 0) rfl
    simp only [Option.some.injEq, Addr.mk.injEq, and_true] at hgq
    obtain rfl := hgq
    obtain ⟨z0, z1, z2, z3, z4⟩ := zz
    simp only [Nat.zero_mul, Nat.zero_add] at z0 z1 z2 z3 z4
    have fz0 := fgv 0
    have fz1 := fgv 1
    have d3 : IntKind.i64.wrap (jf' + je) = jf' + je := by rw [IntKind.wrap_i64]; omega
    have d4 : IntKind.i64.wrap (jk' - 1) = jk' - 1 := by rw [IntKind.wrap_i64]; omega
    have q6 : (0 : Int) < ((T + 1 : Nat) : Int) := by omega
    have q7 : (0 : Int) < (T : Int) + 1 := by omega
    clear fgv
    go_wp2_with fail
    go_region
    go_upto_region 7 with fail
    have HLD : Hid (∀ y, (X m).w = y → y.length = T + 1 → True) := fun _ _ _ => trivial
    obtain ⟨m1, m2⟩ := HW2.out.jset HK2.out.ok hm HV2.out (E := ⟨jf' + je, jk', je, jl, jr⟩ :: t) (o := 0) (y := .int .i64 (jf' + je)) (by simp only [upd_at]; rfl) (by simp only [upd_at]; rfl) (by simp only [upd_at, List.length_cons]; rw [HT.out])
    obtain ⟨m3, m4⟩ := m1.jset HK2.out.ok hm HV2.out (E := ⟨jf' + je, jk' - 1, je, jl, jr⟩ :: t) (o := 1) (y := .int .i64 (jk' - 1)) (by simp only [upd_at]; rfl) (by simp only [upd_at]; rfl) (by simp only [upd_at, List.length_cons]; rw [HT.out])
    have HW3 : Hid (RW (((W2.setCell ⟨gv, 0, none⟩ (.int .i64 (jf' + je))).setCell ⟨gv, 1, none⟩ (.int .i64 (jk' - 1))).drew) L n c (upd X m ⟨e, l, r, nx, ⟨jf' + je, jk' - 1, je, jl, jr⟩ :: t, 0⟩)) := (m3.up (Up.drew _)).congr (fun i _ => by
      by_cases q : i = m
      · subst q; simp only [upd_at]
      · simp only [upd_ne _ _ q])
    have HK3 : Hid (RKept n w (((W2.setCell ⟨gv, 0, none⟩ (.int .i64 (jf' + je))).setCell ⟨gv, 1, none⟩ (.int .i64 (jk' - 1))).drew) L L) := ((HK2.out.trans m2).trans m4).upw (Up.drew _)
    clear m1 m2 m3 m4 HLD HW2 HK2 HJ2 hll x0 x1 x2 x3 x4 x5 z0 z1 z2 z3 z4 lgv fz0 fz1
    generalize ((W2.setCell ⟨gv, 0, none⟩ (.int .i64 (jf' + je))).setCell ⟨gv, 1, none⟩ (.int .i64 (jk' - 1))).drew = W3 at *
    have hll := HW3.out.ll (by omega)
    have flf := HW3.out.fl (by omega) (m * 6 + 5)
    have flw := HW3.out.fl (by omega) (m * 6 + 4)
    obtain ⟨x0, x1, x2, x3, x4, x5⟩ := HW3.out.at' m hm
    simp only [upd_at] at x0 x1 x2 x3 x4 x5
    rw [HV2.out] at x4
    have HJ3 : Hid (JO W3 (.slice (some ⟨gv, 0, none⟩) (T + 1) cv) (⟨jf' + je, jk' - 1, je, jl, jr⟩ :: t)) := by
      have := HW3.out.wt m hm
      rw [HV2.out] at this
      simp only [upd_at] at this
      exact this
    obtain ⟨-, gq, hgq, lgv, zz, fgv⟩ := HJ3.out.get (i := 0) rfl
    simp only [Option.some.injEq, Addr.mk.injEq, and_true] at hgq
    obtain rfl := hgq
    obtain ⟨z0, z1, z2, z3, z4⟩ := zz
    simp only [Nat.zero_mul, Nat.zero_add] at z0 z1 z2 z3 z4
    clear fgv
    by_cases hk1 : jk' - 1 = 0
    · cases t with
      | nil =>
        obtain rfl : T = 0 := HT.out.symm
        have HF : Hid (runO (X m) (c - f) = ⟨e, l, r, nx, [], 0⟩) := by
          show runO _ _ = _
          rw [HX.out]
          unfold runO
          simp only
          rw [if_neg (by rw [HZE.out]; omega), if_pos hk1, HZE.out]
        have q8 : (1 : Int) ≤ (cv : Int) := by omega
        have q9 : 1 ≤ cv := by omega
        by_cases hcv : cv = 1
        · subst hcv
          go_wp2_with (first | (at_builtin; (with_reducible refine wpList_tail rfl _ _ rfl HJ3.out (by omega) _ _ (fun h => absurd h (by omega)) rfl rfl ?_); intro g' c' w5 HJ5 HU5 HG5; (have HT5 := HW3.out.fresh HK3.out.ok hm HU5.out HJ5.out HG5.out); (have HT6 : Hid _ := HT5); clear HT5; (have y4 := cell_up x4 HU5.out); (have y5 := cell_up x5 HU5.out); (have fy4 := (HW3.out.up HU5.out).fl (by omega) (m * 6 + 4)); (have yl := (HW3.out.up HU5.out).ll (by omega)); clear x0 x1 x2 x3 x4 x5 z0 z1 z2 z3 z4 flf flw hll lgv))
          go_end0
          refine ⟨rfl, _, ?_, HK3.out.trans HT6.out.2⟩
          rw [HF.out]
          exact HT6.out.1.congr (fun i _ => by
            by_cases q : i = m
            · subst q; simp only [upd_at]
            · simp only [upd_ne _ _ q])
        · have q10 : ¬ cv - 1 = 0 := by omega
          have q11 : (cv : Int) - 1 ≠ 0 := by omega
          go_wp2_with (first | (at_builtin; (with_reducible refine wpList_tail rfl _ _ rfl HJ3.out (by omega) _ _ (fun h => absurd h (by omega)) rfl rfl ?_); intro g' c' w5 HJ5 HU5 HG5; (have HT5 := HW3.out.fresh HK3.out.ok hm HU5.out HJ5.out HG5.out); (have HT6 : Hid _ := HT5); clear HT5; (have y4 := cell_up x4 HU5.out); (have y5 := cell_up x5 HU5.out); (have fy4 := (HW3.out.up HU5.out).fl (by omega) (m * 6 + 4)); (have yl := (HW3.out.up HU5.out).ll (by omega)); clear x0 x1 x2 x3 x4 x5 z0 z1 z2 z3 z4 flf flw hll lgv))
          go_end0
          refine ⟨rfl, _, ?_, HK3.out.trans HT6.out.2⟩
          rw [HF.out]
          exact HT6.out.1.congr (fun i _ => by
            by_cases q : i = m
            · subst q; simp only [upd_at]
            · simp only [upd_ne _ _ q])
      | cons j' u =>
        obtain ⟨U, rfl⟩ : ∃ U, T = U + 1 := ⟨u.length, HT.out.symm⟩
        have HF : Hid (runO (X m) (c - f) = ⟨e, l, r, nx, j' :: u, j'.l⟩) := by
          show runO _ _ = _
          rw [HX.out]
          unfold runO
          simp only
          rw [if_neg (by rw [HZE.out]; omega), if_pos hk1]
        have q8 : (1 : Int) ≤ (cv : Int) := by omega
        have q9 : 1 ≤ cv := by omega
        have q10 : ¬ cv - 1 = 0 := by omega
        have q11 : (cv : Int) - 1 ≠ 0 := by omega
        have q12 : (0 : Int) < ((U + 1 : Nat) : Int) := by omega
        have q13 : (0 : Int) < (U : Int) + 1 := by omega
        have q14 : ¬ cv = 1 := by omega
        go_wp2_with (first | (at_builtin; (with_reducible refine wpList_tail rfl _ _ rfl HJ3.out (by omega) _ _ (fun _ => rfl) rfl rfl ?_); intro g' c' w5 HJ5 HU5 HG5; (have HT5 := HW3.out.fresh HK3.out.ok hm HU5.out HJ5.out HG5.out); (have HT6 : Hid _ := HT5); clear HT5; (have y4 := cell_up x4 HU5.out); (have y5 := cell_up x5 HU5.out); (have fy4 := (HW3.out.up HU5.out).fl (by omega) (m * 6 + 4)); (have fy5 := (HW3.out.up HU5.out).fl (by omega) (m * 6 + 5)); (have yl := (HW3.out.up HU5.out).ll (by omega)); (obtain ⟨-, gq, hgq, lgq, zz, -⟩ := HJ5.out.get (i := 0) rfl); (simp only [Option.some.injEq, Addr.mk.injEq, and_true] at hgq); (obtain rfl := hgq); (have v3 := zz.l); (simp only [Nat.zero_mul, Nat.zero_add] at v3); clear zz; (have ngb : ¬ g' = L.bl := by have := HG5.out; omega); (have ngb2 : ¬ L.bl = g' := fun q => ngb q.symm); clear x0 x1 x2 x3 x4 x5 z0 z1 z2 z3 z4 flf flw hll lgv))
        go_end0
        obtain ⟨m1, m2⟩ := HT6.out.1.setLf HT6.out.2.ok hm j'.l
        refine ⟨rfl, _, ?_, (HK3.out.trans HT6.out.2).trans m2⟩
        rw [HF.out]
        exact m1.congr (fun i _ => by
          by_cases q : i = m
          · subst q; simp only [upd_at]
          · simp only [upd_ne _ _ q])
    · have HF : Hid (runO (X m) (c - f) = ⟨e, l, r, nx, ⟨jf' + je, jk' - 1, je, jl, jr⟩ :: t, jl⟩) := by
        show runO _ _ = _
        rw [HX.out]
        unfold runO
        simp only
        rw [if_neg (by rw [HZE.out]; omega), if_neg hk1]
      go_wp2_with fail
      go_end0
      obtain ⟨m1, m2⟩ := HW3.out.setLf HK3.out.ok hm jl
      refine ⟨rfl, L, ?_, HK3.out.trans m2⟩
      rw [HF.out]
      exact m1.congr (fun i _ => by
        by_cases q : i = m
        · subst q; simp only [upd_at]
        · simp only [upd_ne _ _ q])
end Go.Proofs.Ytjklaemhfhakhaa
