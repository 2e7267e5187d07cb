/- twin: the same plan anew (the document's). -/
import Derived.Test.YtjklaemhfhakhaaNj
namespace Go.Proofs.Ytjklaemhfhakhaa
open Go.ChangeShapes Go.WideShapes Go.ChangeAt Go.RowKit

/-- A copy of what waits. -/
theorem run_copyJ {w : World} (ty : TypeId) {p : Option Addr} {m c : Nat} {D : List Jr} (h : JO w (.slice p m c) D) (hm : m ≤ 2000000) :
    ∃ g' c' w', (Builtin.append_ #[74, 74] ty #[.slice (some ⟨w.heap.size, 0, none⟩) 0 0, .slice p m c]).run Try.prog (w.alloc (.cells #[] 114)) = .ok (.slice (some ⟨g', 0, none⟩) m c') w' ∧ JO w' (.slice (some ⟨g', 0, none⟩) m c') D ∧ Up w w' ∧ w.heap.size ≤ g' := by
  obtain ⟨i0, hi, hz0, hz1, hz2⟩ := info_parts info114
  obtain ⟨p', c0, e, _, hp'⟩ := h.form
  simp only [Value.slice.injEq] at e
  obtain ⟨rfl, hl, rfl⟩ := e
  have hown : (w.alloc (.cells #[] 114)).ownsRow w.heap.size 114 5 (.slice (some ⟨w.heap.size, 0, none⟩) 0 0) 0 [] := by
    have := World.ownsRow_lit (base := w.heap.size) (e := 114) (size := 5) w #[] 0 (Nat.le_refl _) (by unfold maxLen; omega) (by simp)
    simpa using this
  rcases Nat.eq_zero_or_pos m with rfl | hp
  · have ht : D = [] := List.length_eq_zero_iff.1 hl.symm
    subst ht
    refine ⟨w.heap.size, 0, w.alloc (.cells #[] 114), ?_, owns_base hown (Nat.zero_le _), Up.alloc _ _, Nat.le_refl _⟩
    refine run_append_nothing _ 74 74 ty 114 i0 Try.underlying74 hi _ 0 0 (Nat.le_refl _) _ ?_
    cases p with
    | none => exact Src.ofNil _ Try.underlying74 c
    | some a => exact Src.ofSlice _ Try.underlying74 a 0 c [] (by simp) (fun j u h => by simp at h) (fun u h => by cases h)
  · obtain ⟨g, rfl, hg⟩ := hp' (by omega)
    have hnews : ∀ (k : Nat) (u : Value), (fl5 D)[k]? = some u → (w.alloc (.cells #[] 114)).cell? ((⟨g, 0, none⟩ : Addr).add k) = some u := by
      intro k u hk
      rw [addr_add, Nat.zero_add]
      have hk5 : k < D.length * 5 := by
        rw [← fl5_len]
        rcases Nat.lt_or_ge k (fl5 D).length with q | q
        · exact q
        · rw [List.getElem?_eq_none q] at hk; cases hk
      have h0 : w.cell? ⟨g, k, none⟩ = some u := by
        have hh := h
        unfold JO at hh
        rw [← hl] at hh
        rw [World.ownsRow.cellAt hh k (by omega)]
        exact hk
      exact cell_up h0 (Up.alloc _ _)
    obtain ⟨g', cap, w', k1, k2, k3, k4, _⟩ := run_append_lies (P := Try.prog) (w.alloc (.cells #[] 114)) 74 ty w.heap.size 114 i0 (.agg #[.int .i64 0, .int .i64 0, .int .i64 0, .int .i64 0, .int .i64 0]) 5 40 Try.underlying74 hi hz0 hz1 hz2 rfl (by decide) (.slice (some ⟨w.heap.size, 0, none⟩) 0 0) 0 [] hown ⟨g, 0, none⟩ m c (fl5 D) (by rw [fl5_len, ← hl]) hnews (fl5_one D) hp (by unfold maxLen; omega) (by omega) (Up.alloc w _).size _ rfl
    refine ⟨g', cap, w', ?_, ?_, ?_, (World.ownsRow.lt k2 g' (by simp [Value.ownBlock])).1⟩
    · rw [Nat.zero_add] at k1; exact k1
    · rw [Nat.zero_add, List.nil_append] at k2
      unfold JO
      rw [← hl]
      exact owns_base k2 (Nat.zero_le _)
    · have hk := ((Kp.of_up (F := fun b => b < w.heap.size) (Up.alloc w (.cells #[] 114))).two (Kp.grown k3) (fun b hb _ e => by
        have : w.heap.size = b := by simpa [Value.ownBlock] using e.symm
        omega))
      exact hk.up (fun b hb => hb)
theorem wpList_copyJ {ops : Array Oper} {rest : List Oper} {o : Oper} {a : Act} {w : World} {Q : Exit → Act → World → Prop} (hgd : o.guard = none) (s x : Operand) (ho : o.op = .call { callee := .builtin .append, args := #[s, x], argTypes := #[74, 74] })
    {p : Option Addr} {m c : Nat} {D : List Jr} (hJ : JO w (.slice p m c) D) (hm : m ≤ 2000000) (hs : a.eval s = .slice (some ⟨w.heap.size, 0, none⟩) 0 0) (hx : a.eval x = .slice p m c)
    (h : ∀ g' c' w', Hid (JO w' (.slice (some ⟨g', 0, none⟩) m c') D) → Hid (Up w w') → Hid (w.heap.size ≤ g') → wpList Try.prog ops Q rest (a.put o.dst (.slice (some ⟨g', 0, none⟩) m c')) w') : wpList Try.prog ops Q (o :: rest) a (w.alloc (.cells #[] 114)) := by
  refine wpList_plain hgd fun K hK => ?_
  obtain ⟨g', c', w', h1, h2, h3, h4⟩ := run_copyJ o.type hJ hm
  unfold Oper.wp execOp
  simp only [ho, resolve, invoke, builtin, Sem.run_bind, Sem.run_pure, Result.andThen_ok, List.map_toArray, List.map_cons, List.map_nil, hs, hx, h1]
  exact hK _ _ (h g' c' w' h2 h3 h4)
/-- What twin leaves. -/
def TwR (w : World) (n : Nat) (a : Int) (X : Nat → On) (e : Ending) (w' : World) : Prop := ∃ L : RL, e = .returned (.pointer (some ⟨L.bp, 0, none⟩)) ∧ Hid (RW w' L n a X) ∧ Hid (L.Ok n) ∧ Hid (∀ b, L.Own n b → w.heap.size ≤ b) ∧ Hid (Up w w')
theorem BO.start2 (w : World) (a : Int) (X : Nat → On) (V : Nat → Value) : BO w (w.alloc (.cells #[.slice none 0 0, .int .i64 a] 73)) w.heap.size 0 a X V (.slice none 0 0) := by
  have e := heap_alloc_last w (.cells #[.slice none 0 0, .int .i64 a] 73)
  exact ⟨Up.alloc _ _, (row_cell e 0).1, (row_cell e 1).1, fun i => (row_cell e i).2, Nat.le_refl _, World.ownsRow_nil _ _ _ _, fun g q => by simp [Value.ownBlock] at q, fun i hi => by omega, fun i hi => by omega, fun i j hi => by omega⟩
theorem BO.kp {F : Nat → Prop} {w0 w w' : World} {bq k : Nat} {a : Int} {X : Nat → On} {V : Nat → Value} {v : Value} (h : BO w0 w bq k a X V v) (hk : Kp F w w') (h0 : ∀ b, b < w0.heap.size → F b) (hq : F bq) (hv : ∀ g, v.ownBlock = some g → F g) (hV : ∀ i, i < k → ∀ g, (V i).ownBlock = some g → F g) : BO w0 w' bq k a X V v :=
  ⟨((Kp.of_up (F := fun b => b < w0.heap.size) h.up).two hk (fun b hb _ => h0 b hb)).up (fun _ hb => hb), hk.cell hq h.q0, hk.cell hq h.q1, fun i => hk.frozen (a := ⟨bq, i, none⟩) hq h.lt (h.fq i), h.lo, owns_kp h.row hk hv, h.ne, fun i hi => (h.wt i hi).kp hk (hV i hi), h.vb, h.vv⟩
set_option maxRecDepth 200000 in
set_option maxHeartbeats 8000000 in
theorem t41 {w : World} {L : RL} {n : Nat} {a : Int} {X : Nat → On} (h : RW w L n a X) (hn : n ≤ 256) (hlen : ∀ i, i < n → (X i).w.length ≤ 1000000) : Calls Try.prog 41 #[.pointer (some ⟨L.bp, 0, none⟩)] w (TwR w n a X) := by
  have H : Hid (RW w L n a X) := h
  have HLEN : Hid (∀ i, i < n → (X i).w.length ≤ 1000000) := hlen
  have HB0 : Hid (BO w (w.alloc (.cells #[.slice none 0 0, .int .i64 a] 73)) w.heap.size 0 a X noV (.slice none 0 0)) := BO.start2 w a X noV
  have p1 := h.p1
  have p9 := h.lt
  clear h hlen
  go_enter Try.func41, Try.ntmps41
  go_wp2_with fail
  generalize w.alloc (.cells #[.slice none 0 0, .int .i64 a] 73) = W0 at *
  obtain ⟨bq, hbq⟩ : ∃ bq, w.heap.size = bq := ⟨_, rfl⟩
  rw [hbq] at HB0 ⊢
  clear p1 p9
  go_loopw [4] (fun v4 wr => ∃ (k : Nat) (pp : Option Addr) (c : Nat) (V : Nat → Value), k ≤ n ∧ v4 = .int .i64 k ∧ Hid (BO w wr bq k a X V (.slice pp k c))) (fun v4 _ => n - (intOf v4).toNat)
  case atStart => exact ⟨0, none, 0, noV, by omega, rfl, HB0⟩
  case round =>
    clear HB0
    obtain ⟨k, pp, c, V, hk, rfl, HB⟩ := hrel
    rename World => wr
    have y0 : (0 : Int) ≤ (k : Int) := by omega
    have HW : Hid (RW wr L n a X) := H.out.up HB.out.up
    have p0 := HW.out.p0
    have p9 := HW.out.lt
    by_cases hkn : k < n
    · have b0 : (k : Int) < (n : Int) := by omega
      rw [HW.out.ps (by omega)] at p0
      have hll := HW.out.ll (by omega)
      have hat := HW.out.at' k hkn
      have hwt := HW.out.wt k hkn
      have hlk := HLEN.out k hkn
      obtain ⟨xx, hxx⟩ : ∃ xx, X k = xx := ⟨_, rfl⟩
      rw [hxx] at hat hwt hlk
      have HX : Hid (X k = xx) := hxx
      clear hxx
      obtain ⟨e, l, r, nx, D, lf⟩ := xx
      obtain ⟨pv, cv, hv, hcap, -⟩ := hwt.form
      try simp only at hat hwt hv hcap hlk
      rw [hv] at hat hwt
      obtain ⟨m, hm⟩ : ∃ m, D.length = m := ⟨_, rfl⟩
      rw [hm] at hat hwt hlk
      obtain ⟨x0, x1, x2, x3, x4, x5⟩ := hat
      try simp only at x0 x1 x2 x3 x4 x5
      clear hv hcap hm
      go_upto_region 6 with fail
      have HUc : Hid (Up wr (wr.alloc (.cells #[.int .i64 e, .int .i64 l, .int .i64 r, .int .i64 nx, .slice pv m cv, .int .i64 lf] 76))) := Up.alloc _ _
      have HOc : Hid (OnAt (wr.alloc (.cells #[.int .i64 e, .int .i64 l, .int .i64 r, .int .i64 nx, .slice pv m cv, .int .i64 lf] 76)) wr.heap.size 0 ⟨e, l, r, nx, D, lf⟩ (.slice pv m cv)) := by
        have z := heap_alloc_last wr (.cells #[.int .i64 e, .int .i64 l, .int .i64 r, .int .i64 nx, .slice pv m cv, .int .i64 lf] 76)
        exact ⟨(row_cell z 0).1, (row_cell z 1).1, (row_cell z 2).1, (row_cell z 3).1, (row_cell z 4).1, (row_cell z 5).1⟩
      have HFc : Hid (∀ i, (wr.alloc (.cells #[.int .i64 e, .int .i64 l, .int .i64 r, .int .i64 nx, .slice pv m cv, .int .i64 lf] 76)).frozen? ⟨wr.heap.size, i, none⟩ = false) := fun i => (row_cell (heap_alloc_last wr (.cells #[.int .i64 e, .int .i64 l, .int .i64 r, .int .i64 nx, .slice pv m cv, .int .i64 lf] 76)) i).2
      have HJc : Hid (JO (wr.alloc (.cells #[.int .i64 e, .int .i64 l, .int .i64 r, .int .i64 nx, .slice pv m cv, .int .i64 lf] 76)) (.slice pv m cv) D) := hwt.kp (Kp.of_up (F := fun _ => True) HUc.out) (fun _ _ => trivial)
      have HBc : Hid (BO w (wr.alloc (.cells #[.int .i64 e, .int .i64 l, .int .i64 r, .int .i64 nx, .slice pv m cv, .int .i64 lf] 76)) bq k a X V (.slice pp k c)) := HB.out.up' HUc.out
      have HGX : Hid (bq < wr.heap.size) := HB.out.lt
      have HLT : Hid (∀ i, i < k → ∀ g, (V i).ownBlock = some g → g < wr.heap.size) := fun i hi g q => (World.ownsRow.lt (HB.out.wt i hi) g q).2
      have HLV : Hid (∀ g, (Value.slice pp k c).ownBlock = some g → g < wr.heap.size) := fun g q => (World.ownsRow.lt HB.out.row g q).2
      clear x0 x1 x2 x3 x4 x5 p0 p9 hll hwt HUc HB HW
      generalize wr.alloc (.cells #[.int .i64 e, .int .i64 l, .int .i64 r, .int .i64 nx, .slice pv m cv, .int .i64 lf] 76) = W5 at *
      generalize wr.heap.size = GX at *
      obtain ⟨o0, o1, o2, o3, o4, o5⟩ := HOc.out
      simp only [Nat.zero_add] at o0 o1 o2 o3 o4 o5
      have lX : GX < W5.heap.size := World.block_lt_of_cell? W5 _ o0
      go_upto_region 7 with (at_builtin; (with_reducible refine wpList_copyJ rfl _ _ rfl HJc.out (by omega) rfl rfl ?_); intro g' c' w6 HJ6 HU6 HG6; (have y4 := cell_up o4 HU6.out); (have fy : w6.frozen? ⟨GX, 4, none⟩ = false := (Kp.of_up (F := fun _ => True) HU6.out).frozen (a := ⟨GX, 4, none⟩) trivial lX (HFc.out 4)); (have yl : GX < w6.heap.size := Nat.lt_of_lt_of_le lX HU6.out.size))
      have kx : Kp (fun b => b ≠ GX) w6 (w6.setCell ⟨GX, 4, none⟩ (.slice (some ⟨g', 0, none⟩) m c')) := Kp.set _ _ (fun q => q rfl) _
      have hgx : GX < g' := Nat.lt_of_lt_of_le lX HG6.out
      have HO7 : Hid (OnAt (w6.setCell ⟨GX, 4, none⟩ (.slice (some ⟨g', 0, none⟩) m c')) GX 0 ⟨e, l, r, nx, D, lf⟩ (.slice (some ⟨g', 0, none⟩) m c')) := by
        have := (HOc.out.up HU6.out).setW (.slice (some ⟨g', 0, none⟩) m c') D
        rw [Nat.zero_add] at this
        exact this
      have HB7 : Hid (BO w (w6.setCell ⟨GX, 4, none⟩ (.slice (some ⟨g', 0, none⟩) m c')) bq k a X V (.slice pp k c)) := (HBc.out.up' HU6.out).kp kx (fun b hb => by have := HGX.out; show b ≠ GX; omega) (by have := HGX.out; show bq ≠ GX; omega) (fun g q => by have := HLV.out g q; show g ≠ GX; omega) (fun i hi g q => by have := HLT.out i hi g q; show g ≠ GX; omega)
      have HJ7 : Hid (JO (w6.setCell ⟨GX, 4, none⟩ (.slice (some ⟨g', 0, none⟩) m c')) (.slice (some ⟨g', 0, none⟩) m c') D) := HJ6.out.kp kx (fun q hq => by
        have : g' = q := by simpa [Value.ownBlock] using hq
        show q ≠ GX
        omega)
      have HGG : Hid (GX < g') := hgx
      clear kx hgx y4 fy yl o0 o1 o2 o3 o4 o5 lX HOc HBc HJc HFc HJ6 HU6 HG6
      generalize (w6.setCell ⟨GX, 4, none⟩ (.slice (some ⟨g', 0, none⟩) m c')) = W7 at *
      refine wp_region_shut 8 [(0, none), (1, none), (2, none), (3, none), (4, some false), (5, some false), (6, some true), (7, some true)] (fun v => v.cell? ⟨bq, 0, none⟩ = some (.slice pp k c) ∧ OnAt v GX 0 ⟨e, l, r, nx, D, lf⟩ (.slice (some ⟨g', 0, none⟩) m c')) (by kernel_rfl) (by decide) rfl (by kernel_rfl) (fun _ _ d _ _ h => by cases d <;> exact h) ⟨cell_up HB7.out.q0 (Up.drew _), HO7.out.up (Up.drew _)⟩ ?_
      refine OrdS.looks (.pointer (some ⟨bq, 0, none⟩)) (some 33) _ rfl rfl (Or.inl ⟨by kernel_rfl, fun w' hS => ?_⟩) ?_
      · go_simp
      refine OrdS.looks (.pointer (some ⟨bq, 0, none⟩)) (some 34) _ rfl rfl (Or.inl ⟨by kernel_rfl, fun w' hS => ?_⟩) ?_
      · go_simp
      refine OrdS.looks (.pointer (some ⟨bq, 0, none⟩)) (some 35) _ rfl rfl (Or.inl ⟨by kernel_rfl, fun w' hS => ?_⟩) ?_
      · go_simp
      refine OrdS.looks (.pointer (some ⟨bq, 0, none⟩)) (some 36) _ rfl rfl (Or.inl ⟨by kernel_rfl, fun w' hS => ?_⟩) ?_
      · go_simp
      refine OrdS.reads (.slice pp k c) (some 37) _ rfl rfl (Or.inl ⟨by kernel_rfl, fun w' hS => ?_⟩) ?_
      · obtain ⟨z, -⟩ := hS
        go_simp
      refine OrdS.reads (.agg #[.int .i64 e, .int .i64 l, .int .i64 r, .int .i64 nx, .slice (some ⟨g', 0, none⟩) m c', .int .i64 lf]) (some 38) _ rfl rfl (Or.inl ⟨by kernel_rfl, fun w' hS => ?_⟩) ?_
      · obtain ⟨-, z0, z1, z2, z3, z4, z5⟩ := hS
        simp only [Nat.zero_add] at z0 z1 z2 z3 z4 z5
        go_simp
      simp only [Act.put, List.setIfInBounds_toArray, List.set_cons_succ, List.set_cons_zero]
      refine OrdS.does ?_
      refine wpOp_one (v := .slice (some ⟨W7.drew.heap.size, 0, none⟩) 1 1) (w' := W7.drew.alloc (.cells #[.int .i64 e, .int .i64 l, .int .i64 r, .int .i64 nx, .slice (some ⟨g', 0, none⟩) m c', .int .i64 lf] 76)) (some 39) rfl rfl rfl (by go_simp) ?_
      have hz := heap_alloc_last W7.drew (.cells #[.int .i64 e, .int .i64 l, .int .i64 r, .int .i64 nx, .slice (some ⟨g', 0, none⟩) m c', .int .i64 lf] 76)
      have HUV : Hid (Up W7 (W7.drew.alloc (.cells #[.int .i64 e, .int .i64 l, .int .i64 r, .int .i64 nx, .slice (some ⟨g', 0, none⟩) m c', .int .i64 lf] 76))) := (Up.drew _).trans (Up.alloc _ _)
      have HGL : Hid (g' < W7.heap.size) := (World.ownsRow.lt HJ7.out g' (by simp [Value.ownBlock])).2
      generalize W7.drew.alloc (.cells #[.int .i64 e, .int .i64 l, .int .i64 r, .int .i64 nx, .slice (some ⟨g', 0, none⟩) m c', .int .i64 lf] 76) = Z at *
      generalize W7.drew.heap.size = GB at *
      have HBZ : Hid (BO w Z bq k a X V (.slice pp k c)) := HB7.out.up' HUV.out
      have HOZ : Hid (OnAt Z GX 0 ⟨e, l, r, nx, D, lf⟩ (.slice (some ⟨g', 0, none⟩) m c')) := HO7.out.up HUV.out
      have HJZ : Hid (JO Z (.slice (some ⟨g', 0, none⟩) m c') D) := HJ7.out.kp (Kp.of_up (F := fun _ => True) HUV.out) (fun _ _ => trivial)
      refine ⟨⟨HBZ.out.q0, HOZ.out⟩, ?_⟩
      simp only [Act.put, List.setIfInBounds_toArray, List.set_cons_succ, List.set_cons_zero]
      refine OrdS.does ?_
      refine wpOp_on (some 40) rfl rfl rfl _ _ rfl (base := w.heap.size) (b := GB) (X := X) (V := V) (z := X k) (u := (.slice (some ⟨g', 0, none⟩) m c')) rfl rfl HBZ.out.row (by rw [HX.out]; exact hz) rfl (by omega) HBZ.out.up.size ?_
      intro g5 c5 w5 HR5 HG5 HB5
      have HNX : Hid (∀ b, (Value.slice pp k c).ownBlock = some b → w.heap.size ≤ b ∧ b ≠ bq) := fun b q => ⟨(World.ownsRow.lt HBZ.out.row b q).1, HBZ.out.ne b q⟩
      have kq : Kp (fun b => some b ≠ (Value.slice pp k c).ownBlock) Z w5 := Kp.grown HG5.out
      have q5 : w5.cell? ⟨bq, 0, none⟩ = some (.slice pp k c) := kq.cell (fun q => (HNX.out bq q.symm).2 rfl) HBZ.out.q0
      have f5 : w5.frozen? ⟨bq, 0, none⟩ = false := kq.frozen (a := ⟨bq, 0, none⟩) (fun q => (HNX.out bq q.symm).2 rfl) HBZ.out.lt (HBZ.out.fq 0)
      have s5 : bq < w5.heap.size := Nat.lt_of_lt_of_le HBZ.out.lt HG5.out.size
      have hngb : some GX ≠ (Value.slice pp k c).ownBlock := fun q => by have := HLV.out GX q.symm; omega
      refine ⟨⟨q5, HOZ.out.kp kq hngb⟩, ?_⟩
      have hbn := HBZ.out.next (z := X k) (u := (.slice (some ⟨g', 0, none⟩) m c')) HR5.out HG5.out HB5.out (by rw [HX.out]; exact HJZ.out) (fun g2 q => by
        have e2 : g' = g2 := by simpa [Value.ownBlock] using q
        have h1 := HGG.out
        have h2 := HGX.out
        subst e2
        exact ⟨by omega, by omega, fun q => by have := HLV.out g' q; omega, fun i hi q => by have := HLT.out i hi g' q; omega⟩)
      rw [upd_self] at hbn
      have HBN : Hid _ := hbn
      clear hbn kq hngb hz
      simp only [Act.put, List.setIfInBounds_toArray, List.set_cons_succ, List.set_cons_zero]
      refine OrdS.ends ?_
      simp only [List.drop_succ_cons, List.drop_zero]
      go_wp2_with fail
      go_roundw
      case rel => exact ⟨k + 1, some ⟨g5, 0, none⟩, c5, _, by omega, by go_num, HBN⟩
      case measure => simp [intOf]; omega
    · obtain rfl : k = n := by omega
      go_wp2_with fail
      go_ret
      obtain ⟨L2, h1, h2, h3, h4⟩ := HB.out.rw
      subst h1
      exact ⟨L2, rfl, h3, h2, h4, HB.out.up⟩
end Go.Proofs.Ytjklaemhfhakhaa
