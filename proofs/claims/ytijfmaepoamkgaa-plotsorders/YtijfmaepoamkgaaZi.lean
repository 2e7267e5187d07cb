/- PlotsOrders: the walk. -/
import Derived.Test.YtijfmaepoamkgaaZh
namespace Go.Proofs.Ytijfmaepoamkgaa
open Go.ChangeShapes Go.WideShapes Go.ChangeAt Go.RowKit Go.Fl Go.Sort
attribute [local go_sem] run_store_float run_neg fold_eq fold_ne fold_lt fold_gt abs_eq

theorem po_empty (w : World) : PO w.heap.size (w.alloc (.cells #[] 28)) (.slice (some ⟨w.heap.size, 0, none⟩) 0 0) [] :=
  ⟨by simp [fl5], .inr ⟨w.heap.size, 0, #[], rfl, Nat.le_refl _, heap_alloc_last _ _, Nat.zero_le _, by unfold maxLen; omega, by simp, by simp [fl5]⟩⟩
theorem eq77 : eqF (ab 4635118810238550016) (ab 4635118810238550016) = true := by decide +kernel
theorem PO.blk {b : Nat} {w : World} {p : Option Addr} {n cap : Nat} {D : List Plt} (h : PO b w (.slice p n cap) D) (h0 : 0 < n) : ∃ g, p = some ⟨g, 0, none⟩ ∧ b ≤ g ∧ g < w.heap.size := by
  obtain ⟨g, e, k1, k2, _⟩ := h.at (i := 0) (by have := h.len; omega)
  exact ⟨g, e, k1, k2⟩
theorem po_rd {b : Nat} {w : World} {p : Option Addr} {n cap : Nat} {D : List Plt} (h : PO b w (.slice p n cap) D) : 0 < n → ∃ b o, p = some ⟨b, o, none⟩ ∧ ∀ i, i < n → P5 w b (o + i * 5) (D.getD i Plt.zero) := fun hp => by
  have hl := h.len
  obtain ⟨g, hg, _, _, _⟩ := h.at (i := 0) (by omega)
  refine ⟨g, 0, hg, fun i hi => ?_⟩
  obtain ⟨g', hg', _, _, h5⟩ := h.at (i := i) (by omega)
  rw [hg] at hg'
  simp only [Option.some.injEq, Addr.mk.injEq] at hg'
  rw [hg'.1, Nat.zero_add]
  exact h5
theorem P5.keep {W wr : World} {A X : Option Nat} (h : KP W wr A X) {b o : Nat} {q : Plt} (k : P5 W b o q) (h1 : some b ≠ A) (h2 : some b ≠ X) : P5 wr b o q :=
  ⟨h.cell k.c0 h1 h2, h.cell k.c1 h1 h2, h.cell k.c2 h1 h2, h.cell k.c3 h1 h2, h.cell k.c4 h1 h2⟩
/-- Order and Merge in one form each. -/
def OrdN (n : Nat) (o : List Nat) (w : World) (e : Ending) (w' : World) : Prop := ∃ p c, e = .returned (.slice p n c) ∧ Hid (OPl w.heap.size w' (.slice p n c) o) ∧ Hid (Up w w')
theorem OrdR.to {P : Nat → Plt} {n : Nat} {o : List Nat} (ho : InOrd P n o) {w w' : World} {e : Ending} (h : OrdR w P n e w') : OrdN n o w e w' := by
  obtain ⟨p, c, o', h1, h2⟩ := h
  have := h2.out.1.uniq ho
  subst this
  exact ⟨p, c, h1, h2.out.2.1, h2.out.2.2⟩
def MerN (P : Nat → Plt) (M : List (Nat × Option Nat)) (N : Nat) (w : World) (e : Ending) (w' : World) : Prop := ∃ p c D, e = .returned (.slice p N c) ∧ Hid (Tld P M D) ∧ Hid (PO w.heap.size w' (.slice p N c) D) ∧ Hid (Up w w')
theorem MerR.to {P : Nat → Plt} {n m s : Nat} {o : List Nat} (ho : InOrd P n o) {N : Nat} (hN : (mg P m s o).length = N) {w w' : World} {e : Ending} (h : MerR w P n m s e w') : MerN P (mg P m s o) N w e w' := by
  obtain ⟨p, c, o', D, h1, h2⟩ := h
  have := h2.out.1.uniq ho
  subst this
  have hl : D.length = N := h2.out.2.1.len.trans hN
  rw [hl] at h1 h2
  exact ⟨p, c, D, h1, h2.out.2.1, h2.out.2.2.1, h2.out.2.2.2⟩
theorem tld_same {P : Nat → Plt} {M : List (Nat × Option Nat)} {D E : List Plt} (h : Tld P M D) (k : Tld P M E) {i : Nat} (hi : i < M.length) : (D.getD i Plt.zero).ab = (E.getD i Plt.zero).ab := by
  have a := h.all i hi
  have b := k.all i hi
  unfold Plt.ab
  rw [a.r, a.s, a.p, a.b, a.t, b.r, b.s, b.p, b.b, b.t]
theorem ord_some (P : Nat → Plt) {w w' : World} {n : Nat} {e : Ending} (h : OrdR w P n e w') : ∃ o, InOrd P n o := by
  obtain ⟨p, c, o, -, h2⟩ := h
  exact ⟨o, h2.out.1⟩
/-- One plot more, or one place more, whatever stands there. -/
theorem wpList_push5 {ops : Array Oper} {rest : List Oper} {o : Oper} {a : Act} {Q : Exit → Act → World → Prop} (hgd : o.guard = none) (s x : Operand) (ho : o.op = .call { callee := .builtin .append, args := #[s, x], argTypes := #[44, 44] })
    {b : Nat} {w : World} (p : Option Addr) (m c : Nat) (L : List Value) (hs : a.eval s = .slice p m c) (hx : a.eval x = .slice (some ⟨w.heap.size, 0, none⟩) 1 1) (HO : w.ownsRow b 28 5 (.slice p m c) m L) (hb : b ≤ w.heap.size) (hm : m ≤ 2000000)
    (h : ∀ p' c' w' L', Hid (w'.ownsRow b 28 5 (.slice p' (m + 1) c') (m + 1) L') → Hid ((w.alloc (.cells #[.float .f64 0, .float .f64 0, .float .f64 0, .float .f64 0, .float .f64 0] 28)).grownBy w' (Value.slice p m c).ownBlock) → Hid ((Value.slice p' (m + 1) c').ownBlock = (Value.slice p m c).ownBlock ∨ (Value.slice p' (m + 1) c').ownBlock = some (w.alloc (.cells #[.float .f64 0, .float .f64 0, .float .f64 0, .float .f64 0, .float .f64 0] 28)).heap.size) → wpList Try.prog ops Q rest (a.put o.dst (.slice p' (m + 1) c')) w') : wpList Try.prog ops Q (o :: rest) a (w.alloc (.cells #[.float .f64 0, .float .f64 0, .float .f64 0, .float .f64 0, .float .f64 0] 28)) := by
  obtain ⟨i0, hi, hz0, hz2, hz3⟩ := info_parts info28
  have HO' : (w.alloc (.cells #[.float .f64 0, .float .f64 0, .float .f64 0, .float .f64 0, .float .f64 0] 28)).ownsRow b 28 5 (.slice p m c) m L := World.ownsRow.alloc HO _
  refine wpList_append_own_at _ hgd s x 44 ho b 28 i0 (.agg #[.float .f64 0, .float .f64 0, .float .f64 0, .float .f64 0, .float .f64 0]) 5 40 Try.underlying44 hi hz0 hz2 hz3 rfl (by decide) _ _ _ hs HO' ⟨w.heap.size, 0, none⟩ 1 1 (pL Plt.zero) hx rfl (five_new w Plt.zero 28) (five_one _) (by unfold maxLen; omega) (by omega) (by simp; omega) ?_
  intro v' w' h1 h2 _ h4
  obtain ⟨p', c', hv, _⟩ := own_form h1
  subst hv
  exact h p' c' w' _ h1 h2 h4
theorem info3c : (Try.prog.info? 3).map (fun i => (i.zero, i.size, i.bytes)) = some (some (.int .i64 0), 1, 8) := by kernel_rfl
theorem wpList_push1 {ops : Array Oper} {rest : List Oper} {o : Oper} {a : Act} {Q : Exit → Act → World → Prop} (hgd : o.guard = none) (s x : Operand) (ho : o.op = .call { callee := .builtin .append, args := #[s, x], argTypes := #[45, 45] })
    {b : Nat} {w : World} {z : Int} (p : Option Addr) (m c : Nat) (L : List Value) (hs : a.eval s = .slice p m c) (hx : a.eval x = .slice (some ⟨w.heap.size, 0, none⟩) 1 1) (HO : w.ownsRow b 3 1 (.slice p m c) m L) (hb : b ≤ w.heap.size) (hm : m ≤ 2000000)
    (h : ∀ p' c' w' L', Hid (w'.ownsRow b 3 1 (.slice p' (m + 1) c') (m + 1) L') → Hid ((w.alloc (.cells #[.int .i64 z] 3)).grownBy w' (Value.slice p m c).ownBlock) → Hid ((Value.slice p' (m + 1) c').ownBlock = (Value.slice p m c).ownBlock ∨ (Value.slice p' (m + 1) c').ownBlock = some (w.alloc (.cells #[.int .i64 z] 3)).heap.size) → wpList Try.prog ops Q rest (a.put o.dst (.slice p' (m + 1) c')) w') : wpList Try.prog ops Q (o :: rest) a (w.alloc (.cells #[.int .i64 z] 3)) := by
  obtain ⟨i0, hi, hz0, hz2, hz3⟩ := info_parts info3c
  have HO' : (w.alloc (.cells #[.int .i64 z] 3)).ownsRow b 3 1 (.slice p m c) m L := World.ownsRow.alloc HO _
  refine wpList_append_own_at _ hgd s x 45 ho b 3 i0 (.int .i64 0) 1 8 Try.underlying45 hi hz0 hz2 hz3 rfl (by decide) _ _ _ hs HO' ⟨w.heap.size, 0, none⟩ 1 1 [.int .i64 z] hx rfl (one_new _ _ _) (one_cellV rfl) (by unfold maxLen; omega) (by omega) (by simp; omega) ?_
  intro v' w' h1 h2 _ h4
  obtain ⟨p', c', hv, _⟩ := own_form h1
  subst hv
  exact h p' c' w' _ h1 h2 h4
theorem own_new {W wy : World} {X : Option Nat} {v v' : Value} {o : Obj} (hB : ∀ k, v.ownBlock = some k → k < W.heap.size → some k = X) (hs : W.heap.size ≤ wy.heap.size) (h : v'.ownBlock = v.ownBlock ∨ v'.ownBlock = some (wy.alloc o).heap.size) : ∀ k, v'.ownBlock = some k → k < W.heap.size → some k = X := fun k hk hl => by
  rcases h with q | q
  · exact hB k (q.symm.trans hk) hl
  · rw [q] at hk
    simp at hk
    omega
set_option maxHeartbeats 2000000 in
theorem t5big {w : World} {p : Option Addr} {n cap m s : Nat} (h : 1024 < n) : Calls Try.prog 5 #[.slice p n cap, .float .f64 m, .float .f64 s] w fun e w' => e = .returned (.bool true) ∧ Hid (Up w w') := by
  have z : (1024 : Int) < (n : Int) := by omega
  go_enter Try.func5, Try.ntmps5
  go_wp2_with (go_at_call 12; (with_reducible refine (t12 _).mono ?_); rintro e w1 ⟨rfl, U1⟩)
  go_ret
  exact ⟨rfl, U1⟩
set_option maxHeartbeats 8000000 in
set_option maxRecDepth 20000 in
theorem t5ok {w : World} {p : Option Addr} {n cap m s : Nat} {P : Nat → Plt} (hV : PV w p n cap P) (few : n ≤ 1024) : Calls Try.prog 5 #[.slice p n cap, .float .f64 m, .float .f64 s] w fun e w' => e = .returned (.bool true) ∧ Hid (Up w w') := by
  have HV : Hid (PV w p n cap P) := hV
  have HF : Hid (∀ i, i < n → (P i).Fit) := hV.fit
  have few2 : (n : Int) ≤ 1024 := by omega
  have HN : Hid (n ≤ 1024 ∧ n ≤ 1000000) := ⟨few, by omega⟩
  have e77 := eq77
  clear hV
  go_enter Try.func5, Try.ntmps5
  go_wp2_with (first
    | (at_builtin; refine wpList_app_po rfl _ _ rfl w.heap.size 0 0 (some ⟨w.heap.size, 0, none⟩) p n cap [] P rfl rfl (po_empty w) (HV.out.up (Up.alloc _ _)) (by have := HN.out.1; omega) (by simp) ?_; intro p1 c1 w1 hown hgr
       have HO : Hid (PO w.heap.size w1 (.slice p1 n c1) ((List.range n).map P)) := by rw [Nat.zero_add] at hown; exact hown
       have HU : Hid (Up w w1) := grown_up (Up.alloc _ _) hgr (fun j hj => by cases hj; exact Nat.le_refl _)
       clear hown hgr)
    | (at_builtin; refine wpList_app_po rfl _ _ rfl w.heap.size n c1 p1 (some ⟨w1.heap.size, 0, none⟩) 1 1 ((List.range n).map P) (fun _ => markP) rfl rfl (HO.out.up (Up.alloc _ _)) (pv_mark w1) (by have := HN.out.1; omega) (Nat.le_trans (RowKit.Below.size HU.out) (by simp)) ?_; intro p2' c2 w2 hown hgr
       have HU2 : Hid (Up w w2) := grown_up (HU.out.trans (Up.alloc _ _)) hgr (fun j hj => (HO.out.lt j hj).1)
       obtain ⟨g, hg, hg1, hg2⟩ := hown.blk (by omega)
       subst hg
       have HW : Hid (OM w.heap.size w2 g n c2 P) := hown
       have hc2 := (HW.out.pv HN.out.2 HF.out).2
       have HG : Hid (w.heap.size ≤ g ∧ g < w2.heap.size) := ⟨hg1, hg2⟩
       clear hown hgr hg1 hg2)
    | (go_at_call 17; (with_reducible refine (t17 (HW.out.pv HN.out.2 HF.out).1).mono ?_); rintro e wa ⟨pa, ca, o, rfl, HA⟩; (have HIn : Hid (InOrd P n o) := HA.out.1); (have OA : Hid (OPl w2.heap.size wa (.slice pa n ca) o) := HA.out.2.1); (have UA : Hid (Up w2 wa) := HA.out.2.2); clear HA; (have HWa : Hid (OM w.heap.size wa g n c2 P) := PO.up HW.out UA.out))
    | (go_at_call 17; (with_reducible refine ((t17 (HWa.out.pv HN.out.2 HF.out).1).mono (fun _ _ h => OrdR.to HIn.out h)).mono ?_); rintro e wb ⟨pb, cb, rfl, OB, UB⟩; (have WB : Hid (Up w wb) := HU2.out.trans (UA.out.trans UB.out)))
    | (go_at_call 18; (with_reducible refine ((t18 (HV.out.up WB.out) HN.out.1).mono (fun _ _ h => OrdR.to HIn.out h)).mono ?_); rintro e wc ⟨pw, cw, rfl, OW, UW⟩))
  have HL : Hid (o.length = n) := HIn.out.length
  have OA0 : Hid (wc.ownsRow w2.heap.size 3 1 (.slice pa n ca) n (o.map nv)) := by
    have := OR.up OA.out (UB.out.trans UW.out)
    unfold OR at this
    rwa [HL.out] at this
  have OBc : Hid (OPl wa.heap.size wc (.slice pb n cb) o) := OR.up OB.out UW.out
  have HAA : Hid (∀ k, (Value.slice pa n ca).ownBlock = some k → w2.heap.size ≤ k ∧ k < wa.heap.size) := fun k hk => (OA.out.lt k hk)
  have HSZ : Hid (w.heap.size ≤ w2.heap.size ∧ w2.heap.size ≤ wa.heap.size ∧ wa.heap.size ≤ wb.heap.size ∧ wb.heap.size ≤ wc.heap.size) := ⟨HU2.out.size, UA.out.size, UB.out.size, UW.out.size⟩
  have WC : Hid (Up w wc) := WB.out.trans UW.out
  have HWc : Hid (OM w.heap.size wc g n c2 P) := PO.up HWa.out (UB.out.trans UW.out)
  obtain ⟨AA, hAA⟩ : ∃ A, (Value.slice pa n ca).ownBlock = A := ⟨_, rfl⟩
  have HAV : Hid ((Value.slice pa n ca).ownBlock = AA) := hAA
  rw [hAA] at HAA
  clear HO HU HW HWa OA OB UA UB UW WB hAA
  go_loopw [11] (fun v11 wr => ∃ (i : Nat) (xs : List Value), i ≤ n ∧ v11 = .int .i64 i ∧ Hid (wr.ownsRow w2.heap.size 3 1 (.slice pa n ca) n xs) ∧ Hid (∀ j, i ≤ j → j < n → xs[j]? = some (nv o[j]!)) ∧ Hid (KP wc wr AA none)) (fun v11 _ => n - (intOf v11).toNat)
  case atStart =>
    refine ⟨0, o.map nv, by omega, rfl, OA0, fun j _ hj => ?_, KP.refl _ _ _⟩
    have : j < o.length := by rw [HL.out]; exact hj
    rw [List.getElem?_map, List.getElem?_eq_getElem this, getElem!_pos o j this]; rfl
  case round =>
    clear OA0
    obtain ⟨i, xs, hi, rfl, HX, HE, HK⟩ := hrel
    rename World => wr
    by_cases hlt : i < n
    · have hio : i < o.length := by rw [HL.out]; exact hlt
      obtain ⟨ga, hga⟩ : ∃ g, pa = some ⟨g, 0, none⟩ := by
        obtain ⟨p', c', e1, e2⟩ := own_form HX.out
        simp only [Value.slice.injEq] at e1
        rw [e1.1]; exact e2 (by omega)
      obtain ⟨gw, hgw⟩ : ∃ g, pw = some ⟨g, 0, none⟩ := by
        obtain ⟨p', c', e1, e2⟩ := OR.form OW.out
        simp only [Value.slice.injEq] at e1
        rw [e1.1]; exact e2 (by omega)
      subst hga hgw
      obtain ⟨k, hk⟩ : ∃ k, o[i]! = k := ⟨_, rfl⟩
      have c0 : wr.cell? ⟨ga, i, none⟩ = some (.int .i64 k) := by
        rw [World.ownsRow.cellAt HX.out i (by omega), HE.out i (Nat.le_refl _) hlt, hk]; rfl
      have f0 := World.ownsRow.frozenAt HX.out i
      have c1 : wr.cell? ⟨gw, i, none⟩ = some (.int .i64 k) := by
        have h1 := OR.cell OW.out hio
        rw [hk] at h1
        refine HK.out.cell h1 (fun e => ?_) (fun e => by cases e)
        have h2 := HAA.out gw e.symm
        have h3 := (OW.out.lt gw rfl).1
        have h4 := HSZ.out
        omega
      have y1 : (i : Int) < (n : Int) := by omega
      clear hk hio
      go_wp2_with fail
      refine wp_region_shut 8 [(0, none), (1, none), (2, none), (3, some false), (4, none), (5, none), (6, none), (7, some false)] (fun w9 => Up wr w9) (by kernel_rfl) (by decide) rfl (by kernel_rfl) (fun _ _ d _ _ h => by cases d <;> exact h) (Up.drewN wr 1) ?_
      refine OrdS.looks (.slice (some ⟨ga, 0, none⟩) n ca) (some 55) _ rfl rfl (Or.inl ⟨by kernel_rfl, fun w' hS => ?_⟩) ?_
      · go_simp
      refine OrdS.looks (.int .i64 i) (some 56) _ rfl rfl (Or.inl ⟨by kernel_rfl, fun w' hS => ?_⟩) ?_
      · go_simp
      refine OrdS.looks (.pointer (some ⟨ga, i, none⟩)) (some 57) _ rfl rfl (Or.inl ⟨by kernel_rfl, fun w' hS => ?_⟩) ?_
      · go_simp
      refine OrdS.reads (.int .i64 k) (some 58) _ rfl rfl (Or.inl ⟨by kernel_rfl, fun w' hS => ?_⟩) ?_
      · have l0 := cell_up c0 hS
        go_simp
      refine OrdS.looks (.slice (some ⟨gw, 0, none⟩) n cw) (some 59) _ rfl rfl (Or.inl ⟨by kernel_rfl, fun w' hS => ?_⟩) ?_
      · go_simp
      refine OrdS.looks (.int .i64 i) (some 60) _ rfl rfl (Or.inl ⟨by kernel_rfl, fun w' hS => ?_⟩) ?_
      · go_simp
      refine OrdS.looks (.pointer (some ⟨gw, i, none⟩)) (some 61) _ rfl rfl (Or.inl ⟨by kernel_rfl, fun w' hS => ?_⟩) ?_
      · go_simp
      refine OrdS.reads (.int .i64 k) (some 62) _ rfl rfl (Or.inl ⟨by kernel_rfl, fun w' hS => ?_⟩) ?_
      · have l0 := cell_up c1 hS
        go_simp
      refine OrdS.ends ?_
      simp only [List.drop_succ_cons, List.drop_zero, Act.put, List.setIfInBounds_toArray, List.set_cons_succ, List.set_cons_zero]
      have HX2 : Hid (wr.drew.ownsRow w2.heap.size 3 1 (.slice (some ⟨ga, 0, none⟩) n ca) n xs) := owns_up HX.out (Up.drewN wr 1)
      have HK2 : Hid (KP wc wr.drew AA none) := HK.out.upon (Up.drewN wr 1)
      have c2' : wr.drew.cell? ⟨ga, i, none⟩ = some (.int .i64 k) := c0
      have f2' : wr.drew.frozen? ⟨ga, i, none⟩ = false := f0
      generalize wr.drew = wq at *
      clear c0 c1 f0 HX HK
      obtain ⟨s1, s2⟩ := World.ownsRow.stored HX2.out i (.int .i64 (-5))
      have HX3 : Hid ((wq.setCell ⟨ga, i, none⟩ (.int .i64 (-5))).ownsRow w2.heap.size 3 1 (.slice (some ⟨ga, 0, none⟩) n ca) n (xs.set i (.int .i64 (-5)))) := s1
      have HK3 : Hid (KP wc (wq.setCell ⟨ga, i, none⟩ (.int .i64 (-5))) AA none) := HK2.out.grown s2 (fun k hk _ => by cases hk; exact Or.inl HAV.out)
      clear s1 s2 HX2 HK2
      go_wp2
      go_roundw
      case rel => exact ⟨i + 1, _, by omega, by go_num, HX3, fun j h1 h2 => by rw [List.getElem?_set_ne (by omega)]; exact HE.out j (by omega) h2, HK3⟩
      case measure => simp [intOf]; omega
    · obtain rfl : i = n := by omega
      clear HE
      go_wp2
      go_loopw [12] (fun v12 wx => ∃ j : Nat, j ≤ i ∧ v12 = .int .i64 j ∧ Hid (Up wr wx)) (fun v12 _ => i - (intOf v12).toNat)
      case atStart => exact ⟨0, by omega, rfl, Up.refl _⟩
      case round =>
        obtain ⟨j, hj, rfl, HUx⟩ := hrel
        rename World => wx
        by_cases hlt : j < i
        · have hjo : j < o.length := by rw [HL.out]; exact hlt
          obtain ⟨gb, hgb⟩ : ∃ g, pb = some ⟨g, 0, none⟩ := by
            obtain ⟨p', c', e1, e2⟩ := OR.form OBc.out
            simp only [Value.slice.injEq] at e1
            rw [e1.1]; exact e2 (by omega)
          obtain ⟨gw, hgw⟩ : ∃ g, pw = some ⟨g, 0, none⟩ := by
            obtain ⟨p', c', e1, e2⟩ := OR.form OW.out
            simp only [Value.slice.injEq] at e1
            rw [e1.1]; exact e2 (by omega)
          subst hgb hgw
          obtain ⟨k, hk⟩ : ∃ k, o[j]! = k := ⟨_, rfl⟩
          have c0 : wx.cell? ⟨gb, j, none⟩ = some (.int .i64 k) := by
            have h1 := OR.cell OBc.out hjo
            rw [hk] at h1
            refine cell_up (HK.out.cell h1 (fun e => ?_) (fun e => by cases e)) HUx.out
            have h2 := HAA.out gb e.symm
            have h3 := (OBc.out.lt gb rfl).1
            omega
          have c1 : wx.cell? ⟨gw, j, none⟩ = some (.int .i64 k) := by
            have h1 := OR.cell OW.out hjo
            rw [hk] at h1
            refine cell_up (HK.out.cell h1 (fun e => ?_) (fun e => by cases e)) HUx.out
            have h2 := HAA.out gw e.symm
            have h3 := (OW.out.lt gw rfl).1
            have h4 := HSZ.out
            omega
          have y1 : (j : Int) < (i : Int) := by omega
          clear hk hjo
          go_wp2_with fail
          refine wp_region_shut 8 [(0, none), (1, none), (2, none), (3, some false), (4, none), (5, none), (6, none), (7, some false)] (fun w9 => Up wx w9) (by kernel_rfl) (by decide) rfl (by kernel_rfl) (fun _ _ d _ _ h => by cases d <;> exact h) (Up.drewN wx 1) ?_
          refine OrdS.looks (.slice (some ⟨gb, 0, none⟩) i cb) (some 73) _ rfl rfl (Or.inl ⟨by kernel_rfl, fun w' hS => ?_⟩) ?_
          · go_simp
          refine OrdS.looks (.int .i64 j) (some 74) _ rfl rfl (Or.inl ⟨by kernel_rfl, fun w' hS => ?_⟩) ?_
          · go_simp
          refine OrdS.looks (.pointer (some ⟨gb, j, none⟩)) (some 75) _ rfl rfl (Or.inl ⟨by kernel_rfl, fun w' hS => ?_⟩) ?_
          · go_simp
          refine OrdS.reads (.int .i64 k) (some 76) _ rfl rfl (Or.inl ⟨by kernel_rfl, fun w' hS => ?_⟩) ?_
          · have l0 := cell_up c0 hS
            go_simp
          refine OrdS.looks (.slice (some ⟨gw, 0, none⟩) i cw) (some 77) _ rfl rfl (Or.inl ⟨by kernel_rfl, fun w' hS => ?_⟩) ?_
          · go_simp
          refine OrdS.looks (.int .i64 j) (some 78) _ rfl rfl (Or.inl ⟨by kernel_rfl, fun w' hS => ?_⟩) ?_
          · go_simp
          refine OrdS.looks (.pointer (some ⟨gw, j, none⟩)) (some 79) _ rfl rfl (Or.inl ⟨by kernel_rfl, fun w' hS => ?_⟩) ?_
          · go_simp
          refine OrdS.reads (.int .i64 k) (some 80) _ rfl rfl (Or.inl ⟨by kernel_rfl, fun w' hS => ?_⟩) ?_
          · have l0 := cell_up c1 hS
            go_simp
          refine OrdS.ends ?_
          simp only [List.drop_succ_cons, List.drop_zero, Act.put, List.setIfInBounds_toArray, List.set_cons_succ, List.set_cons_zero]
          go_wp2
          go_roundw
          case rel => exact ⟨j + 1, by omega, by go_num, HUx.out.trans (Up.drewN _ _)⟩
          case measure => simp [intOf]; omega
        · obtain rfl : j = i := by omega
          have KX : Hid (KP wc wx AA none) := HK.out.upon HUx.out
          have HXx : Hid (wx.ownsRow w2.heap.size 3 1 (.slice pa j ca) j xs) := owns_up HX.out HUx.out
          obtain ⟨N, hN⟩ : ∃ N, (mg P m s o).length = N := ⟨_, rfl⟩
          have HNN : Hid ((mg P m s o).length = N ∧ N ≤ j ∧ N ≤ 1000000) := by
            have h1 := mg_len P m s o
            have h2 := HL.out
            have h3 := HN.out.1
            exact ⟨hN, by omega, by omega⟩
          have zN : (N : Int) ≤ 1024 := by have := HNN.out; have := HN.out.1; omega
          have HBL : Hid (0 < j → ∀ b o, p = some ⟨b, o, none⟩ → b < w.heap.size) := fun hp b o e => by
            obtain ⟨b', o', e', k⟩ := HV.out.rd hp
            rw [e] at e'
            simp only [Option.some.injEq, Addr.mk.injEq] at e'
            rw [e'.1]
            exact World.block_lt_of_cell? w _ (k 0 hp).c0
          have PVl : Hid (∀ W X, (∀ k, X = some k → w.heap.size ≤ k) → KP wc W AA X → PV W p j cap P) := fun W X hX hk => hk.pv (HV.out.up WC.out) (fun hp b o e => ⟨fun q => by
            have h1 := HBL.out hp b o e
            have h2 := HAA.out b q.symm
            have h3 := HSZ.out
            omega, fun q => by
            have h1 := HBL.out hp b o e
            have h2 := hX b q.symm
            omega⟩)
          have PVm : Hid (∀ W X, (∀ k, X = some k → w2.heap.size ≤ k) → KP wc W AA X → PV W (some ⟨g, 0, none⟩) j c2 P) := fun W X hX hk => hk.pv (HWc.out.pv HN.out.2 HF.out).1 (fun hp b o e => by
            simp only [Option.some.injEq, Addr.mk.injEq] at e
            have h0 := HG.out.2
            refine ⟨fun q => ?_, fun q => ?_⟩
            · have h2 := HAA.out b q.symm
              omega
            · have h2 := hX b q.symm
              omega)
          clear hN HK HX
          go_wp2_with (first
            | (go_at_call 19; (with_reducible refine ((t19 (PVl.out wx none (fun k hk => by cases hk) KX.out) HN.out.1).mono (fun _ _ h => MerR.to HIn.out HNN.out.1 h)).mono ?_); rintro e w6 ⟨p6, c6, D6, rfl, T6, O6, U6⟩; (have K6 : Hid (KP wc w6 AA none) := KX.out.upon U6.out))
            | (go_at_call 20; (with_reducible refine ((t20 (PVm.out w6 none (fun k hk => by cases hk) K6.out)).mono (fun _ _ h => MerR.to HIn.out HNN.out.1 h)).mono ?_); rintro e w7 ⟨p7, c7, D7, rfl, T7, O7, U7⟩; (have K7 : Hid (KP wc w7 AA none) := K6.out.upon U7.out))
            | (go_at_call 20; (with_reducible refine ((t20 (PVm.out w7 none (fun k hk => by cases hk) K7.out)).mono (fun _ _ h => MerR.to HIn.out HNN.out.1 h)).mono ?_); rintro e w8 ⟨p8, c8, D8, rfl, T8, O8, U8⟩; (have K8 : Hid (KP wc w8 AA none) := K7.out.upon U8.out); (have O78 : Hid (PO w6.heap.size w8 (.slice p7 N c7) D7) := PO.up O7.out U8.out); (have O68 : Hid (PO wx.heap.size w8 (.slice p6 N c6) D6) := PO.up O6.out (U7.out.trans U8.out)))
            | (go_at_call 21; (with_reducible refine (t21 (po_rd O78.out) (po_rd O68.out) HNN.out.2.2 (fun i hi => tld_same T7.out T6.out (by rw [HNN.out.1]; exact hi))).mono ?_); rintro e w9 ⟨rfl, U9⟩)
            | (go_at_call 21; (with_reducible refine (t21 (po_rd (PO.up O8.out U9.out)) (po_rd (PO.up O68.out U9.out)) HNN.out.2.2 (fun i hi => tld_same T8.out T6.out (by rw [HNN.out.1]; exact hi))).mono ?_); rintro e w10 ⟨rfl, U10⟩))
          have V10 : Hid (Up w8 w10) := U9.out.trans U10.out
          obtain ⟨XX, hXX⟩ : ∃ X, (Value.slice p7 N c7).ownBlock = X := ⟨_, rfl⟩
          have HXV : Hid ((Value.slice p7 N c7).ownBlock = XX) := hXX
          have HXR : Hid (∀ k, XX = some k → w6.heap.size ≤ k ∧ k < w7.heap.size) := fun k hk => O7.out.lt k (hXX.trans hk)
          have HS2 : Hid (wc.heap.size ≤ wx.heap.size ∧ wx.heap.size ≤ w6.heap.size ∧ w6.heap.size ≤ w7.heap.size ∧ w7.heap.size ≤ w8.heap.size) := ⟨KX.out.size, U6.out.size, U7.out.size, U8.out.size⟩
          have R8 : Hid (0 < N → ∃ b o, p8 = some ⟨b, o, none⟩ ∧ (w7.heap.size ≤ b) ∧ ∀ i, i < N → P5 w10 b (o + i * 5) (D8.getD i Plt.zero)) := fun hp => by
            obtain ⟨b, o', e, k⟩ := po_rd (PO.up O8.out V10.out) hp
            obtain ⟨b2, e2, k1, _⟩ := O8.out.blk hp
            rw [e] at e2
            simp only [Option.some.injEq, Addr.mk.injEq] at e2
            exact ⟨b, o', e, by rw [e2.1]; exact k1, k⟩
          have R6 : Hid (0 < N → ∃ b o, p6 = some ⟨b, o, none⟩ ∧ (wx.heap.size ≤ b ∧ b < w6.heap.size) ∧ ∀ i, i < N → P5 w10 b (o + i * 5) (D6.getD i Plt.zero)) := fun hp => by
            obtain ⟨b, o', e, k⟩ := po_rd (PO.up O68.out V10.out) hp
            obtain ⟨b2, e2, k1, k2⟩ := O6.out.blk hp
            rw [e] at e2
            simp only [Option.some.injEq, Addr.mk.injEq] at e2
            exact ⟨b, o', e, by rw [e2.1]; exact ⟨k1, k2⟩, k⟩
          have KZ : Hid (KP wc w10 AA none) := K8.out.upon V10.out
          have AZ : Hid (w10.ownsRow w2.heap.size 3 1 (.slice pa j ca) j xs) := owns_up HXx.out (U6.out.trans (U7.out.trans (U8.out.trans V10.out)))
          have XZ : Hid (w10.ownsRow w6.heap.size 28 5 (.slice p7 N c7) N (fl5 D7)) := by
            have := PO.up O78.out V10.out
            have hl := this.len
            unfold PO at this
            rwa [hl] at this
          have HTT : Hid (∀ i, i < N → (D8.getD i Plt.zero).ab = (D6.getD i Plt.zero).ab) := fun i hi => tld_same T8.out T6.out (by rw [HNN.out.1]; exact hi)
          have HZS : Hid (w8.heap.size ≤ w10.heap.size) := V10.out.size
          clear hXX K6 K7 K8 O6 O7 O8 O78 O68 U6 U7 U8 U9 U10 V10 T6 T7 T8 HXx KX HUx
          go_loopw [16] (fun v16 wr => ∃ (i : Nat) (ys : List Value), i ≤ N ∧ v16 = .int .i64 i ∧ Hid (wr.ownsRow w6.heap.size 28 5 (.slice p7 N c7) N ys) ∧ Hid (wr.ownsRow w2.heap.size 3 1 (.slice pa j ca) j xs) ∧ Hid (KP w10 wr AA XX)) (fun v16 _ => N - (intOf v16).toNat)
          case atStart => exact ⟨0, fl5 D7, by omega, rfl, XZ, AZ, KP.refl _ _ _⟩
          case round =>
            clear XZ AZ
            obtain ⟨i, ys, hi, rfl, HY, HX, HK⟩ := hrel
            rename World => wr
            by_cases hlt : i < N
            · obtain ⟨gx, hgx⟩ : ∃ g, p7 = some ⟨g, 0, none⟩ := by
                obtain ⟨p', c', e1, e2⟩ := own_form HY.out
                simp only [Value.slice.injEq] at e1
                rw [e1.1]; exact e2 (by omega)
              subst hgx
              have hyl : ys.length = N * 5 := HY.out.1
              have key : ∀ q, q < 5 → ∃ v, wr.cell? ⟨gx, i * 5 + q, none⟩ = some v := fun q hq => by
                have hb : i * 5 + q < ys.length := by omega
                exact ⟨ys[i * 5 + q], by rw [World.ownsRow.cellAt HY.out (i * 5 + q) (by omega), List.getElem?_eq_getElem hb]⟩
              obtain ⟨v0, a0⟩ := key 0 (by omega)
              obtain ⟨v1, a1⟩ := key 1 (by omega)
              obtain ⟨v2, a2⟩ := key 2 (by omega)
              obtain ⟨v3, a3⟩ := key 3 (by omega)
              obtain ⟨v4, a4⟩ := key 4 (by omega)
              rw [Nat.add_zero] at a0
              have f0 := World.ownsRow.frozenAt HY.out (i * 5)
              have f1 := World.ownsRow.frozenAt HY.out (i * 5 + 1)
              have f2 := World.ownsRow.frozenAt HY.out (i * 5 + 2)
              have f3 := World.ownsRow.frozenAt HY.out (i * 5 + 3)
              have f4 := World.ownsRow.frozenAt HY.out (i * 5 + 4)
              obtain ⟨s1, b1⟩ := World.ownsRow.stored HY.out (i * 5) (.float .f64 13840687554816376832)
              obtain ⟨s2, b2⟩ := World.ownsRow.stored s1 (i * 5 + 1) (.float .f64 0)
              obtain ⟨s3, b3⟩ := World.ownsRow.stored s2 (i * 5 + 2) (.float .f64 0)
              obtain ⟨s4, b4⟩ := World.ownsRow.stored s3 (i * 5 + 3) (.float .f64 0)
              obtain ⟨s5, b5⟩ := World.ownsRow.stored s4 (i * 5 + 4) (.float .f64 0)
              have HB5 : But gx wr _ := (((But.trans b1 b2).trans b3).trans b4).trans b5
              have HY5 : Hid _ := s5
              have HK5 : Hid _ := HK.out.grown HB5 (fun k hk _ => by cases hk; exact Or.inr HXV.out)
              have HX5 : Hid _ := owns_grown HX.out HB5 (fun x hx => by cases hx; exact kinds_apart HY.out HX.out (by decide) rfl)
              have y1 : (i : Int) < (N : Int) := by omega
              clear key hyl s1 s2 s3 s4 s5 b1 b2 b3 b4 b5 HB5
              go_wp2
              go_roundw
              case rel => exact ⟨i + 1, _, by omega, by go_num, HY5, HX5, HK5⟩
              case measure => simp [intOf]; omega
            · obtain rfl : i = N := by omega
              go_wp2
              go_loopw [8, 14, 17] (fun v8 v14 v17 wy => ∃ (t ca' cx' : Nat) (pa' px' : Option Addr) (xs' ys' : List Value), t ≤ 20 ∧ v8 = .slice pa' (j + t) ca' ∧ v14 = .slice px' (i + t) cx' ∧ v17 = .int .i64 t ∧ Hid (wy.ownsRow w6.heap.size 28 5 (.slice px' (i + t) cx') (i + t) ys') ∧ Hid (wy.ownsRow w2.heap.size 3 1 (.slice pa' (j + t) ca') (j + t) xs') ∧ Hid (KP w10 wy AA XX) ∧ Hid ((∀ k, (Value.slice pa' (j + t) ca').ownBlock = some k → k < w10.heap.size → some k = AA) ∧ ∀ k, (Value.slice px' (i + t) cx').ownBlock = some k → k < w10.heap.size → some k = XX)) (fun _ _ v17 _ => 20 - (intOf v17).toNat)
              case atStart => exact ⟨0, ca, c7, pa, p7, xs, ys, by omega, rfl, rfl, rfl, HY, HX, HK, fun k hk _ => hk.symm.trans HAV.out, fun k hk _ => hk.symm.trans HXV.out⟩
              case round =>
                clear HY HX HK
                obtain ⟨t, ca', cx', pa', px', xs', ys', ht, rfl, rfl, rfl, HY, HX, HK, HB⟩ := hrel
                rename World => wy
                by_cases hlt : t < 20
                · have y1 : (t : Int) < 20 := by omega
                  obtain ⟨NT, hNT⟩ : ∃ NT, i + t = NT := ⟨_, rfl⟩
                  obtain ⟨JT, hJT⟩ : ∃ JT, j + t = JT := ⟨_, rfl⟩
                  have HNJ : Hid (i + t = NT ∧ j + t = JT ∧ NT ≤ 2000 ∧ JT ≤ 2000 ∧ t < 20) := by
                    have := HNN.out
                    have := HN.out
                    exact ⟨hNT, hJT, by omega, by omega, hlt⟩
                  rw [hNT] at HY HB ⊢
                  rw [hJT] at HX HB ⊢
                  have HSw : Hid (w6.heap.size ≤ wy.heap.size ∧ w2.heap.size ≤ wy.heap.size) := by
                    have h1 := HK.out.size
                    have h2 := HS2.out
                    have h3 := HSZ.out
                    have h4 := HZS.out
                    exact ⟨by omega, by omega⟩
                  have HZ2 : Hid (w2.heap.size ≤ w10.heap.size) := by
                    have h2 := HS2.out
                    have h3 := HSZ.out
                    have h4 := HZS.out
                    show _ ≤ _
                    omega
                  clear hNT hJT
                  go_wp2_with (first
                    | (at_builtin; (refine wpList_push5 (b := w6.heap.size) rfl _ _ rfl px' NT cx' ys' rfl rfl HY.out HSw.out.1 (by have := HNJ.out; omega) ?_; intro px2 cx2 wz ys2 OY GY BY; (have HX2 : Hid (wz.ownsRow w2.heap.size 3 1 (.slice pa' JT ca') JT xs') := owns_grown (owns_up HX.out (Up.alloc _ _)) GY.out (fun x hx => kinds_apart HY.out HX.out (by decide) hx)); (have HK2 : Hid (KP w10 wz AA XX) := (HK.out.upon (Up.alloc _ _)).grown GY.out (fun k hk hl => Or.inr (HB.out.2 k hk hl))); (have BX2 : Hid (∀ k, (Value.slice px2 (NT + 1) cx2).ownBlock = some k → k < w10.heap.size → some k = XX) := own_new HB.out.2 HK.out.size BY.out); (have HSz2 : Hid (w2.heap.size ≤ wz.heap.size) := Nat.le_trans HZ2.out HK2.out.size)))
                    | (at_builtin; (refine wpList_push1 (b := w2.heap.size) (z := -6) rfl _ _ rfl pa' JT ca' xs' rfl rfl HX2.out HSz2.out (by have := HNJ.out; omega) ?_; intro pa2 ca2 wv xs2 OA2 GA BA; (have HY3 : Hid (wv.ownsRow w6.heap.size 28 5 (.slice px2 (NT + 1) cx2) (NT + 1) ys2) := owns_grown (owns_up OY.out (Up.alloc _ _)) GA.out (fun x hx => kinds_apart HX2.out OY.out (by decide) hx)); (have HK3 : Hid (KP w10 wv AA XX) := (HK2.out.upon (Up.alloc _ _)).grown GA.out (fun k hk hl => Or.inl (HB.out.1 k hk hl))); (have BA3 : Hid (∀ k, (Value.slice pa2 (JT + 1) ca2).ownBlock = some k → k < w10.heap.size → some k = AA) := own_new HB.out.1 HK2.out.size BA.out))))
                  go_roundw
                  case rel =>
                    obtain ⟨h1, h2, h3, h4, h5⟩ := HNJ.out
                    have e1 : i + (t + 1) = NT + 1 := by omega
                    have e2 : j + (t + 1) = JT + 1 := by omega
                    exact ⟨t + 1, ca2, cx2, pa2, px2, xs2, ys2, by omega, by rw [e2], by rw [e1], by go_num, by rw [e1]; exact HY3, by rw [e2]; exact OA2, HK3, by rw [e1, e2]; exact ⟨BA3.out, BX2.out⟩⟩
                  case measure => simp [intOf]; omega
                · obtain rfl : t = 20 := by omega
                  have KC : Hid (KP wc wy AA XX) := KZ.out.comp HK.out
                  have hXX2 : ∀ k, XX = some k → w2.heap.size ≤ k := fun k hk => by
                    have h1 := HXR.out k hk
                    have h2 := HS2.out
                    have h3 := HSZ.out
                    omega
                  have hXX1 : ∀ k, XX = some k → w.heap.size ≤ k := fun k hk => by
                    have h1 := hXX2 k hk
                    have h3 := HSZ.out
                    omega
                  have UF : Hid (Up w wy) := KC.out.up WC.out (fun k hk => by have h1 := HAA.out k hk; have h3 := HSZ.out; omega) hXX1
                  have PM : Hid (PV wy (some ⟨g, 0, none⟩) j c2 P) := PVm.out wy XX hXX2 KC.out
                  have PL : Hid (PV wy p j cap P) := PVl.out wy XX hXX1 KC.out
                  have Q8 : Hid (0 < i → ∃ b o, p8 = some ⟨b, o, none⟩ ∧ ∀ q, q < i → P5 wy b (o + q * 5) (D8.getD q Plt.zero)) := fun hp => by
                    obtain ⟨b, o', e, k1, k⟩ := R8.out hp
                    refine ⟨b, o', e, fun q hq => P5.keep HK.out (k q hq) (fun e => ?_) (fun e => ?_)⟩
                    · have h1 := HAA.out b e.symm
                      have h2 := HS2.out
                      have h3 := HSZ.out
                      omega
                    · have h1 := HXR.out b e.symm
                      omega
                  have Q6 : Hid (0 < i → ∃ b o, p6 = some ⟨b, o, none⟩ ∧ ∀ q, q < i → P5 wy b (o + q * 5) (D6.getD q Plt.zero)) := fun hp => by
                    obtain ⟨b, o', e, k1, k⟩ := R6.out hp
                    refine ⟨b, o', e, fun q hq => P5.keep HK.out (k q hq) (fun e => ?_) (fun e => ?_)⟩
                    · have h1 := HAA.out b e.symm
                      have h2 := HS2.out
                      have h3 := HSZ.out
                      omega
                    · have h1 := HXR.out b e.symm
                      omega
                  have cm0 : wy.cell? ⟨g, j * 5, none⟩ = some (.float .f64 4635118810238550016) := KC.out.cell HWc.out.mark (fun e => by have h1 := HAA.out g e.symm; have := HG.out; omega) (fun e => by have h1 := hXX2 g e.symm; have := HG.out; omega)
                  have CM0 : Hid (wy.cell? ⟨g, j * 5, none⟩ = some (.float .f64 4635118810238550016)) := cm0
                  clear cm0 hXX1 hXX2
                  go_wp2_with (first
                    | (go_at_call 21; (with_reducible refine (t21 Q8.out Q6.out HNN.out.2.2 HTT.out).mono ?_); rintro e w11 ⟨rfl, U11⟩)
                    | (go_at_call 21; (with_reducible refine (t21 (PV.rd (PM.out.up U11.out)) (PV.rd (PL.out.up U11.out)) HN.out.2 (fun _ _ => rfl)).mono ?_); rintro e w12 ⟨rfl, U12⟩; (have cm := cell_up CM0.out (U11.out.trans U12.out)); (have hc3 : j + 1 ≤ c2 := hc2))
                    | (go_at_call 12; (with_reducible refine (t12 _).mono ?_); rintro e w13 ⟨rfl, U13⟩))
                  go_ret
                  exact ⟨rfl, UF.out.trans (U11.out.trans (U12.out.trans U13.out))⟩
theorem t5 {w : World} {p : Option Addr} {n cap : Nat} (m s : Nat) {P : Nat → Plt} (hV : n ≤ 1000000 → PV w p n cap P) : Calls Try.prog 5 #[.slice p n cap, .float .f64 m, .float .f64 s] w fun e w' => e = .returned (.bool true) ∧ Hid (Up w w') := by
  by_cases h : 1024 < n
  · exact t5big h
  · exact t5ok (hV (by omega)) (by omega)
end Go.Proofs.Ytijfmaepoamkgaa
