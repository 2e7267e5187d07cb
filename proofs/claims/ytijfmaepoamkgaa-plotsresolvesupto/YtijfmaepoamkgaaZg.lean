/- The document's Merge: the walk. -/
import Derived.Test.YtijfmaepoamkgaaZd
import Derived.Maps.AppendAt
namespace Go.Proofs.Ytijfmaepoamkgaa
open Go.ChangeShapes Go.WideShapes Go.ChangeAt Go.RowKit Go.Fl Go.Sort
attribute [local go_sem] run_store_float run_neg fold_eq fold_ne fold_lt fold_gt abs_eq

theorem info4b : (Try.prog.info? 4).map (fun i => (i.zero, i.size, i.bytes)) = some (some (.bool false), 1, 1) := by kernel_rfl
theorem info22b : (Try.prog.info? 22).map (fun i => (i.zero, i.size, i.bytes)) = some (some (.float .f64 0), 1, 8) := by kernel_rfl
theorem made_b (n : Nat) : (madeCells #[Value.bool false] n).toList = (List.replicate n false).map be := by
  rw [toList_madeCells_one]
  simp [be]
theorem RM.start {w W w1 : World} {g n : Nat} {o : List Nat} {po : Option Addr} {co : Nat} (hu : Up w W) (ho : OPl w.heap.size W (.slice po n co) o) (hg : W.heap.size = g) (hown : w1.ownsRow 0 4 1 (.slice (some ⟨g, 0, none⟩) n n) n (madeCells #[Value.bool false] n).toList) (hgr : W.grownBy w1 none) : RM w w1 g n o po co (.slice none 0 0) [] (List.replicate n false) := by
  refine ⟨grown_up hu hgr (fun j hj => by cases hj), by have := hu.size; omega, owns_grown (OR.base ho (Nat.zero_le _)) hgr (fun x hx => by cases hx), fun k hk => by have := (ho.lt k hk).2; omega, ?_, PO.nil _ _⟩
  rw [made_b] at hown
  unfold OR
  simpa using hown
/-- A power is appended. -/
theorem wpList_pushP {ops : Array Oper} {rest : List Oper} {o : Oper} {a : Act} {Q : Exit → Act → World → Prop} (hgd : o.guard = none) (s x : Operand) (ho : o.op = .call { callee := .builtin .append, args := #[s, x], argTypes := #[71, 71] })
    {b : Nat} {w : World} (p : Option Addr) (m c : Nat) (L : List Nat) (y : Nat) (hs : a.eval s = .slice p m c) (hx : a.eval x = .slice (some ⟨w.heap.size, 0, none⟩) 1 1) (HO : OR fq 22 b w (.slice p m c) L) (hl : L.length = m) (hb : b ≤ w.heap.size) (hm : m ≤ 2000000)
    (h : ∀ p' c' w', Hid (OR fq 22 b w' (.slice p' (m + 1) c') (L ++ [y])) → Hid ((w.alloc (.cells #[.float .f64 y] 22)).grownBy w' (Value.slice p m c).ownBlock) → wpList Try.prog ops Q rest (a.put o.dst (.slice p' (m + 1) c')) w') : wpList Try.prog ops Q (o :: rest) a (w.alloc (.cells #[.float .f64 y] 22)) := by
  obtain ⟨i0, hi, hz0, hz2, hz3⟩ := info_parts info22b
  have HO' : (w.alloc (.cells #[.float .f64 y] 22)).ownsRow b 22 1 (.slice p m c) L.length (L.map fq) := World.ownsRow.alloc HO _
  refine wpList_append_own_at _ hgd s x 71 ho b 22 i0 (.float .f64 0) 1 8 Try.underlying71 hi hz0 hz2 hz3 rfl (by decide) _ _ _ hs HO' ⟨w.heap.size, 0, none⟩ 1 1 [.float .f64 y] hx rfl (one_new _ _ _) (one_cellV rfl) (by unfold maxLen; omega) (by omega) (by simp; omega) ?_
  intro v' w' h1 h2 _ _
  obtain ⟨p', c', hv, _⟩ := own_form h1
  rw [hl] at hv
  subst hv
  refine h p' c' w' ?_ h2
  show w'.ownsRow _ _ _ _ _ _
  rw [List.length_append, List.map_append]
  exact h1
theorem nodup_of {P : Nat → Plt} {n : Nat} {o : List Nat} (h : InOrd P n o) : o.Nodup := h.perm.nodup_iff.2 List.nodup_range
theorem arr_at {L : List Nat} {j : Nat} (h : j < L.length) : L.toArray[j]! = L[j]! := by
  rw [getElem!_pos L j h, getElem!_pos L.toArray j (by simpa using h)]; simp
theorem map_at {l : List Nat} (f : Nat → Nat) {j : Nat} (h : j < l.length) : (l.map f)[j]! = f l[j]! := by
  rw [getElem!_pos l j h, getElem!_pos _ j (by simpa using h)]; simp
/-- The sum of the powers that were laid. -/
theorem t41p {b : Nat} {w : World} {p : Option Addr} {n cap : Nat} {P : Nat → Plt} {a : Nat} {l : List Nat} (h : OR fq 22 b w (.slice p n cap) ((a :: l).map fun x => (P x).p)) (hn : n ≤ 1000000) : Calls Try.prog 41 #[.slice p n cap] w (FR w (addAll P (ab (P a).p) l)) := by
  have hl := h.len
  rw [List.length_map, List.length_cons] at hl
  obtain ⟨p', c', e, hg⟩ := OR.form h
  simp only [Value.slice.injEq] at e
  obtain ⟨g, hg⟩ := hg (by simp)
  have hp := e.1.trans hg
  subst hp
  have hs : (((a :: l).map fun x => (P x).p).toArray).size = n := by simp [← hl]
  have hR : Reads w g 0 ((a :: l).map fun x => (P x).p).toArray := by
    intro j hj
    have hj' : j < ((a :: l).map fun x => (P x).p).length := by simpa using hj
    rw [Nat.zero_add, OR.cell h hj', arr_at hj']
    rfl
  have := t41 g 0 cap _ w hR (by rw [hs]; omega) (by rw [hs]; omega)
  rw [hs] at this
  refine this.mono ?_
  rintro e w' ⟨r, k, h1, h2, h3⟩
  refine ⟨r, k, h1, h2, ?_⟩
  show _ = _
  rw [h3.out, ← sum_add P a l]
  unfold sumD
  rw [hs, ← hl]
  refine sumN_congr _ fun i hi => ?_
  have h6 : i < (a :: l).length := by simp; omega
  show ab (((a :: l).map fun x => (P x).p).toArray[i]!) = ab (P ((a :: l)[i]!)).p
  rw [arr_at (by rw [List.length_map]; exact h6), map_at _ h6]
theorem bx_cell {w : World} {pb : Nat} {cs : Array Value} {t : TypeId} (h : w.heap[pb]? = some (.cells cs t (0, 0))) (i : Nat) : w.cell? ⟨pb, i, none⟩ = cs[i]? := by
  unfold World.cell?
  simp [h]
theorem bx_frz {w : World} {pb : Nat} {cs : Array Value} {t : TypeId} (h : w.heap[pb]? = some (.cells cs t (0, 0))) (i : Nat) : w.frozen? ⟨pb, i, none⟩ = false := by
  unfold World.frozen?
  simp [h]
theorem RM.box {w wr w2 : World} {g n pb : Nat} {o : List Nat} {po : Option Addr} {co : Nat} {vs : Value} {D : List Plt} {H : List Bool} (h : RM w wr g n o po co vs D H) (hb : But pb wr w2) (h1 : g < pb) (h2 : vs.ownBlock ≠ some pb) : RM w w2 g n o po co vs D H := by
  refine ⟨hb.up h.up (by have := h.big; omega), h.big, OR.far h.ord hb (fun e => ?_), h.olt, OR.far h.had hb (fun e => ?_), owns_grown h.out hb (fun x hx e => ?_)⟩
  · have := h.olt _ e; omega
  · simp only [Value.ownBlock, Option.some.injEq] at e; omega
  · cases hx
    exact h2 e
/-- What is kept while the inner loop goes. -/
structure RQ (w wx : World) (g n : Nat) (o : List Nat) (po : Option Addr) (co : Nat) (vs : Value) (D : List Plt) (Hc : List Bool) (pb : Nat) (K : Plt) (vp : Value) (L : List Nat) : Prop where
  rm : RM w wx g n o po co vs D Hc
  pw : OR fq 22 (pb + 1) wx vp L
  bx : wx.heap[pb]? = some (.cells #[.float .f64 K.r, .float .f64 K.s, .float .f64 K.p, .float .f64 K.b, .float .f64 K.t] 28 (0, 0))
  sz : pb < wx.heap.size
  gt : g < pb
  nv : vs.ownBlock ≠ some pb
theorem RQ.upon {w wx w2 : World} {g n : Nat} {o : List Nat} {po : Option Addr} {co : Nat} {vs : Value} {D : List Plt} {Hc : List Bool} {pb : Nat} {K : Plt} {vp : Value} {L : List Nat} (h : RQ w wx g n o po co vs D Hc pb K vp L) (hu : Up wx w2) : RQ w w2 g n o po co vs D Hc pb K vp L :=
  ⟨h.rm.upon hu, owns_up h.pw hu, by rw [hu.block pb h.sz]; exact h.bx, Nat.lt_of_lt_of_le h.sz hu.size, h.gt, h.nv⟩
theorem RQ.put {w wx : World} {g n : Nat} {o : List Nat} {po : Option Addr} {co : Nat} {vs : Value} {D : List Plt} {Hc : List Bool} {pb : Nat} {K : Plt} {vp : Value} {L : List Nat} (h : RQ w wx g n o po co vs D Hc pb K vp L) (k : Nat) : RQ w (wx.setCell ⟨g, k, none⟩ (.bool true)) g n o po co vs D (Hc.set k true) pb K vp L := by
  obtain ⟨s1, s2⟩ := h.rm.put k
  have hg := h.gt
  refine ⟨s1, owns_grown h.pw s2 (fun x hx e => ?_), by rw [s2.block pb h.sz (by simp; omega)]; exact h.bx, Nat.lt_of_lt_of_le h.sz s2.size, h.gt, h.nv⟩
  cases hx
  have := (h.pw.lt _ e).1
  omega
theorem RQ.more {w wx wa w2 : World} {g n : Nat} {o : List Nat} {po : Option Addr} {co : Nat} {vs : Value} {D : List Plt} {Hc : List Bool} {pb : Nat} {K : Plt} {vp vp' : Value} {L L' : List Nat} (h : RQ w wx g n o po co vs D Hc pb K vp L) (ha : Up wx wa) (h1 : OR fq 22 (pb + 1) w2 vp' L') (hg : wa.grownBy w2 vp.ownBlock) : RQ w w2 g n o po co vs D Hc pb K vp' L' := by
  have h2 := h.upon ha
  have hne : some pb ≠ vp.ownBlock := fun e => by have := (h2.pw.lt pb e.symm).1; omega
  exact ⟨h.rm.more (OR.base h.pw (by have := h.gt; omega)) ha hg, h1, by rw [hg.block pb h2.sz hne]; exact h2.bx, Nat.lt_of_lt_of_le h2.sz hg.size, h.gt, h.nv⟩
theorem but_set (w : World) (b i : Nat) (v : Value) : But b w (w.setCell ⟨b, i, none⟩ v) := ⟨rfl, rfl, rfl, by simp, fun k _ hk => heap_setCell_other w ⟨b, i, none⟩ k _ (fun e => hk (by rw [e]))⟩
theorem nodup_ne {o : List Nat} (h : o.Nodup) {i j : Nat} (hi : i < o.length) (hj : j < o.length) (hij : j ≠ i) : o[j]! ≠ o[i]! := by
  rw [getElem!_pos o i hi, getElem!_pos o j hj]
  intro e
  have hp := List.pairwise_iff_getElem.1 h
  rcases Nat.lt_or_gt_of_ne hij with q | q
  · exact hp j i hj hi q e
  · exact hp i j hi hj q e.symm
set_option maxHeartbeats 8000000 in
set_option maxRecDepth 20000 in
theorem t19 {w : World} {p : Option Addr} {n cap m s : Nat} {P : Nat → Plt} (hV : PV w p n cap P) (few : n ≤ 1024) : Calls Try.prog 19 #[.slice p n cap, .float .f64 m, .float .f64 s] w (MerR w P n m s) := by
  have HV : Hid (PV w p n cap P) := hV
  have few2 : (n : Int) ≤ 1024 := by omega
  obtain ⟨i4, hi4, hz0, hz1, hz2⟩ := info_parts info4b
  obtain ⟨i28, hi28, y0, y1, y2⟩ := info_parts info28
  have CO : Hid (Calls Try.prog 18 #[.slice p n cap] w (OrdR w P n)) := t18 hV few
  clear hV
  go_enter Try.func19, Try.ntmps19
  go_wp2_with (first
    | (go_at_call 18; (with_reducible refine CO.out.mono ?_); rintro e w2 ⟨po, co, o, rfl, HO⟩)
    | (refine wpList_make_full _ rfl _ _ 64 rfl 0 4 i4 (.bool false) 1 Try.underlying64 hi4 hz0 hz1 .i64 .i64 _ _ n rfl rfl rfl rfl (by rw [hz2]; omega) (by unfold maxLen; omega) (by omega) ?_; intro w3 hown hgr; revert hown hgr))
  intro hown hgr
  obtain ⟨g, hg⟩ : ∃ g, w2.heap.size = g := ⟨_, rfl⟩
  rw [hg] at hown ⊢
  have HR0 : Hid (RM w w3 g n o po co (.slice none 0 0) [] (List.replicate n false)) := RM.start HO.out.2.2 HO.out.2.1 hg hown hgr
  have HIn : Hid (InOrd P n o ∧ o.length = n ∧ o.Nodup) := ⟨HO.out.1, HO.out.1.length, nodup_of HO.out.1⟩
  clear CO HO hown hgr hg
  go_wp2
  go_loopw [9, 10, 11, 12, 13, 14, 15] (fun v9 v10 _ _ _ _ _ wr => ∃ (i c : Nat) (q : Option Addr) (D : List Plt) (Hb : List Bool) (T : List (Nat × Option Nat)), i ≤ n ∧ v9 = .slice q D.length c ∧ v10 = .int .i64 i ∧ Hid (RM w wr g n o po co (.slice q D.length c) D Hb) ∧ Hid (Tld P T D ∧ mg P m s o = T ++ mg P m s (unt (fun x => Hb[x]!) o i) ∧ D.length ≤ i ∧ Hb.length = n)) (fun _ v10 _ _ _ _ _ _ => n - (intOf v10).toNat)
  case atStart => exact ⟨0, 0, none, [], _, [], by omega, rfl, rfl, HR0, Tld.nil _, by
      have : unt (fun x => (List.replicate n false)[x]!) o 0 = o := by
        unfold unt
        rw [List.drop_zero, List.filter_eq_self]
        intro x hx
        show (!(List.replicate n false)[x]!) = true
        rw [rep_at false (HIn.out.1.mem.1 hx)]; rfl
      rw [this]; rfl, by simp, by simp⟩
  case round =>
    clear HR0
    obtain ⟨i, c, q, D, Hb, T, hi, rfl, rfl, HR, HT⟩ := hrel
    rename World => wr
    by_cases hlt : i < n
    · obtain ⟨og, hog⟩ : ∃ g, po = some ⟨g, 0, none⟩ := by
        obtain ⟨p', c', e1, e2⟩ := OR.form HR.out.ord
        simp only [Value.slice.injEq] at e1
        rw [e1.1]
        exact e2 (by rw [HIn.out.2.1]; omega)
      subst hog
      have hio : i < o.length := by rw [HIn.out.2.1]; exact hlt
      have ck := OR.cell HR.out.ord hio
      have kn := HIn.out.1.at hlt
      obtain ⟨k, hk⟩ : ∃ k, o[i]! = k := ⟨_, rfl⟩
      rw [hk] at ck kn
      unfold nv at ck
      have ch := OR.cell HR.out.had (i := k) (by rw [HT.out.2.2.2]; exact kn)
      obtain ⟨tk, htk⟩ : ∃ b, Hb[k]! = b := ⟨_, rfl⟩
      rw [htk] at ch
      unfold be at ch
      have HK : Hid (o[i]! = k ∧ k < n ∧ Hb[k]! = tk ∧ i < o.length) := ⟨hk, kn, htk, hio⟩
      have kn2 : (k : Int) < n := by omega
      have y3 : (i : Int) < n := by omega
      clear hk htk hio
      cases tk with
      | true =>
        go_wp2
        go_roundw
        case rel => exact ⟨i + 1, c, q, D, Hb, T, by omega, rfl, by go_num, HR, HT.out.1, by rw [← unt_taken HK.out.2.2.2 (by rw [HK.out.1]; exact HK.out.2.2.1)]; exact HT.out.2.1, by have := HT.out.2.2.1; omega, HT.out.2.2.2⟩
        case measure => simp [intOf]; omega
      | false =>
        obtain ⟨b, off, rfl, hP⟩ := HV.out.rd (by omega)
        have HP : Hid (∀ i, i < n → P5 w b (off + i * 5) (P i)) := hP
        obtain ⟨a0, a1, a2, a3, a4⟩ := (hP k kn).up HR.out.up
        have HR1 : Hid (RM w (wr.alloc (.cells #[.float .f64 (P k).r, .float .f64 (P k).s, .float .f64 (P k).p, .float .f64 (P k).b, .float .f64 (P k).t] 28)) g n o (some ⟨og, 0, none⟩) co (.slice q D.length c) D Hb) := HR.out.upon (Up.alloc _ _)
        have HBB : Hid (B5 (wr.alloc (.cells #[.float .f64 (P k).r, .float .f64 (P k).s, .float .f64 (P k).p, .float .f64 (P k).b, .float .f64 (P k).t] 28)) wr.heap.size (P k).r (P k).s (P k).p (P k).b (P k).t) := B5.new _ _ _ _ _ _ _
        have HPb : Hid (g + 1 ≤ wr.heap.size) := by have := (OR.at_ HR.out.had).2; show _ ≤ _; omega
        have HVS : Hid ((Value.slice q D.length c).ownBlock ≠ some wr.heap.size) := fun e => by have := (HR.out.out.lt _ e).2; omega
        have HBX : Hid ((wr.alloc (.cells #[.float .f64 (P k).r, .float .f64 (P k).s, .float .f64 (P k).p, .float .f64 (P k).b, .float .f64 (P k).t] 28)).heap[wr.heap.size]? = some (.cells #[.float .f64 (P k).r, .float .f64 (P k).s, .float .f64 (P k).p, .float .f64 (P k).b, .float .f64 (P k).t] 28 (0, 0))) := heap_alloc_last _ _
        have HSz : Hid (wr.heap.size < (wr.alloc (.cells #[.float .f64 (P k).r, .float .f64 (P k).s, .float .f64 (P k).p, .float .f64 (P k).b, .float .f64 (P k).t] 28)).heap.size) := by show _ < _; simp
        clear hP
        go_wp2
        clear ck ch a0 a1 a2 a3 a4
        generalize hpb : wr.heap.size = pb at *
        generalize wr.alloc (.cells #[.float .f64 (P k).r, .float .f64 (P k).s, .float .f64 (P k).p, .float .f64 (P k).b, .float .f64 (P k).t] 28) = w5 at *
        have HI0 : Hid (RQ w w5 g n o (some ⟨og, 0, none⟩) co (.slice q D.length c) D Hb pb (P k) (.slice none 0 0) []) := ⟨HR1.out, OR.nil _ _ _ _, HBX.out, HSz.out, by have := HPb.out; omega, HVS.out⟩
        clear HR1 HBB HBX HSz HPb HVS HR
        go_loopw [12, 13, 14, 15] (fun v12 v13 _ _ wx => ∃ (j c2 : Nat) (q2 : Option Addr) (L : List Nat) (Hc : List Bool), i ≤ j ∧ j ≤ n ∧ v12 = .slice q2 L.length c2 ∧ v13 = .int .i64 j ∧ Hid (RQ w wx g n o (some ⟨og, 0, none⟩) co (.slice q D.length c) D Hc pb (P k) (.slice q2 L.length c2) L) ∧ Hid (GI P m s o i Hb Hc L j n ∧ L.length ≤ j)) (fun _ v13 _ _ _ => n - (intOf v13).toNat)
        case atStart => exact ⟨i, 0, none, [], Hb, Nat.le_refl _, hi, rfl, rfl, HI0, GI.start HT.out.2.2.2, by simp⟩
        case round =>
          clear HI0
          obtain ⟨j, c2, q2, L, Hc, hij, hj, rfl, rfl, HI, HG⟩ := hrel
          rename World => wx
          by_cases hlt2 : j < n
          · have hjo : j < o.length := by rw [HIn.out.2.1]; exact hlt2
            have ck := OR.cell HI.out.rm.ord hjo
            have jn := HIn.out.1.at hlt2
            obtain ⟨kj, hkj⟩ : ∃ k, o[j]! = k := ⟨_, rfl⟩
            rw [hkj] at ck jn
            unfold nv at ck
            have ch := OR.cell HI.out.rm.had (i := kj) (by rw [HG.out.1.len]; exact jn)
            have fh := OR.frz HI.out.rm.had kj
            obtain ⟨tk, htk⟩ : ∃ b, Hc[kj]! = b := ⟨_, rfl⟩
            rw [htk] at ch
            unfold be at ch
            obtain ⟨a0, a1, a2, a3, a4⟩ := (HP.out kj jn).up HI.out.rm.up
            have HKJ : Hid (o[j]! = kj ∧ kj < n ∧ Hc[kj]! = tk ∧ j < o.length) := ⟨hkj, jn, htk, hjo⟩
            have HI1 : Hid (RQ w (wx.alloc (.cells #[.float .f64 (P kj).r, .float .f64 (P kj).s, .float .f64 (P kj).p, .float .f64 (P kj).b, .float .f64 (P kj).t] 28)) g n o (some ⟨og, 0, none⟩) co (.slice q D.length c) D Hc pb (P k) (.slice q2 L.length c2) L) := HI.out.upon (Up.alloc _ _)
            have HQ : Hid (B5 (wx.alloc (.cells #[.float .f64 (P kj).r, .float .f64 (P kj).s, .float .f64 (P kj).p, .float .f64 (P kj).b, .float .f64 (P kj).t] 28)) wx.heap.size (P kj).r (P kj).s (P kj).p (P kj).b (P kj).t) := B5.new _ _ _ _ _ _ _
            have HGQ : Hid (g < wx.heap.size ∧ pb < wx.heap.size ∧ og < wx.heap.size) := by
              have h1 := HI.out.sz
              have h2 := HI.out.gt
              exact ⟨by omega, h1, (HI.out.rm.ord.lt og rfl).2⟩
            have kn3 : (kj : Int) < n := by omega
            have y4 : (j : Int) < n := by omega
            clear hkj htk hjo
            go_upto_region 14 with (fail)
            clear a0 a1 a2 a3 a4 ck ch fh HI
            generalize hqb : wx.heap.size = qb at *
            generalize wx.alloc (.cells #[.float .f64 (P kj).r, .float .f64 (P kj).s, .float .f64 (P kj).p, .float .f64 (P kj).b, .float .f64 (P kj).t] 28) = wy at *
            obtain ⟨e0, e1, -, -, -⟩ := HQ.out
            have d0 : wy.cell? ⟨pb, 0, none⟩ = some (.float .f64 (P k).r) := bx_cell HI1.out.bx 0
            have d1 : wy.cell? ⟨pb, 1, none⟩ = some (.float .f64 (P k).s) := bx_cell HI1.out.bx 1
            clear hqb
            by_cases hji : j = i
            · have q0 : ((j : Int) == (i : Int)) = true := by rw [hji]; simp
              have q0' : (j : Int) = (i : Int) := by omega
              go_upto_region 15 with (fail)
              have HZ : Hid (RQ w (wy) g n o (some ⟨og, 0, none⟩) co (.slice q D.length c) D Hc pb (P k) (.slice q2 L.length c2) L) := HI1.out.upon (Up.refl _)
              have EQ : Hid (B5 (wy) qb (P kj).r (P kj).s (P kj).p (P kj).b (P kj).t) := HQ.out.up (Up.refl _)
              have HNN : Hid (nn P m s o[i]! kj = true) := by show _ = _; unfold nn; rw [← HKJ.out.1, hji]; simp
              clear HI1 HQ d0 d1 e0 e1
              generalize wy = wz at *
              clear q0 q0' hji
              have ck := OR.cell HZ.out.rm.ord HKJ.out.2.2.2
              rw [HKJ.out.1] at ck
              unfold nv at ck
              have ch := OR.cell HZ.out.rm.had (i := kj) (by rw [HG.out.1.len]; exact jn)
              rw [HKJ.out.2.2.1] at ch
              unfold be at ch
              have fh := OR.frz HZ.out.rm.had kj
              cases tk with
              | true =>
                go_wp2
                go_roundw
                case rel => exact ⟨j + 1, c2, q2, L, Hc, by omega, by omega, rfl, by go_num, HZ, HG.out.1.skip HIn.out.2.2 hij HKJ.out.2.2.2 (by rw [HKJ.out.1]; exact HKJ.out.2.1) (by rw [HKJ.out.1, HNN.out, HKJ.out.2.2.1]; rfl), by have := HG.out.2; omega⟩
                case measure => simp [intOf]; omega
              | false =>
                have HZ2 : Hid (RQ w (wz.setCell ⟨g, kj, none⟩ (.bool true)) g n o (some ⟨og, 0, none⟩) co (.slice q D.length c) D (Hc.set kj true) pb (P k) (.slice q2 L.length c2) L) := HZ.out.put kj
                have e2 : (wz.setCell ⟨g, kj, none⟩ (.bool true)).cell? ⟨qb, 2, none⟩ = some (.float .f64 (P kj).p) := by
                  rw [World.cell?_setCell_other _ _ _ _ (by simp only [ne_eq, Addr.mk.injEq, not_and]; intro q; have := HGQ.out.1; omega)]
                  exact EQ.out.k2
                go_upto_region 17 with (fail)
                clear ck ch fh
                generalize wz.setCell ⟨g, kj, none⟩ (.bool true) = wv at *
                have HSS : Hid (L.length ≤ 2000000 ∧ pb + 1 ≤ wv.heap.size) := ⟨by have := HG.out.2; omega, HZ2.out.sz⟩
                go_wp2_with (at_builtin; refine wpList_pushP (b := pb + 1) rfl _ _ rfl q2 L.length c2 L (P kj).p rfl rfl HZ2.out.pw rfl HSS.out.2 HSS.out.1 ?_; intro q3 c3 w7 O7 G7; (have HZ7 : Hid (RQ w w7 g n o (some ⟨og, 0, none⟩) co (.slice q D.length c) D (Hc.set kj true) pb (P k) (.slice q3 (L.length + 1) c3) (L ++ [(P kj).p])) := HZ2.out.more (Up.alloc _ _) O7.out G7.out))
                go_roundw
                case rel =>
                  refine ⟨j + 1, c3, q3, L ++ [(P kj).p], Hc.set kj true, by omega, by omega, by rw [List.length_append]; rfl, by go_num, by rw [List.length_append]; exact HZ7, ?_, by rw [List.length_append]; have := HG.out.2; simp; omega⟩
                  have := HG.out.1.take HIn.out.2.2 hij HKJ.out.2.2.2 (by rw [HKJ.out.1]; exact HKJ.out.2.1) (by rw [HKJ.out.1]; exact HNN.out) (by rw [HKJ.out.1]; exact HKJ.out.2.2.1)
                  rw [HKJ.out.1] at this
                  exact this
                case measure => simp [intOf]; omega
            · have q0 : ((j : Int) == (i : Int)) = false := by rw [beq_eq_false_iff_ne]; omega
              have HNE : Hid (nn P m s o[i]! kj = nearB m s (P kj) (P k)) := by
                show _ = _
                unfold nn
                rw [← HKJ.out.1, decide_eq_false (nodup_ne HIn.out.2.2 HK.out.2.2.2 HKJ.out.2.2.2 hji), Bool.false_or, HK.out.1]
              cases h1 : withB (P kj).r (P k).r m with
              | false =>
                have H1 : Hid (withB (P kj).r (P k).r m = false) := h1
                clear h1
                go_upto_region 15 with (first
                  | ((with_reducible refine upon_fl (by simp) ?_); intro r1 n1 hr1; (have l1 : (ltF (ab (Go.Fl.abs r1)) (ab m) || eqF (ab (Go.Fl.abs r1)) (ab m)) = false := by have := H1.out; unfold withB at this; rw [ab_abs, hr1.out]; exact this))
                  | (go_at_call 40; (with_reducible refine (t40 _ _).mono ?_); rintro e wt ⟨rfl, hw⟩; subst wt))
                have HZ : Hid (RQ w (wy.drewN n1) g n o (some ⟨og, 0, none⟩) co (.slice q D.length c) D Hc pb (P k) (.slice q2 L.length c2) L) := HI1.out.upon (Up.drewN _ _)
                have EQ : Hid (B5 (wy.drewN n1) qb (P kj).r (P kj).s (P kj).p (P kj).b (P kj).t) := HQ.out.up (Up.drewN _ _)
                have HNN : Hid (nn P m s o[i]! kj = false) := by show _ = _; rw [HNE.out]; unfold nearB; rw [H1.out]; rfl
                clear HI1 HQ d0 d1 e0 e1
                generalize wy.drewN n1 = wz at *
                clear q0 l1 hr1
                go_wp2
                go_roundw
                case rel => exact ⟨j + 1, c2, q2, L, Hc, by omega, by omega, rfl, by go_num, HZ, HG.out.1.skip HIn.out.2.2 hij HKJ.out.2.2.2 (by rw [HKJ.out.1]; exact HKJ.out.2.1) (by rw [HKJ.out.1, HNN.out, HKJ.out.2.2.1]; rfl), by have := HG.out.2; omega⟩
                case measure => simp [intOf]; omega
              | true =>
                have H1 : Hid (withB (P kj).r (P k).r m = true) := h1
                clear h1
                cases h2 : withB (P kj).s (P k).s s with
                | false =>
                  have H2 : Hid (withB (P kj).s (P k).s s = false) := h2
                  clear h2
                  go_upto_region 15 with (first
                    | ((with_reducible refine upon_fl (x := (P kj).r) (by simp) ?_); intro r1 n1 hr1; (have l1 : (ltF (ab (Go.Fl.abs r1)) (ab m) || eqF (ab (Go.Fl.abs r1)) (ab m)) = true := by have := H1.out; unfold withB at this; rw [ab_abs, hr1.out]; exact this))
                    | ((with_reducible refine upon_fl (x := (P kj).s) (by simp) ?_); intro r2 n2 hr2; (have l2 : (ltF (ab (Go.Fl.abs r2)) (ab s) || eqF (ab (Go.Fl.abs r2)) (ab s)) = false := by have := H2.out; unfold withB at this; rw [ab_abs, hr2.out]; exact this))
                    | (go_at_call 40; (with_reducible refine (t40 _ _).mono ?_); rintro e wt ⟨rfl, hw⟩; subst wt))
                  have HZ : Hid (RQ w (wy.drewN (n1 + n2)) g n o (some ⟨og, 0, none⟩) co (.slice q D.length c) D Hc pb (P k) (.slice q2 L.length c2) L) := HI1.out.upon (Up.drewN _ _)
                  have EQ : Hid (B5 (wy.drewN (n1 + n2)) qb (P kj).r (P kj).s (P kj).p (P kj).b (P kj).t) := HQ.out.up (Up.drewN _ _)
                  have HNN : Hid (nn P m s o[i]! kj = false) := by show _ = _; rw [HNE.out]; unfold nearB; rw [H1.out, H2.out]; rfl
                  clear HI1 HQ d0 d1 e0 e1
                  generalize wy.drewN (n1 + n2) = wz at *
                  clear q0 l1 hr1 l2 hr2
                  go_wp2
                  go_roundw
                  case rel => exact ⟨j + 1, c2, q2, L, Hc, by omega, by omega, rfl, by go_num, HZ, HG.out.1.skip HIn.out.2.2 hij HKJ.out.2.2.2 (by rw [HKJ.out.1]; exact HKJ.out.2.1) (by rw [HKJ.out.1, HNN.out, HKJ.out.2.2.1]; rfl), by have := HG.out.2; omega⟩
                  case measure => simp [intOf]; omega
                | true =>
                  have H2 : Hid (withB (P kj).s (P k).s s = true) := h2
                  clear h2
                  go_upto_region 15 with (first
                    | ((with_reducible refine upon_fl (x := (P kj).r) (by simp) ?_); intro r1 n1 hr1; (have l1 : (ltF (ab (Go.Fl.abs r1)) (ab m) || eqF (ab (Go.Fl.abs r1)) (ab m)) = true := by have := H1.out; unfold withB at this; rw [ab_abs, hr1.out]; exact this))
                    | ((with_reducible refine upon_fl (x := (P kj).s) (by simp) ?_); intro r2 n2 hr2; (have l2 : (ltF (ab (Go.Fl.abs r2)) (ab s) || eqF (ab (Go.Fl.abs r2)) (ab s)) = true := by have := H2.out; unfold withB at this; rw [ab_abs, hr2.out]; exact this))
                    | (go_at_call 40; (with_reducible refine (t40 _ _).mono ?_); rintro e wt ⟨rfl, hw⟩; subst wt))
                  have HZ : Hid (RQ w (wy.drewN (n1 + n2)) g n o (some ⟨og, 0, none⟩) co (.slice q D.length c) D Hc pb (P k) (.slice q2 L.length c2) L) := HI1.out.upon (Up.drewN _ _)
                  have EQ : Hid (B5 (wy.drewN (n1 + n2)) qb (P kj).r (P kj).s (P kj).p (P kj).b (P kj).t) := HQ.out.up (Up.drewN _ _)
                  have HNN : Hid (nn P m s o[i]! kj = true) := by show _ = _; rw [HNE.out]; unfold nearB; rw [H1.out, H2.out]; rfl
                  clear HI1 HQ d0 d1 e0 e1
                  generalize wy.drewN (n1 + n2) = wz at *
                  clear q0 l1 hr1 l2 hr2
                  have ck := OR.cell HZ.out.rm.ord HKJ.out.2.2.2
                  rw [HKJ.out.1] at ck
                  unfold nv at ck
                  have ch := OR.cell HZ.out.rm.had (i := kj) (by rw [HG.out.1.len]; exact jn)
                  rw [HKJ.out.2.2.1] at ch
                  unfold be at ch
                  have fh := OR.frz HZ.out.rm.had kj
                  cases tk with
                  | true =>
                    go_wp2
                    go_roundw
                    case rel => exact ⟨j + 1, c2, q2, L, Hc, by omega, by omega, rfl, by go_num, HZ, HG.out.1.skip HIn.out.2.2 hij HKJ.out.2.2.2 (by rw [HKJ.out.1]; exact HKJ.out.2.1) (by rw [HKJ.out.1, HNN.out, HKJ.out.2.2.1]; rfl), by have := HG.out.2; omega⟩
                    case measure => simp [intOf]; omega
                  | false =>
                    have HZ2 : Hid (RQ w (wz.setCell ⟨g, kj, none⟩ (.bool true)) g n o (some ⟨og, 0, none⟩) co (.slice q D.length c) D (Hc.set kj true) pb (P k) (.slice q2 L.length c2) L) := HZ.out.put kj
                    have e2 : (wz.setCell ⟨g, kj, none⟩ (.bool true)).cell? ⟨qb, 2, none⟩ = some (.float .f64 (P kj).p) := by
                      rw [World.cell?_setCell_other _ _ _ _ (by simp only [ne_eq, Addr.mk.injEq, not_and]; intro q; have := HGQ.out.1; omega)]
                      exact EQ.out.k2
                    go_upto_region 17 with (fail)
                    clear ck ch fh
                    generalize wz.setCell ⟨g, kj, none⟩ (.bool true) = wv at *
                    have HSS : Hid (L.length ≤ 2000000 ∧ pb + 1 ≤ wv.heap.size) := ⟨by have := HG.out.2; omega, HZ2.out.sz⟩
                    go_wp2_with (at_builtin; refine wpList_pushP (b := pb + 1) rfl _ _ rfl q2 L.length c2 L (P kj).p rfl rfl HZ2.out.pw rfl HSS.out.2 HSS.out.1 ?_; intro q3 c3 w7 O7 G7; (have HZ7 : Hid (RQ w w7 g n o (some ⟨og, 0, none⟩) co (.slice q D.length c) D (Hc.set kj true) pb (P k) (.slice q3 (L.length + 1) c3) (L ++ [(P kj).p])) := HZ2.out.more (Up.alloc _ _) O7.out G7.out))
                    go_roundw
                    case rel =>
                      refine ⟨j + 1, c3, q3, L ++ [(P kj).p], Hc.set kj true, by omega, by omega, by rw [List.length_append]; rfl, by go_num, by rw [List.length_append]; exact HZ7, ?_, by rw [List.length_append]; have := HG.out.2; simp; omega⟩
                      have := HG.out.1.take HIn.out.2.2 hij HKJ.out.2.2.2 (by rw [HKJ.out.1]; exact HKJ.out.2.1) (by rw [HKJ.out.1]; exact HNN.out) (by rw [HKJ.out.1]; exact HKJ.out.2.2.1)
                      rw [HKJ.out.1] at this
                      exact this
                    case measure => simp [intOf]; omega
          · obtain rfl : j = n := by omega
            have hd := HG.out.1.done HIn.out.2.2 HIn.out.2.1 (fun x hx => HIn.out.1.mem.1 hx) hlt (by rw [HK.out.1]; exact HK.out.2.2.1)
            rw [HK.out.1] at hd
            obtain ⟨l, hl⟩ : ∃ l, (unt (fun x => Hb[x]!) o (i + 1)).filter (fun x => nearB m s (P x) (P k)) = l := ⟨_, rfl⟩
            rw [hl] at hd
            have HLL : Hid (L = (k :: l).map (fun x => (P x).p)) := hd.1
            have T41 : Hid (Calls Try.prog 41 #[.slice q2 L.length c2] wx (FR wx (addAll P (ab (P k).p) l))) := by
              have hp := HI.out.pw
              rw [HLL.out] at hp ⊢
              exact t41p hp (by rw [← HLL.out]; have := HG.out.2; omega)
            have HTS : Hid (mg P m s o = (T ++ [(k, addAll P (ab (P k).p) l)]) ++ mg P m s (unt (fun x => Hc[x]!) o (i + 1))) := by
              have := mg_step (H' := fun x => Hc[x]!) HK.out.2.2.2 (by show Hb[o[i]!]! = false; rw [HK.out.1]; exact HK.out.2.2.1) HT.out.2.1 (by rw [HK.out.1]; exact hd.2)
              rw [HK.out.1, hl] at this
              exact this
            clear hd hl
            go_upto_region 19 with (go_at_call 41; (with_reducible refine T41.out.mono ?_); rintro e w6 ⟨pr, kk, rfl, rfl, HPR⟩; (have HZ1 : Hid (RQ w (wx.drewN kk) g j o (some ⟨og, 0, none⟩) co (.slice q D.length c) D Hc pb (P k) (.slice q2 L.length c2) L) := HI.out.upon (Up.drewN _ _)); (have d2 : (wx.drewN kk).cell? ⟨pb, 2, none⟩ = some (.float .f64 (P k).p) := bx_cell HZ1.out.bx 2); (have f2 := bx_frz HZ1.out.bx 2))
            clear HI T41
            have hc : ((wx.drewN kk).cell? ⟨pb, 2, none⟩).isSome = true := by rw [d2]; rfl
            have HRV : Hid (RM w ((wx.drewN kk).setCell ⟨pb, 2, none⟩ (.float .f64 pr)) g j o (some ⟨og, 0, none⟩) co (.slice q D.length c) D Hc) := HZ1.out.rm.box (but_set _ _ _ _) HZ1.out.gt HZ1.out.nv
            have r0 : ((wx.drewN kk).setCell ⟨pb, 2, none⟩ (.float .f64 pr)).cell? ⟨pb, 0, none⟩ = some (.float .f64 (P k).r) := by rw [World.cell?_setCell_other _ _ _ _ (by simp)]; exact bx_cell HZ1.out.bx 0
            have r1 : ((wx.drewN kk).setCell ⟨pb, 2, none⟩ (.float .f64 pr)).cell? ⟨pb, 1, none⟩ = some (.float .f64 (P k).s) := by rw [World.cell?_setCell_other _ _ _ _ (by simp)]; exact bx_cell HZ1.out.bx 1
            have r2 : ((wx.drewN kk).setCell ⟨pb, 2, none⟩ (.float .f64 pr)).cell? ⟨pb, 2, none⟩ = some (.float .f64 pr) := World.cell?_setCell_same' _ _ _ hc
            have r3 : ((wx.drewN kk).setCell ⟨pb, 2, none⟩ (.float .f64 pr)).cell? ⟨pb, 3, none⟩ = some (.float .f64 (P k).b) := by rw [World.cell?_setCell_other _ _ _ _ (by simp)]; exact bx_cell HZ1.out.bx 3
            have r4 : ((wx.drewN kk).setCell ⟨pb, 2, none⟩ (.float .f64 pr)).cell? ⟨pb, 4, none⟩ = some (.float .f64 (P k).t) := by rw [World.cell?_setCell_other _ _ _ _ (by simp)]; exact bx_cell HZ1.out.bx 4
            clear d2 f2 hc HZ1
            generalize hwv : (wx.drewN kk).setCell ⟨pb, 2, none⟩ (.float .f64 pr) = wv at *
            have HOw : Hid (wv.ownsRow (g + 1) 28 5 (.slice q D.length c) D.length (fl5 D)) := HRV.out.out
            have HDn : Hid (D.length ≤ 1024 ∧ g + 1 ≤ wv.heap.size) := ⟨by have := HT.out.2.2.1; omega, by have := (OR.at_ HRV.out.had).2; omega⟩
            go_wp2_with (at_builtin; refine wpList_append_own _ rfl _ _ 44 rfl (g + 1) 28 i28 (.agg #[.float .f64 0, .float .f64 0, .float .f64 0, .float .f64 0, .float .f64 0]) 5 40 Try.underlying44 hi28 y0 y1 y2 rfl (by decide) _ _ _ rfl (HOw.out.alloc _) ⟨wv.heap.size, 0, none⟩ 1 1 (pL ((P k).pow pr)) rfl rfl (five_new _ ((P k).pow pr) _) (five_one _) (by have := HDn.out.1; unfold maxLen; omega) (by have := HDn.out.1; omega) (by have := HDn.out.2; simp; omega) ?_; intro v4 w4 hown4 hgrow4 hnil4; (obtain ⟨q4, c4, hv4, -⟩ := own_form hown4); subst hv4; (have HN4 : Hid (RM w w4 g j o (some ⟨og, 0, none⟩) co (.slice q4 (D.length + 1) c4) (D ++ [(P k).pow pr]) Hc) := HRV.out.app (Up.alloc _ _) hown4 hgrow4); clear hown4 hgrow4 hnil4)
            go_roundw
            case rel => exact ⟨i + 1, c4, q4, D ++ [(P k).pow pr], Hc, T ++ [(k, addAll P (ab (P k).p) l)], by omega, by rw [List.length_append]; rfl, by go_num, by rw [List.length_append]; exact HN4, HT.out.1.snoc HPR.out, HTS.out, by rw [List.length_append]; have := HT.out.2.2.1; simp; omega, HG.out.1.len⟩
            case measure => simp [intOf]; omega
    · obtain rfl : i = n := by omega
      go_wp2
      go_ret
      have e : unt (fun x => Hb[x]!) o i = [] := by rw [← HIn.out.2.1]; exact unt_end
      have e2 : mg P m s o = T := by
        rw [HT.out.2.1, e]; simp [mg]
      exact ⟨q, c, o, D, rfl, HIn.out.1, by rw [e2]; exact HT.out.1, po_base HR.out.out (by have := HR.out.big; omega), HR.out.up⟩
end Go.Proofs.Ytijfmaepoamkgaa
