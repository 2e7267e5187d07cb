/- release: what is released by a tick waits. -/
import Derived.Test.YtjklaemhfhakhaaNc
import Derived.Test.YtjklaemhfhakhaaKd
import Derived.Deep.AppendLies
import Derived.Deep.DeepCutAuto
namespace Go.Proofs.Ytjklaemhfhakhaa
open Go.ChangeShapes Go.WideShapes Go.ChangeAt Go.RowKit

theorem info114 : (Try.prog.info? 114).map (fun i => (i.zero, i.size, i.bytes)) = some (some (.agg #[.int .i64 0, .int .i64 0, .int .i64 0, .int .i64 0, .int .i64 0]), 5, 40) := by kernel_rfl
theorem JAt.news {w : World} {b : Nat} {z : Jr} (h : JAt w b 0 z) : ∀ (j : Nat) (u : Value), (jL z)[j]? = some u → w.cell? ((⟨b, 0, none⟩ : Addr).add j) = some u := by
  intro j u hj
  rw [addr_add, Nat.zero_add]
  obtain ⟨h0, h1, h2, h3, h4⟩ := h
  simp only [Nat.zero_add] at h1 h2 h3 h4
  match j, hj with
  | 0, hj => simp [jL] at hj; subst hj; exact h0
  | 1, hj => simp [jL] at hj; subst hj; exact h1
  | 2, hj => simp [jL] at hj; subst hj; exact h2
  | 3, hj => simp [jL] at hj; subst hj; exact h3
  | 4, hj => simp [jL] at hj; subst hj; exact h4
  | j + 5, hj => simp [jL] at hj
/-- One more that waits. -/
theorem wpOp_jo {ops : Array Oper} {Q : Exit → Act → World → Prop} {K : Act → World → Prop} {a : Act} {w : World} {m : Nat} {o : Oper} (d : Option Tmp) (ho : ops[m]? = some o) (hd : o.dst = d) (hg : o.guard = none) (s x : Operand) (hop : o.op = .call { callee := .builtin .append, args := #[s, x], argTypes := #[74, 74] })
    {p : Option Addr} {n c b : Nat} {D : List Jr} {z : Jr} (hs : a.eval s = .slice p n c) (hx : a.eval x = .slice (some ⟨b, 0, none⟩) 1 1) (HO : JO w (.slice p n c) D) (hn : D.length = n) (hz : JAt w b 0 z) (hm : n ≤ 2000000)
    (h : ∀ g c' w', Hid (JO w' (.slice (some ⟨g, 0, none⟩) (n + 1) c') (D ++ [z])) → Hid (w.grownBy w' (Value.slice p n c).ownBlock) → Hid ((Value.slice p n c).ownBlock = some g ∨ g = w.heap.size) → K (a.put d (.slice (some ⟨g, 0, none⟩) (n + 1) c')) w') : wpOp Try.prog ops Q m K a w := by
  subst hd
  subst hn
  obtain ⟨i0, hi, hz0, hz1, hz2⟩ := info_parts info114
  unfold wpOp
  have hw : Region.wanted o (yielded ops a.tmps) = true := by simp [Region.wanted, hg]
  simp only [ho, hw, if_true]
  left
  refine wp_append_lies w s x 74 hop 0 114 i0 (.agg #[.int .i64 0, .int .i64 0, .int .i64 0, .int .i64 0, .int .i64 0]) 5 40 Try.underlying74 hi hz0 hz1 hz2 rfl (by decide) (.slice p D.length c) D.length (fl5 D) hs HO ⟨b, 0, none⟩ 1 1 (jL z) hx rfl hz.news (jL_one z) (by omega) (by unfold maxLen; omega) (by omega) (Nat.zero_le _) _ rfl (fun g cap w' k1 k2 k3 _ => h g cap w' ?_ k2 k3)
  show w'.ownsRow 0 114 5 _ (D ++ [z]).length (fl5 (D ++ [z]))
  rw [fl5_app, List.length_append]
  have e : fl5 [z] = jL z := by simp [fl5]
  rw [e]
  exact k1
theorem last_same {e l r : Int} : ∀ {D : List Jr} {T : Nat} {j : Jr}, D.length = T + 1 → D[T]? = some j → sameL e l r D = decide (j.e = e ∧ j.l = l ∧ j.r = r)
  | [], _, _, h, _ => by simp at h
  | [a], T, j, h, hj => by
    obtain rfl : T = 0 := by simpa using h.symm
    simp only [List.getElem?_cons_zero, Option.some.injEq] at hj
    subst hj
    rfl
  | a :: b :: t, T, j, h, hj => by
    obtain ⟨T', rfl⟩ : ∃ T', T = T' + 1 := ⟨T - 1, by simp only [List.length_cons] at h; omega⟩
    exact last_same (D := b :: t) (T := T') (by simpa using h) (by simpa using hj)
theorem last_chain {nx : Int} : ∀ {D : List Jr} {T : Nat} {j : Jr}, D.length = T + 1 → D[T]? = some j → chain nx D → j.f + j.k * j.e = nx
  | [], _, _, h, _, _ => by simp at h
  | [a], T, j, h, hj, hc => by
    obtain rfl : T = 0 := by simpa using h.symm
    simp only [List.getElem?_cons_zero, Option.some.injEq] at hj
    subst hj
    exact hc
  | a :: b :: t, T, j, h, hj, hc => by
    obtain ⟨T', rfl⟩ : ∃ T', T = T' + 1 := ⟨T - 1, by simp only [List.length_cons] at h; omega⟩
    exact last_chain (D := b :: t) (T := T') (by simpa using h) (by simpa using hj) hc.2
theorem fl5_cons (j : Jr) (D : List Jr) : fl5 (j :: D) = jL j ++ fl5 D := List.flatMap_cons
theorem bump_set {N : Int} : ∀ {D : List Jr} {T : Nat} {j : Jr}, D.length = T + 1 → D[T]? = some j → (fl5 D).set (T * 5 + 1) (.int .i64 (j.k + N)) = fl5 (bump N D)
  | [], _, _, h, _ => by simp at h
  | [a], T, j, h, hj => by
    obtain rfl : T = 0 := by simpa using h.symm
    simp only [List.getElem?_cons_zero, Option.some.injEq] at hj
    subst hj
    rfl
  | a :: b :: t, T, j, h, hj => by
    obtain ⟨T', rfl⟩ : ∃ T', T = T' + 1 := ⟨T - 1, by simp only [List.length_cons] at h; omega⟩
    have ih := bump_set (N := N) (D := b :: t) (T := T') (j := j) (by simpa using h) (by simpa using hj)
    rw [bump, fl5_cons a (b :: t), fl5_cons a (bump N (b :: t)), ← ih, show (T' + 1) * 5 + 1 = (T' * 5 + 1) + 5 by omega]
    rfl
/-- More that waits, of the last kind. -/
theorem RW.bump {V : World} {L : RL} {n : Nat} {a : Int} {X : Nat → On} (h : RW V L n a X) (hL : L.Ok n) {i : Nat} (hi : i < n) {c T g : Nat} (hV : L.V i = .slice (some ⟨g, 0, none⟩) (T + 1) c) {j : Jr} (hl : (X i).w.length = T + 1) (hj : (X i).w[T]? = some j) (N : Int) :
    RW (V.setCell ⟨g, T * 5 + 1, none⟩ (.int .i64 (j.k + N))) L n a (upd X i { X i with w := Go.Proofs.Ytjklaemhfhakhaa.bump N (X i).w }) ∧ RKept n V (V.setCell ⟨g, T * 5 + 1, none⟩ (.int .i64 (j.k + N))) L L := by
  have hg : g ≠ L.bl := (hL.vp i hi g (by rw [hV]; simp [Value.ownBlock])).2
  have hkp : Kp (fun b => b ≠ g) V (V.setCell ⟨g, T * 5 + 1, none⟩ (.int .i64 (j.k + N))) := Kp.set _ _ (fun q => q rfl) _
  have hw := h.wt i hi
  have := h.one hL hi (x' := { X i with w := Go.Proofs.Ytjklaemhfhakhaa.bump N (X i).w }) (v' := L.V i) (hkp.mono (fun b _ q e => q.2 (by rw [hV, e]; simp [Value.ownBlock]))) (fun j' _ _ k' _ => World.cell?_setCell_other _ _ _ _ (fun e => by simp only [Addr.mk.injEq] at e; exact hg e.1)) (by
      have o := (h.at' i hi).kp hkp (fun e => hg e.symm)
      exact ⟨o.e, o.l, o.r, o.nx, o.wv, o.lf⟩) (by
      rw [hV] at hw ⊢
      unfold JO at hw ⊢
      rw [bump_len, ← bump_set hl hj, hl]
      rw [hl] at hw
      exact (World.ownsRow.stored hw (T * 5 + 1) _).1) (fun k' => by rw [World.frozen?_setCell]; exact h.fl (by omega) k') (fun g' e => Or.inl e)
  rwa [RL.setV_self] at this
theorem RW.app {V w5 : World} {L : RL} {n : Nat} {a : Int} {X : Nat → On} (h : RW V L n a X) (hL : L.Ok n) {i : Nat} (hi : i < n) {p : Option Addr} {m c g c' k : Nat} (hV : L.V i = .slice p m c) {E : List Jr} (hJ : JO w5 (.slice (some ⟨g, 0, none⟩) k c') E) (hg : V.grownBy w5 (Value.slice p m c).ownBlock) (hb : (Value.slice p m c).ownBlock = some g ∨ g = V.heap.size) :
    RW (w5.setCell ⟨L.bl, i * 6 + 4, none⟩ (.slice (some ⟨g, 0, none⟩) k c')) (L.setV i (.slice (some ⟨g, 0, none⟩) k c')) n a (upd X i { X i with w := E }) ∧ RKept n V (w5.setCell ⟨L.bl, i * 6 + 4, none⟩ (.slice (some ⟨g, 0, none⟩) k c')) L (L.setV i (.slice (some ⟨g, 0, none⟩) k c')) := by
  have hll := h.ll (by omega)
  have hnb : ∀ g', (Value.slice p m c).ownBlock = some g' → g' ≠ L.bl := fun g' e => (hL.vp i hi g' (by rw [hV]; exact e)).2
  have hgb : g ≠ L.bl := by
    rcases hb with e | e
    · exact hnb g e
    · omega
  have hkg : Kp (fun b => some b ≠ (Value.slice p m c).ownBlock) V w5 := Kp.grown hg
  have hbl : some L.bl ≠ (Value.slice p m c).ownBlock := fun e => hnb _ e.symm rfl
  have hbb : ∀ k', w5.cell? ⟨L.bl, k', none⟩ = V.cell? ⟨L.bl, k', none⟩ := fun k' => World.cell?_of_block (a := ⟨L.bl, k', none⟩) (hkg.block L.bl hbl hll)
  have hon : OnAt w5 L.bl (i * 6) (X i) (L.V i) := (h.at' i hi).kp hkg hbl
  refine h.one hL hi ?_ (fun j hj hji k' hk' => ?_) (hon.setW _ E) ?_ (fun k' => ?_) (fun g' e => ?_)
  · rw [hV]
    exact (hkg.mono (fun b _ q => q.2)).setCell (fun q => q.1 rfl) _
  · rw [World.cell?_setCell_other _ _ _ _ (fun e => by simp only [Addr.mk.injEq] at e; omega)]
    exact hbb _
  · exact hJ.kp (Kp.set (fun b => b ≠ L.bl) _ (fun q => q rfl) _) (fun r hr => by
      have : g = r := by simpa [Value.ownBlock] using hr
      omega)
  · rw [World.frozen?_setCell]
    exact hkg.frozen (a := ⟨L.bl, k', none⟩) hbl hll (h.fl (by omega) k')
  · have : g = g' := by simpa [Value.ownBlock] using e
    subst this
    rw [hV]
    rcases hb with e | e
    · exact Or.inl e
    · exact Or.inr (by omega)
def relX (X : Nat → On) (t : Int) (i j : Nat) : On := if j < i then relO (X j) t else X j
theorem relX_at (X : Nat → On) (t : Int) (i : Nat) : relX X t i i = X i := if_neg (Nat.lt_irrefl i)
theorem relX_next (X : Nat → On) (t : Int) (i : Nat) : upd (relX X t i) i (relO (X i) t) = relX X t (i + 1) := by
  funext j
  unfold upd relX
  by_cases e : j = i
  · subst e; rw [if_pos rfl, if_pos (by omega)]
  · rw [if_neg e]
    by_cases q : j < i
    · rw [if_pos q, if_pos (by omega)]
    · rw [if_neg q, if_neg (by omega)]
theorem relX_done {X Y : Nat → On} {t : Int} {i : Nat} (h : ∀ j, Y j = if j = i then relO (X i) t else relX X t i j) : ∀ j, Y j = relX X t (i + 1) j := fun j => by
  rw [h j, ← relX_next]
  rfl
/-- What a call of the document's plan has left. -/
def RelR (w : World) (L : RL) (n : Nat) (a : Int) (Y : Nat → On) (e : Ending) (w' : World) : Prop := e = .returned (.tuple #[]) ∧ ∃ L', Hid (RW w' L' n a Y) ∧ Hid (RKept n w w' L L')
set_option maxRecDepth 200000 in
set_option maxHeartbeats 16000000 in
theorem t44 {w : World} {L : RL} {n : Nat} {a : Int} {X : Nat → On} (h : RW w L n a X) (hL : L.Ok n) (hn : n ≤ 256) {t : Int} (hok : ∀ i, i < n → (X i).Ok a) (h0 : -1 ≤ a) (hat : a ≤ t) (ht : t ≤ 1152921504606846976) (hlen : ∀ i, i < n → (X i).w.length ≤ 1000000) : Calls Try.prog 44 #[.pointer (some ⟨L.bp, 0, none⟩), .int .i64 t] w (RelR w L n a (relX X t n)) := by
  have H : Hid (RW w L n a (relX X t 0)) := h.congr (fun i _ => (if_neg (by omega)).symm)
  have HL : Hid (L.Ok n) := hL
  have HOK : Hid (∀ i, i < n → (X i).Ok a) := hok
  have HLEN : Hid (∀ i, i < n → (X i).w.length ≤ 1000000) := hlen
  clear h hL hok hlen
  go_enter Try.func44, Try.ntmps44
  go_wp2_with fail
  go_loopw [4] (fun v4 wr => ∃ i : Nat, i ≤ n ∧ v4 = .int .i64 i ∧ ∃ L1, Hid (RW wr L1 n a (relX X t i)) ∧ Hid (RKept n w wr L L1)) (fun v4 _ => n - (intOf v4).toNat)
  case atStart => exact ⟨0, by omega, rfl, L, H, RKept.of_up HL.out (Up.refl _)⟩
  case round =>
    clear H
    obtain ⟨i, hi, rfl, L1, HW, HK⟩ := hrel
    rename World => wr
    have y0 : (0 : Int) ≤ (i : Int) := by omega
    have p0 := HW.out.p0
    have HBP : Hid (L1.bp = L.bp) := HK.out.bp
    have hbp := HK.out.bp
    rw [hbp] at p0
    have p9 := HW.out.lt
    rw [hbp] at p9
    clear hbp
    by_cases hin : i < n
    · have b0 : (i : Int) < (n : Int) := by omega
      have hat' := HW.out.at' i hin
      rw [relX_at] at hat'
      have hwt := HW.out.wt i hin
      rw [relX_at] at hwt
      have hx := HOK.out i hin
      have hlx := HLEN.out i hin
      have hps := HW.out.ps (by omega)
      have hll := HW.out.ll (by omega)
      have HFL : Hid (∀ k, wr.frozen? ⟨L1.bl, k, none⟩ = false) := HW.out.fl (by omega)
      rw [hps] at p0
      clear hps
      obtain ⟨xx, hxx⟩ : ∃ xx, X i = xx := ⟨_, rfl⟩
      rw [hxx] at hat' hwt hx hlx
      have HX : Hid (X i = xx) := hxx
      clear hxx
      obtain ⟨e, l, r, nx, D, lf⟩ := xx
      obtain ⟨pv, cv, hv, hcap, hpp⟩ := hwt.form
      simp only at hat' hwt hx hlx hv hcap hpp
      obtain ⟨m, hm⟩ : ∃ m, D.length = m := ⟨_, rfl⟩
      have HM : Hid (D.length = m) := hm
      have HV : Hid (L1.V i = .slice pv D.length cv) := hv
      rw [hv] at hat' hwt
      rw [hm] at hlx hcap hpp hat' hwt
      obtain ⟨x0, x1, x2, x3, x4, x5⟩ := hat'
      simp only at x0 x1 x2 x3 x4 x5
      have HXO : Hid (On.Ok ⟨e, l, r, nx, D, lf⟩ a) := hx
      obtain ⟨m1, m2, m3⟩ := hx.may
      obtain ⟨lo1, lo2⟩ := hx.lo
      simp only at m1 m2 m3 lo1 lo2
      have HJO : Hid (JO wr (.slice pv m cv) D) := hwt
      clear hwt hv hx hm
      by_cases hnt : t < nx
      · go_wp2_with fail
        go_roundw
        case rel => exact ⟨i + 1, by omega, by go_num, L1, by rw [← relX_next, HX.out, relO_lt hnt]; exact HW.out.congr (fun j _ => by
          unfold upd
          by_cases q : j = i
          · subst q; rw [if_pos rfl, relX_at, HX.out]
          · rw [if_neg q]), HK⟩
        case measure => simp [intOf]; omega
      · obtain ⟨r1, r2, r3⟩ := relN_bd (x := ⟨e, l, r, nx, D, lf⟩) (a := t) (by show nx ≤ t; omega) (by show 1 ≤ e; omega)
        have HN : Hid (relN ⟨e, l, r, nx, D, lf⟩ t = (t - nx) / e + 1) := rfl
        generalize hN : relN ⟨e, l, r, nx, D, lf⟩ t = N at *
        have HNN : Hid (relN ⟨e, l, r, nx, D, lf⟩ t = N) := hN
        clear hN
        simp only at r2 r3
        have q0 : Int.tdiv (t - nx) e = N - 1 := by rw [Int.tdiv_eq_ediv_of_nonneg (by omega)]; have := HN.out; omega
        have hNle : N ≤ N * e := by
          have := Int.mul_le_mul_of_nonneg_left (show 1 ≤ e by omega) (show 0 ≤ N by omega)
          omega
        have d1 : IntKind.i64.wrap (t - nx) = t - nx := by rw [IntKind.wrap_i64]; omega
        have d2 : IntKind.i64.wrap (N - 1) = N - 1 := by rw [IntKind.wrap_i64]; omega
        have d3 : IntKind.i64.wrap (N - 1 + 1) = N := by rw [IntKind.wrap_i64]; omega
        have d6 : ¬ e = 0 := by omega
        go_wp2_with fail
        go_region
        clear d1 d2 d3 q0
        have HNT : Hid (¬ t < nx) := by show ¬ t < nx; omega
        have HKd : Hid (RKept n w wr.drew L L1) := HK.out.trans (RKept.of_up HK.out.ok (Up.drew _))
        have HWd : Hid (RW wr.drew L1 n a (upd (relX X t i) i ⟨e, l, r, nx, D, lf⟩)) := (HW.out.up (Up.drew _)).congr (fun j _ => by
          unfold upd
          by_cases q : j = i
          · subst q; rw [if_pos rfl, relX_at, HX.out]
          · rw [if_neg q])
        have HJd : Hid (JO wr.drew (.slice pv m cv) D) := HJO.out.kp (Kp.of_up (Up.drew _)) (F := fun _ => True) (fun _ _ => trivial)
        have HFd : Hid (∀ k, wr.drew.frozen? ⟨L1.bl, k, none⟩ = false) := HWd.out.fl (by omega)
        have hld := HWd.out.ll (by omega)
        replace p0 := cell_up p0 (Up.drew wr)
        replace p9 : L.bp < wr.drew.heap.size := Nat.lt_of_lt_of_le p9 (Up.drew wr).size
        replace x0 := cell_up x0 (Up.drew wr)
        replace x1 := cell_up x1 (Up.drew wr)
        replace x2 := cell_up x2 (Up.drew wr)
        replace x3 := cell_up x3 (Up.drew wr)
        replace x4 := cell_up x4 (Up.drew wr)
        replace x5 := cell_up x5 (Up.drew wr)
        clear HK HW HJO HFL hll b0 hpp
        generalize wr.drew = wd at *
        by_cases hD : D = []
        · obtain rfl : m = 0 := by rw [← HM.out, hD]; rfl
          have HEQ : Hid (relO (X i) t = ⟨e, l, r, nx + N * e, D ++ [⟨nx, N, e, l, r⟩], l⟩) := by
            rw [HX.out, relO_new (x := ⟨e, l, r, nx, D, lf⟩) HNT.out (show sameL _ _ _ D = false by rw [hD]; rfl), HNN.out]
            show On.mk _ _ _ _ _ (if D = [] then l else lf) = _
            rw [if_pos hD]
          have fz := HFd.out (i * 6 + 5)
          obtain ⟨g1, g2⟩ := HWd.out.setLf HKd.out.ok hin l
          have HW1 : Hid (RW (wd.setCell ⟨L1.bl, i * 6 + 5, none⟩ (.int .i64 l)) L1 n a (upd (relX X t i) i ⟨e, l, r, nx, D, l⟩)) := g1.congr (fun j _ => by
            unfold upd
            by_cases q : j = i
            · subst q; rw [if_pos rfl, if_pos rfl, if_pos rfl]
            · rw [if_neg q, if_neg q, if_neg q])
          have HK1 : Hid (RKept n w (wd.setCell ⟨L1.bl, i * 6 + 5, none⟩ (.int .i64 l)) L L1) := HKd.out.trans g2
          clear g1 g2
          go_upto_region 9 with fail
          have HV1 : Hid (L1.V i = .slice pv 0 cv) := by have := HV.out; rw [HM.out] at this; exact this
          have HO1 : Hid (OnAt (wd.setCell ⟨L1.bl, i * 6 + 5, none⟩ (.int .i64 l)) L1.bl (i * 6) ⟨e, l, r, nx, D, l⟩ (.slice pv 0 cv)) := by have := HW1.out.at' i hin; rw [upd_at, HV1.out] at this; exact this
          have HJ1 : Hid (JO (wd.setCell ⟨L1.bl, i * 6 + 5, none⟩ (.int .i64 l)) (.slice pv 0 cv) D) := by have := HW1.out.wt i hin; rw [upd_at, HV1.out] at this; exact this
          clear HWd HKd HJd HFd hld p0 p9 x0 x1 x2 x3 x4 x5 fz
          generalize wd.setCell ⟨L1.bl, i * 6 + 5, none⟩ (.int .i64 l) = W1 at *
          go_region
          replace HW1 : Hid (RW W1.drew L1 n a (upd (relX X t i) i ⟨e, l, r, nx, D, l⟩)) := HW1.out.up (Up.drew _)
          replace HO1 : Hid (OnAt W1.drew L1.bl (i * 6) ⟨e, l, r, nx, D, l⟩ (.slice pv 0 cv)) := HO1.out.up (Up.drew _)
          replace HJ1 : Hid (JO W1.drew (.slice pv 0 cv) D) := HJ1.out.kp (Kp.of_up (Up.drew _)) (F := fun _ => True) (fun _ _ => trivial)
          replace HK1 : Hid (RKept n w W1.drew L L1) := HK1.out.trans (RKept.of_up HK1.out.ok (Up.drew _))
          generalize W1.drew = W1 at *
          go_wp2_with fail
          refine wp_region_shut 17 [(0, none), (1, none), (2, none), (3, none), (4, some false), (5, none), (6, none), (7, none), (8, some false), (9, none), (10, none), (11, none), (12, none), (13, some false), (14, none), (15, some true), (16, some true)] (fun v => OnAt v L1.bl (i * 6) ⟨e, l, r, nx, D, l⟩ (.slice pv 0 cv)) (by kernel_rfl) (by decide) rfl (by kernel_rfl) (fun _ _ d _ _ h => by cases d <;> exact h) (HO1.out.up (Up.drew _)) ?_
          refine OrdS.looks (.pointer (some ⟨L1.bl, i * 6, none⟩)) (some 96) _ rfl rfl (Or.inl ⟨by kernel_rfl, fun w' hS => ?_⟩) ?_
          · go_simp
          refine OrdS.looks (.pointer (some ⟨L1.bl, i * 6, none⟩)) (some 97) _ rfl rfl (Or.inl ⟨by kernel_rfl, fun w' hS => ?_⟩) ?_
          · go_simp
          refine OrdS.looks (.pointer (some ⟨L1.bl, i * 6, none⟩)) (some 98) _ rfl rfl (Or.inl ⟨by kernel_rfl, fun w' hS => ?_⟩) ?_
          · go_simp
          refine OrdS.looks (.pointer (some ⟨L1.bl, i * 6 + 4, none⟩)) (some 99) _ rfl rfl (Or.inl ⟨by kernel_rfl, fun w' hS => ?_⟩) ?_
          · go_simp
          refine OrdS.reads (.slice pv 0 cv) (some 100) _ rfl rfl (Or.inl ⟨by kernel_rfl, fun w' hS => ?_⟩) ?_
          · obtain ⟨k0, k1, k2, k3, k4, k5⟩ := hS
            simp only at k0 k1 k2 k3 k4 k5
            go_simp
          refine OrdS.looks (.pointer (some ⟨L1.bl, i * 6, none⟩)) (some 101) _ rfl rfl (Or.inl ⟨by kernel_rfl, fun w' hS => ?_⟩) ?_
          · go_simp
          refine OrdS.looks (.pointer (some ⟨L1.bl, i * 6, none⟩)) (some 102) _ rfl rfl (Or.inl ⟨by kernel_rfl, fun w' hS => ?_⟩) ?_
          · go_simp
          refine OrdS.looks (.pointer (some ⟨L1.bl, i * 6 + 3, none⟩)) (some 103) _ rfl rfl (Or.inl ⟨by kernel_rfl, fun w' hS => ?_⟩) ?_
          · go_simp
          refine OrdS.reads (.int .i64 nx) (some 104) _ rfl rfl (Or.inl ⟨by kernel_rfl, fun w' hS => ?_⟩) ?_
          · obtain ⟨k0, k1, k2, k3, k4, k5⟩ := hS
            simp only at k0 k1 k2 k3 k4 k5
            go_simp
          refine OrdS.looks (.int .i64 N) (some 105) _ rfl rfl (Or.inl ⟨by kernel_rfl, fun w' hS => ?_⟩) ?_
          · go_simp
          refine OrdS.looks (.pointer (some ⟨L1.bl, i * 6, none⟩)) (some 106) _ rfl rfl (Or.inl ⟨by kernel_rfl, fun w' hS => ?_⟩) ?_
          · go_simp
          refine OrdS.looks (.pointer (some ⟨L1.bl, i * 6, none⟩)) (some 107) _ rfl rfl (Or.inl ⟨by kernel_rfl, fun w' hS => ?_⟩) ?_
          · go_simp
          refine OrdS.looks (.pointer (some ⟨L1.bl, i * 6, none⟩)) (some 108) _ rfl rfl (Or.inl ⟨by kernel_rfl, fun w' hS => ?_⟩) ?_
          · go_simp
          refine OrdS.reads (.agg #[.int .i64 e, .int .i64 l, .int .i64 r]) (some 109) _ rfl rfl (Or.inl ⟨by kernel_rfl, fun w' hS => ?_⟩) ?_
          · obtain ⟨k0, k1, k2, k3, k4, k5⟩ := hS
            simp only at k0 k1 k2 k3 k4 k5
            go_simp
          simp only [Act.put, List.setIfInBounds_toArray, List.set_cons_succ, List.set_cons_zero]
          refine OrdS.looks (.agg #[.int .i64 nx, .int .i64 N, .int .i64 e, .int .i64 l, .int .i64 r]) (some 110) _ rfl rfl (Or.inl ⟨by kernel_rfl, fun w' hS => ?_⟩) ?_
          · go_simp
          simp only [Act.put, List.setIfInBounds_toArray, List.set_cons_succ, List.set_cons_zero]
          refine OrdS.does ?_
          refine wpOp_one (v := .slice (some ⟨W1.drew.heap.size, 0, none⟩) 1 1) (w' := W1.drew.alloc (.cells #[.int .i64 nx, .int .i64 N, .int .i64 e, .int .i64 l, .int .i64 r] 114)) (some 111) rfl rfl rfl (by go_simp) ?_
          have hz : JAt (W1.drew.alloc (.cells #[.int .i64 nx, .int .i64 N, .int .i64 e, .int .i64 l, .int .i64 r] 114)) W1.drew.heap.size 0 ⟨nx, N, e, l, r⟩ := by
            have z := heap_alloc_last W1.drew (.cells #[.int .i64 nx, .int .i64 N, .int .i64 e, .int .i64 l, .int .i64 r] 114)
            exact ⟨(row_cell z 0).1, (row_cell z 1).1, (row_cell z 2).1, (row_cell z 3).1, (row_cell z 4).1⟩
          have HUV : Hid (Up W1 (W1.drew.alloc (.cells #[.int .i64 nx, .int .i64 N, .int .i64 e, .int .i64 l, .int .i64 r] 114))) := (Up.drew _).trans (Up.alloc _ _)
          generalize W1.drew.alloc (.cells #[.int .i64 nx, .int .i64 N, .int .i64 e, .int .i64 l, .int .i64 r] 114) = V at *
          generalize W1.drew.heap.size = GB at *
          have HWV : Hid (RW V L1 n a (upd (relX X t i) i ⟨e, l, r, nx, D, l⟩)) := HW1.out.up HUV.out
          have HOV : Hid (OnAt V L1.bl (i * 6) ⟨e, l, r, nx, D, l⟩ (.slice pv 0 cv)) := HO1.out.up HUV.out
          have HJV : Hid (JO V (.slice pv 0 cv) D) := HJ1.out.kp (Kp.of_up HUV.out) (F := fun _ => True) (fun _ _ => trivial)
          refine ⟨HOV.out, ?_⟩
          simp only [Act.put, List.setIfInBounds_toArray, List.set_cons_succ, List.set_cons_zero]
          refine OrdS.does ?_
          refine wpOp_jo (some 112) rfl rfl rfl _ _ rfl (D := D) (z := ⟨nx, N, e, l, r⟩) (b := GB) rfl rfl HJV.out HM.out hz (by omega) ?_
          intro g' c' w5 HJ5 HG5 HB5
          have HNB : Hid (some L1.bl ≠ (Value.slice pv 0 cv).ownBlock) := fun q => (HK1.out.ok.vp i hin _ (by rw [HV1.out]; exact q.symm)).2 rfl
          have HO5 : Hid (OnAt w5 L1.bl (i * 6) ⟨e, l, r, nx, D, l⟩ (.slice pv 0 cv)) := HOV.out.kp (Kp.grown HG5.out) HNB.out
          refine ⟨HO5.out, ?_⟩
          simp only [Act.put, List.setIfInBounds_toArray, List.set_cons_succ, List.set_cons_zero]
          obtain ⟨m1', m2'⟩ := HWV.out.app HK1.out.ok hin HV1.out HJ5.out HG5.out HB5.out
          have M1 : Hid _ := m1'
          have M2 : Hid _ := m2'
          clear m1' m2'
          have y4 := HO5.out.wv
          have f4 : w5.frozen? ⟨L1.bl, i * 6 + 4, none⟩ = false := (Kp.grown HG5.out).frozen (a := ⟨L1.bl, i * 6 + 4, none⟩) HNB.out (HWV.out.ll (by omega)) (HWV.out.fl (by omega) _)
          have s4 : L1.bl < w5.heap.size := Nat.lt_of_lt_of_le (HWV.out.ll (by omega)) HG5.out.size
          refine OrdS.ends ?_
          simp only [List.drop_succ_cons, List.drop_zero]
          go_wp2_with fail
          have HK6 : Hid (RKept n w (w5.setCell ⟨L1.bl, i * 6 + 4, none⟩ (.slice (some ⟨g', 0, none⟩) (0 + 1) c')) L (L1.setV i (.slice (some ⟨g', 0, none⟩) (0 + 1) c'))) := (HK1.out.trans (RKept.of_up HK1.out.ok HUV.out)).trans M2.out
          have HO6 : Hid (OnAt (w5.setCell ⟨L1.bl, i * 6 + 4, none⟩ (.slice (some ⟨g', 0, none⟩) (0 + 1) c')) L1.bl (i * 6) ⟨e, l, r, nx, D ++ [⟨nx, N, e, l, r⟩], l⟩ (.slice (some ⟨g', 0, none⟩) (0 + 1) c')) := by
            have := M1.out.at' i hin
            simp only [upd_at, RL.setV] at this
            exact this
          have HF6 : Hid (∀ k, (w5.setCell ⟨L1.bl, i * 6 + 4, none⟩ (.slice (some ⟨g', 0, none⟩) (0 + 1) c')).frozen? ⟨L1.bl, k, none⟩ = false) := M1.out.fl (by omega)
          have hl6 : L1.bl < (w5.setCell ⟨L1.bl, i * 6 + 4, none⟩ (.slice (some ⟨g', 0, none⟩) (0 + 1) c')).heap.size := M1.out.ll (by omega)
          generalize w5.setCell ⟨L1.bl, i * 6 + 4, none⟩ (.slice (some ⟨g', 0, none⟩) (0 + 1) c') = W6 at *
          obtain ⟨x0, x1, x2, x3, x4, x5⟩ := HO6.out
          simp only at x0 x1 x2 x3 x4 x5
          have f3 := HF6.out (i * 6 + 3)
          have d4 : IntKind.i64.wrap (N * e) = N * e := by rw [IntKind.wrap_i64]; omega
          have d5 : IntKind.i64.wrap (nx + N * e) = nx + N * e := by rw [IntKind.wrap_i64]; omega
          go_region
          obtain ⟨m3, m4⟩ := M1.out.setNx HK6.out.ok hin (nx + N * e)
          have M3 : Hid (RW (W6.setCell ⟨L1.bl, i * 6 + 3, none⟩ (.int .i64 (nx + N * e))).drew (L1.setV i (.slice (some ⟨g', 0, none⟩) (0 + 1) c')) n a (relX X t (i + 1))) := (m3.up (Up.drew _)).congr (fun j _ => by
            rw [← relX_next, HEQ.out]
            by_cases q : j = i
            · subst q
              simp only [upd_at]
            · simp only [upd_ne _ _ q])
          have M4 : Hid (RKept n w (W6.setCell ⟨L1.bl, i * 6 + 3, none⟩ (.int .i64 (nx + N * e))).drew L (L1.setV i (.slice (some ⟨g', 0, none⟩) (0 + 1) c'))) := (HK6.out.trans m4).trans (RKept.of_up m4.ok (Up.drew _))
          clear m3 m4
          go_wp2_with fail
          go_roundw
          case rel => exact ⟨i + 1, by omega, by go_num, L1.setV i (.slice (some ⟨g', 0, none⟩) (0 + 1) c'), M3, M4⟩
          case measure => simp [intOf]; omega

        · obtain ⟨T, rfl⟩ : ∃ T, m = T + 1 := ⟨m - 1, by have h1 := HM.out; cases D with | nil => exact absurd rfl hD | cons _ _ => simp only [List.length_cons] at h1; omega⟩
          obtain ⟨jj, hjj⟩ : ∃ jj, D[T]? = some jj := ⟨_, List.getElem?_eq_getElem (by rw [HM.out]; omega)⟩
          have HJJ : Hid (D[T]? = some jj) := hjj
          obtain ⟨-, gv, rfl, lgv, z, fgv⟩ := HJd.out.get hjj
          have hch := last_chain HM.out hjj HXO.out.ch
          obtain ⟨-, jk1, jf0⟩ := HXO.out.jm jj (List.mem_of_getElem? hjj)
          have hsm := last_same (e := e) (l := l) (r := r) HM.out hjj
          clear hjj
          have q1 : (((T + 1 : Nat) : Int)) - 1 = (T : Int) := by omega
          have q2 : IntKind.i64.wrap (T : Int) = (T : Int) := by rw [IntKind.wrap_i64]; omega
          have q3 : (T : Int) < ((T + 1 : Nat) : Int) := by omega
          have q4 : (0 : Int) ≤ (T : Int) := by omega
          have q5 : ¬ (((T + 1 : Nat) : Int)) = 0 := by omega
          have HV1 : Hid (L1.V i = .slice (some ⟨gv, 0, none⟩) (T + 1) cv) := by have := HV.out; rw [HM.out] at this; exact this
          obtain ⟨jf, jk, je, jl, jr⟩ := jj
          obtain ⟨z0, z1, z2, z3, z4⟩ := z
          simp only at z0 z1 z2 z3 z4 hch jk1 jf0 hsm
          by_cases s1 : je = e
          · obtain rfl : e = je := s1.symm
            by_cases s2 : jl = l
            · obtain rfl : l = jl := s2.symm
              by_cases s3 : jr = r
              · obtain rfl : r = jr := s3.symm
                clear s1 s2 s3
                have HSM : Hid (On.same ⟨e, l, r, nx, D, lf⟩ = true) := by show sameL e l r D = true; rw [hsm]; simp
                have HEQ : Hid (relO (X i) t = ⟨e, l, r, nx + N * e, bump N D, lf⟩) := by
                  rw [HX.out, relO_same (x := ⟨e, l, r, nx, D, lf⟩) HNT.out HSM.out, HNN.out]
                  show On.mk _ _ _ _ _ (if D = [] then l else lf) = _
                  rw [if_neg hD]
                have hjk : jk ≤ jk * e := by
                  have := Int.mul_le_mul_of_nonneg_left (show 1 ≤ e by omega) (show 0 ≤ jk by omega)
                  omega
                have d7 : IntKind.i64.wrap (jk + N) = jk + N := by rw [IntKind.wrap_i64]; omega
                clear hD hsm
                go_wp2_with fail
                go_region
                clear q1 q2 q5 z0 z1 z2 z3 z4 x0 x1 x2 x3 x4 x5 p0 p9 hld lgv fgv
                have HW1 : Hid (RW wd.drew L1 n a (upd (relX X t i) i ⟨e, l, r, nx, D, lf⟩)) := HWd.out.up (Up.drew _)
                have HO1 : Hid (OnAt wd.drew L1.bl (i * 6) ⟨e, l, r, nx, D, lf⟩ (.slice (some ⟨gv, 0, none⟩) (T + 1) cv)) := by have := HW1.out.at' i hin; rw [upd_at, HV1.out] at this; exact this
                have HJ1 : Hid (JO wd.drew (.slice (some ⟨gv, 0, none⟩) (T + 1) cv) D) := by have := HW1.out.wt i hin; rw [upd_at, HV1.out] at this; exact this
                have HK1 : Hid (RKept n w wd.drew L L1) := HKd.out.trans (RKept.of_up HKd.out.ok (Up.drew _))
                clear HWd HKd HJd HFd
                generalize wd.drew = W1 at *
                obtain ⟨-, gv', hgv, lgv, z, fgv⟩ := HJ1.out.get HJJ.out
                simp only [Option.some.injEq, Addr.mk.injEq, and_true] at hgv
                obtain rfl := hgv
                obtain ⟨z0, z1, z2, z3, z4⟩ := z
                obtain ⟨x0, x1, x2, x3, x4, x5⟩ := HO1.out
                simp only at z0 z1 z2 z3 z4 x0 x1 x2 x3 x4 x5
                have fz := fgv (T * 5 + 1)
                have hld := HW1.out.ll (by omega)
                clear fgv
                go_wp2_with fail
                go_region
                obtain ⟨m1', m2'⟩ := HW1.out.bump HK1.out.ok hin HV1.out (by rw [upd_at]; exact HM.out) (by rw [upd_at]; exact HJJ.out) N
                have M1 : Hid (RW (W1.setCell ⟨gv, T * 5 + 1, none⟩ (.int .i64 (jk + N))).drew L1 n a _) := m1'.up (Up.drew _)
                have HK6 : Hid (RKept n w (W1.setCell ⟨gv, T * 5 + 1, none⟩ (.int .i64 (jk + N))).drew L L1) := (HK1.out.trans m2').trans (RKept.of_up m2'.ok (Up.drew _))
                clear m1' m2'
                have HO6 : Hid (OnAt (W1.setCell ⟨gv, T * 5 + 1, none⟩ (.int .i64 (jk + N))).drew L1.bl (i * 6) ⟨e, l, r, nx, bump N D, lf⟩ (.slice (some ⟨gv, 0, none⟩) (T + 1) cv)) := by
                  have := M1.out.at' i hin
                  rw [HV1.out] at this
                  simp only [upd_at] at this
                  exact this
                have HF6 : Hid (∀ k, (W1.setCell ⟨gv, T * 5 + 1, none⟩ (.int .i64 (jk + N))).drew.frozen? ⟨L1.bl, k, none⟩ = false) := M1.out.fl (by omega)
                have hl6 : L1.bl < (W1.setCell ⟨gv, T * 5 + 1, none⟩ (.int .i64 (jk + N))).drew.heap.size := M1.out.ll (by omega)
                clear z0 z1 z2 z3 z4 x0 x1 x2 x3 x4 x5 fz hld lgv HW1 HO1 HJ1 HK1 q3 q4
                generalize (W1.setCell ⟨gv, T * 5 + 1, none⟩ (.int .i64 (jk + N))).drew = W6 at *
                go_wp2_with fail
                obtain ⟨x0, x1, x2, x3, x4, x5⟩ := HO6.out
                simp only at x0 x1 x2 x3 x4 x5
                have f3 := HF6.out (i * 6 + 3)
                have d4 : IntKind.i64.wrap (N * e) = N * e := by rw [IntKind.wrap_i64]; omega
                have d5 : IntKind.i64.wrap (nx + N * e) = nx + N * e := by rw [IntKind.wrap_i64]; omega
                go_region
                obtain ⟨m3, m4⟩ := M1.out.setNx HK6.out.ok hin (nx + N * e)
                have M3 : Hid (RW (W6.setCell ⟨L1.bl, i * 6 + 3, none⟩ (.int .i64 (nx + N * e))).drew (L1) n a (relX X t (i + 1))) := (m3.up (Up.drew _)).congr (fun j _ => by
                  rw [← relX_next, HEQ.out]
                  by_cases q : j = i
                  · subst q
                    simp only [upd_at]
                  · simp only [upd_ne _ _ q])
                have M4 : Hid (RKept n w (W6.setCell ⟨L1.bl, i * 6 + 3, none⟩ (.int .i64 (nx + N * e))).drew L (L1)) := (HK6.out.trans m4).trans (RKept.of_up m4.ok (Up.drew _))
                clear m3 m4
                go_wp2_with fail
                go_roundw
                case rel => exact ⟨i + 1, by omega, by go_num, L1, M3, M4⟩
                case measure => simp [intOf]; omega
              · have HSM : Hid (On.same ⟨e, l, r, nx, D, lf⟩ = false) := by show sameL e l r D = false; rw [hsm]; simp [s3]
                clear s1 s2
                have HEQ : Hid (relO (X i) t = ⟨e, l, r, nx + N * e, D ++ [⟨nx, N, e, l, r⟩], lf⟩) := by
                  rw [HX.out, relO_new (x := ⟨e, l, r, nx, D, lf⟩) HNT.out HSM.out, HNN.out]
                  show On.mk _ _ _ _ _ (if D = [] then l else lf) = _
                  rw [if_neg hD]
                clear hD hch hsm
                go_wp2_with fail
                go_region
                clear q1 q2 q3 q4 q5 z0 z1 z2 z3 z4 x0 x1 x2 x3 x4 x5 p0 p9 hld lgv fgv
                have HW1 : Hid (RW wd.drew L1 n a (upd (relX X t i) i ⟨e, l, r, nx, D, lf⟩)) := HWd.out.up (Up.drew _)
                have HO1 : Hid (OnAt wd.drew L1.bl (i * 6) ⟨e, l, r, nx, D, lf⟩ (.slice (some ⟨gv, 0, none⟩) (T + 1) cv)) := by have := HW1.out.at' i hin; rw [upd_at, HV1.out] at this; exact this
                have HJ1 : Hid (JO wd.drew (.slice (some ⟨gv, 0, none⟩) (T + 1) cv) D) := by have := HW1.out.wt i hin; rw [upd_at, HV1.out] at this; exact this
                have HK1 : Hid (RKept n w wd.drew L L1) := HKd.out.trans (RKept.of_up HKd.out.ok (Up.drew _))
                clear HWd HKd HJd HFd
                generalize wd.drew = W1 at *
                go_wp2_with fail
                refine wp_region_shut 17 [(0, none), (1, none), (2, none), (3, none), (4, some false), (5, none), (6, none), (7, none), (8, some false), (9, none), (10, none), (11, none), (12, none), (13, some false), (14, none), (15, some true), (16, some true)] (fun v => OnAt v L1.bl (i * 6) ⟨e, l, r, nx, D, lf⟩ (.slice (some ⟨gv, 0, none⟩) (T + 1) cv)) (by kernel_rfl) (by decide) rfl (by kernel_rfl) (fun _ _ d _ _ h => by cases d <;> exact h) (HO1.out.up (Up.drew _)) ?_
                refine OrdS.looks (.pointer (some ⟨L1.bl, i * 6, none⟩)) (some 96) _ rfl rfl (Or.inl ⟨by kernel_rfl, fun w' hS => ?_⟩) ?_
                · go_simp
                refine OrdS.looks (.pointer (some ⟨L1.bl, i * 6, none⟩)) (some 97) _ rfl rfl (Or.inl ⟨by kernel_rfl, fun w' hS => ?_⟩) ?_
                · go_simp
                refine OrdS.looks (.pointer (some ⟨L1.bl, i * 6, none⟩)) (some 98) _ rfl rfl (Or.inl ⟨by kernel_rfl, fun w' hS => ?_⟩) ?_
                · go_simp
                refine OrdS.looks (.pointer (some ⟨L1.bl, i * 6 + 4, none⟩)) (some 99) _ rfl rfl (Or.inl ⟨by kernel_rfl, fun w' hS => ?_⟩) ?_
                · go_simp
                refine OrdS.reads (.slice (some ⟨gv, 0, none⟩) (T + 1) cv) (some 100) _ rfl rfl (Or.inl ⟨by kernel_rfl, fun w' hS => ?_⟩) ?_
                · obtain ⟨k0, k1, k2, k3, k4, k5⟩ := hS
                  simp only at k0 k1 k2 k3 k4 k5
                  go_simp
                refine OrdS.looks (.pointer (some ⟨L1.bl, i * 6, none⟩)) (some 101) _ rfl rfl (Or.inl ⟨by kernel_rfl, fun w' hS => ?_⟩) ?_
                · go_simp
                refine OrdS.looks (.pointer (some ⟨L1.bl, i * 6, none⟩)) (some 102) _ rfl rfl (Or.inl ⟨by kernel_rfl, fun w' hS => ?_⟩) ?_
                · go_simp
                refine OrdS.looks (.pointer (some ⟨L1.bl, i * 6 + 3, none⟩)) (some 103) _ rfl rfl (Or.inl ⟨by kernel_rfl, fun w' hS => ?_⟩) ?_
                · go_simp
                refine OrdS.reads (.int .i64 nx) (some 104) _ rfl rfl (Or.inl ⟨by kernel_rfl, fun w' hS => ?_⟩) ?_
                · obtain ⟨k0, k1, k2, k3, k4, k5⟩ := hS
                  simp only at k0 k1 k2 k3 k4 k5
                  go_simp
                refine OrdS.looks (.int .i64 N) (some 105) _ rfl rfl (Or.inl ⟨by kernel_rfl, fun w' hS => ?_⟩) ?_
                · go_simp
                refine OrdS.looks (.pointer (some ⟨L1.bl, i * 6, none⟩)) (some 106) _ rfl rfl (Or.inl ⟨by kernel_rfl, fun w' hS => ?_⟩) ?_
                · go_simp
                refine OrdS.looks (.pointer (some ⟨L1.bl, i * 6, none⟩)) (some 107) _ rfl rfl (Or.inl ⟨by kernel_rfl, fun w' hS => ?_⟩) ?_
                · go_simp
                refine OrdS.looks (.pointer (some ⟨L1.bl, i * 6, none⟩)) (some 108) _ rfl rfl (Or.inl ⟨by kernel_rfl, fun w' hS => ?_⟩) ?_
                · go_simp
                refine OrdS.reads (.agg #[.int .i64 e, .int .i64 l, .int .i64 r]) (some 109) _ rfl rfl (Or.inl ⟨by kernel_rfl, fun w' hS => ?_⟩) ?_
                · obtain ⟨k0, k1, k2, k3, k4, k5⟩ := hS
                  simp only at k0 k1 k2 k3 k4 k5
                  go_simp
                simp only [Act.put, List.setIfInBounds_toArray, List.set_cons_succ, List.set_cons_zero]
                refine OrdS.looks (.agg #[.int .i64 nx, .int .i64 N, .int .i64 e, .int .i64 l, .int .i64 r]) (some 110) _ rfl rfl (Or.inl ⟨by kernel_rfl, fun w' hS => ?_⟩) ?_
                · go_simp
                simp only [Act.put, List.setIfInBounds_toArray, List.set_cons_succ, List.set_cons_zero]
                refine OrdS.does ?_
                refine wpOp_one (v := .slice (some ⟨W1.drew.heap.size, 0, none⟩) 1 1) (w' := W1.drew.alloc (.cells #[.int .i64 nx, .int .i64 N, .int .i64 e, .int .i64 l, .int .i64 r] 114)) (some 111) rfl rfl rfl (by go_simp) ?_
                have hz : JAt (W1.drew.alloc (.cells #[.int .i64 nx, .int .i64 N, .int .i64 e, .int .i64 l, .int .i64 r] 114)) W1.drew.heap.size 0 ⟨nx, N, e, l, r⟩ := by
                  have z := heap_alloc_last W1.drew (.cells #[.int .i64 nx, .int .i64 N, .int .i64 e, .int .i64 l, .int .i64 r] 114)
                  exact ⟨(row_cell z 0).1, (row_cell z 1).1, (row_cell z 2).1, (row_cell z 3).1, (row_cell z 4).1⟩
                have HUV : Hid (Up W1 (W1.drew.alloc (.cells #[.int .i64 nx, .int .i64 N, .int .i64 e, .int .i64 l, .int .i64 r] 114))) := (Up.drew _).trans (Up.alloc _ _)
                generalize W1.drew.alloc (.cells #[.int .i64 nx, .int .i64 N, .int .i64 e, .int .i64 l, .int .i64 r] 114) = V at *
                generalize W1.drew.heap.size = GB at *
                have HWV : Hid (RW V L1 n a (upd (relX X t i) i ⟨e, l, r, nx, D, lf⟩)) := HW1.out.up HUV.out
                have HOV : Hid (OnAt V L1.bl (i * 6) ⟨e, l, r, nx, D, lf⟩ (.slice (some ⟨gv, 0, none⟩) (T + 1) cv)) := HO1.out.up HUV.out
                have HJV : Hid (JO V (.slice (some ⟨gv, 0, none⟩) (T + 1) cv) D) := HJ1.out.kp (Kp.of_up HUV.out) (F := fun _ => True) (fun _ _ => trivial)
                refine ⟨HOV.out, ?_⟩
                simp only [Act.put, List.setIfInBounds_toArray, List.set_cons_succ, List.set_cons_zero]
                refine OrdS.does ?_
                refine wpOp_jo (some 112) rfl rfl rfl _ _ rfl (D := D) (z := ⟨nx, N, e, l, r⟩) (b := GB) rfl rfl HJV.out HM.out hz (by omega) ?_
                intro g' c' w5 HJ5 HG5 HB5
                have HNB : Hid (some L1.bl ≠ (Value.slice (some ⟨gv, 0, none⟩) (T + 1) cv).ownBlock) := fun q => (HK1.out.ok.vp i hin _ (by rw [HV1.out]; exact q.symm)).2 rfl
                have HO5 : Hid (OnAt w5 L1.bl (i * 6) ⟨e, l, r, nx, D, lf⟩ (.slice (some ⟨gv, 0, none⟩) (T + 1) cv)) := HOV.out.kp (Kp.grown HG5.out) HNB.out
                refine ⟨HO5.out, ?_⟩
                simp only [Act.put, List.setIfInBounds_toArray, List.set_cons_succ, List.set_cons_zero]
                obtain ⟨m1', m2'⟩ := HWV.out.app HK1.out.ok hin HV1.out HJ5.out HG5.out HB5.out
                have M1 : Hid _ := m1'
                have M2 : Hid _ := m2'
                clear m1' m2'
                have y4 := HO5.out.wv
                have f4 : w5.frozen? ⟨L1.bl, i * 6 + 4, none⟩ = false := (Kp.grown HG5.out).frozen (a := ⟨L1.bl, i * 6 + 4, none⟩) HNB.out (HWV.out.ll (by omega)) (HWV.out.fl (by omega) _)
                have s4 : L1.bl < w5.heap.size := Nat.lt_of_lt_of_le (HWV.out.ll (by omega)) HG5.out.size
                refine OrdS.ends ?_
                simp only [List.drop_succ_cons, List.drop_zero]
                go_wp2_with fail
                have HK6 : Hid (RKept n w (w5.setCell ⟨L1.bl, i * 6 + 4, none⟩ (.slice (some ⟨g', 0, none⟩) (T + 1 + 1) c')) L (L1.setV i (.slice (some ⟨g', 0, none⟩) (T + 1 + 1) c'))) := (HK1.out.trans (RKept.of_up HK1.out.ok HUV.out)).trans M2.out
                have HO6 : Hid (OnAt (w5.setCell ⟨L1.bl, i * 6 + 4, none⟩ (.slice (some ⟨g', 0, none⟩) (T + 1 + 1) c')) L1.bl (i * 6) ⟨e, l, r, nx, D ++ [⟨nx, N, e, l, r⟩], lf⟩ (.slice (some ⟨g', 0, none⟩) (T + 1 + 1) c')) := by
                  have := M1.out.at' i hin
                  simp only [upd_at, RL.setV] at this
                  exact this
                have HF6 : Hid (∀ k, (w5.setCell ⟨L1.bl, i * 6 + 4, none⟩ (.slice (some ⟨g', 0, none⟩) (T + 1 + 1) c')).frozen? ⟨L1.bl, k, none⟩ = false) := M1.out.fl (by omega)
                have hl6 : L1.bl < (w5.setCell ⟨L1.bl, i * 6 + 4, none⟩ (.slice (some ⟨g', 0, none⟩) (T + 1 + 1) c')).heap.size := M1.out.ll (by omega)
                generalize w5.setCell ⟨L1.bl, i * 6 + 4, none⟩ (.slice (some ⟨g', 0, none⟩) (T + 1 + 1) c') = W6 at *
                obtain ⟨x0, x1, x2, x3, x4, x5⟩ := HO6.out
                simp only at x0 x1 x2 x3 x4 x5
                have f3 := HF6.out (i * 6 + 3)
                have d4 : IntKind.i64.wrap (N * e) = N * e := by rw [IntKind.wrap_i64]; omega
                have d5 : IntKind.i64.wrap (nx + N * e) = nx + N * e := by rw [IntKind.wrap_i64]; omega
                go_region
                obtain ⟨m3, m4⟩ := M1.out.setNx HK6.out.ok hin (nx + N * e)
                have M3 : Hid (RW (W6.setCell ⟨L1.bl, i * 6 + 3, none⟩ (.int .i64 (nx + N * e))).drew (L1.setV i (.slice (some ⟨g', 0, none⟩) (T + 1 + 1) c')) n a (relX X t (i + 1))) := (m3.up (Up.drew _)).congr (fun j _ => by
                  rw [← relX_next, HEQ.out]
                  by_cases q : j = i
                  · subst q
                    simp only [upd_at]
                  · simp only [upd_ne _ _ q])
                have M4 : Hid (RKept n w (W6.setCell ⟨L1.bl, i * 6 + 3, none⟩ (.int .i64 (nx + N * e))).drew L (L1.setV i (.slice (some ⟨g', 0, none⟩) (T + 1 + 1) c'))) := (HK6.out.trans m4).trans (RKept.of_up m4.ok (Up.drew _))
                clear m3 m4
                go_wp2_with fail
                go_roundw
                case rel => exact ⟨i + 1, by omega, by go_num, L1.setV i (.slice (some ⟨g', 0, none⟩) (T + 1 + 1) c'), M3, M4⟩
                case measure => simp [intOf]; omega
            · have HSM : Hid (On.same ⟨e, l, r, nx, D, lf⟩ = false) := by show sameL e l r D = false; rw [hsm]; simp [s2]
              clear s1
              have HEQ : Hid (relO (X i) t = ⟨e, l, r, nx + N * e, D ++ [⟨nx, N, e, l, r⟩], lf⟩) := by
                rw [HX.out, relO_new (x := ⟨e, l, r, nx, D, lf⟩) HNT.out HSM.out, HNN.out]
                show On.mk _ _ _ _ _ (if D = [] then l else lf) = _
                rw [if_neg hD]
              clear hD hch hsm
              go_wp2_with fail
              go_region
              clear q1 q2 q3 q4 q5 z0 z1 z2 z3 z4 x0 x1 x2 x3 x4 x5 p0 p9 hld lgv fgv
              have HW1 : Hid (RW wd.drew L1 n a (upd (relX X t i) i ⟨e, l, r, nx, D, lf⟩)) := HWd.out.up (Up.drew _)
              have HO1 : Hid (OnAt wd.drew L1.bl (i * 6) ⟨e, l, r, nx, D, lf⟩ (.slice (some ⟨gv, 0, none⟩) (T + 1) cv)) := by have := HW1.out.at' i hin; rw [upd_at, HV1.out] at this; exact this
              have HJ1 : Hid (JO wd.drew (.slice (some ⟨gv, 0, none⟩) (T + 1) cv) D) := by have := HW1.out.wt i hin; rw [upd_at, HV1.out] at this; exact this
              have HK1 : Hid (RKept n w wd.drew L L1) := HKd.out.trans (RKept.of_up HKd.out.ok (Up.drew _))
              clear HWd HKd HJd HFd
              generalize wd.drew = W1 at *
              go_wp2_with fail
              refine wp_region_shut 17 [(0, none), (1, none), (2, none), (3, none), (4, some false), (5, none), (6, none), (7, none), (8, some false), (9, none), (10, none), (11, none), (12, none), (13, some false), (14, none), (15, some true), (16, some true)] (fun v => OnAt v L1.bl (i * 6) ⟨e, l, r, nx, D, lf⟩ (.slice (some ⟨gv, 0, none⟩) (T + 1) cv)) (by kernel_rfl) (by decide) rfl (by kernel_rfl) (fun _ _ d _ _ h => by cases d <;> exact h) (HO1.out.up (Up.drew _)) ?_
              refine OrdS.looks (.pointer (some ⟨L1.bl, i * 6, none⟩)) (some 96) _ rfl rfl (Or.inl ⟨by kernel_rfl, fun w' hS => ?_⟩) ?_
              · go_simp
              refine OrdS.looks (.pointer (some ⟨L1.bl, i * 6, none⟩)) (some 97) _ rfl rfl (Or.inl ⟨by kernel_rfl, fun w' hS => ?_⟩) ?_
              · go_simp
              refine OrdS.looks (.pointer (some ⟨L1.bl, i * 6, none⟩)) (some 98) _ rfl rfl (Or.inl ⟨by kernel_rfl, fun w' hS => ?_⟩) ?_
              · go_simp
              refine OrdS.looks (.pointer (some ⟨L1.bl, i * 6 + 4, none⟩)) (some 99) _ rfl rfl (Or.inl ⟨by kernel_rfl, fun w' hS => ?_⟩) ?_
              · go_simp
              refine OrdS.reads (.slice (some ⟨gv, 0, none⟩) (T + 1) cv) (some 100) _ rfl rfl (Or.inl ⟨by kernel_rfl, fun w' hS => ?_⟩) ?_
              · obtain ⟨k0, k1, k2, k3, k4, k5⟩ := hS
                simp only at k0 k1 k2 k3 k4 k5
                go_simp
              refine OrdS.looks (.pointer (some ⟨L1.bl, i * 6, none⟩)) (some 101) _ rfl rfl (Or.inl ⟨by kernel_rfl, fun w' hS => ?_⟩) ?_
              · go_simp
              refine OrdS.looks (.pointer (some ⟨L1.bl, i * 6, none⟩)) (some 102) _ rfl rfl (Or.inl ⟨by kernel_rfl, fun w' hS => ?_⟩) ?_
              · go_simp
              refine OrdS.looks (.pointer (some ⟨L1.bl, i * 6 + 3, none⟩)) (some 103) _ rfl rfl (Or.inl ⟨by kernel_rfl, fun w' hS => ?_⟩) ?_
              · go_simp
              refine OrdS.reads (.int .i64 nx) (some 104) _ rfl rfl (Or.inl ⟨by kernel_rfl, fun w' hS => ?_⟩) ?_
              · obtain ⟨k0, k1, k2, k3, k4, k5⟩ := hS
                simp only at k0 k1 k2 k3 k4 k5
                go_simp
              refine OrdS.looks (.int .i64 N) (some 105) _ rfl rfl (Or.inl ⟨by kernel_rfl, fun w' hS => ?_⟩) ?_
              · go_simp
              refine OrdS.looks (.pointer (some ⟨L1.bl, i * 6, none⟩)) (some 106) _ rfl rfl (Or.inl ⟨by kernel_rfl, fun w' hS => ?_⟩) ?_
              · go_simp
              refine OrdS.looks (.pointer (some ⟨L1.bl, i * 6, none⟩)) (some 107) _ rfl rfl (Or.inl ⟨by kernel_rfl, fun w' hS => ?_⟩) ?_
              · go_simp
              refine OrdS.looks (.pointer (some ⟨L1.bl, i * 6, none⟩)) (some 108) _ rfl rfl (Or.inl ⟨by kernel_rfl, fun w' hS => ?_⟩) ?_
              · go_simp
              refine OrdS.reads (.agg #[.int .i64 e, .int .i64 l, .int .i64 r]) (some 109) _ rfl rfl (Or.inl ⟨by kernel_rfl, fun w' hS => ?_⟩) ?_
              · obtain ⟨k0, k1, k2, k3, k4, k5⟩ := hS
                simp only at k0 k1 k2 k3 k4 k5
                go_simp
              simp only [Act.put, List.setIfInBounds_toArray, List.set_cons_succ, List.set_cons_zero]
              refine OrdS.looks (.agg #[.int .i64 nx, .int .i64 N, .int .i64 e, .int .i64 l, .int .i64 r]) (some 110) _ rfl rfl (Or.inl ⟨by kernel_rfl, fun w' hS => ?_⟩) ?_
              · go_simp
              simp only [Act.put, List.setIfInBounds_toArray, List.set_cons_succ, List.set_cons_zero]
              refine OrdS.does ?_
              refine wpOp_one (v := .slice (some ⟨W1.drew.heap.size, 0, none⟩) 1 1) (w' := W1.drew.alloc (.cells #[.int .i64 nx, .int .i64 N, .int .i64 e, .int .i64 l, .int .i64 r] 114)) (some 111) rfl rfl rfl (by go_simp) ?_
              have hz : JAt (W1.drew.alloc (.cells #[.int .i64 nx, .int .i64 N, .int .i64 e, .int .i64 l, .int .i64 r] 114)) W1.drew.heap.size 0 ⟨nx, N, e, l, r⟩ := by
                have z := heap_alloc_last W1.drew (.cells #[.int .i64 nx, .int .i64 N, .int .i64 e, .int .i64 l, .int .i64 r] 114)
                exact ⟨(row_cell z 0).1, (row_cell z 1).1, (row_cell z 2).1, (row_cell z 3).1, (row_cell z 4).1⟩
              have HUV : Hid (Up W1 (W1.drew.alloc (.cells #[.int .i64 nx, .int .i64 N, .int .i64 e, .int .i64 l, .int .i64 r] 114))) := (Up.drew _).trans (Up.alloc _ _)
              generalize W1.drew.alloc (.cells #[.int .i64 nx, .int .i64 N, .int .i64 e, .int .i64 l, .int .i64 r] 114) = V at *
              generalize W1.drew.heap.size = GB at *
              have HWV : Hid (RW V L1 n a (upd (relX X t i) i ⟨e, l, r, nx, D, lf⟩)) := HW1.out.up HUV.out
              have HOV : Hid (OnAt V L1.bl (i * 6) ⟨e, l, r, nx, D, lf⟩ (.slice (some ⟨gv, 0, none⟩) (T + 1) cv)) := HO1.out.up HUV.out
              have HJV : Hid (JO V (.slice (some ⟨gv, 0, none⟩) (T + 1) cv) D) := HJ1.out.kp (Kp.of_up HUV.out) (F := fun _ => True) (fun _ _ => trivial)
              refine ⟨HOV.out, ?_⟩
              simp only [Act.put, List.setIfInBounds_toArray, List.set_cons_succ, List.set_cons_zero]
              refine OrdS.does ?_
              refine wpOp_jo (some 112) rfl rfl rfl _ _ rfl (D := D) (z := ⟨nx, N, e, l, r⟩) (b := GB) rfl rfl HJV.out HM.out hz (by omega) ?_
              intro g' c' w5 HJ5 HG5 HB5
              have HNB : Hid (some L1.bl ≠ (Value.slice (some ⟨gv, 0, none⟩) (T + 1) cv).ownBlock) := fun q => (HK1.out.ok.vp i hin _ (by rw [HV1.out]; exact q.symm)).2 rfl
              have HO5 : Hid (OnAt w5 L1.bl (i * 6) ⟨e, l, r, nx, D, lf⟩ (.slice (some ⟨gv, 0, none⟩) (T + 1) cv)) := HOV.out.kp (Kp.grown HG5.out) HNB.out
              refine ⟨HO5.out, ?_⟩
              simp only [Act.put, List.setIfInBounds_toArray, List.set_cons_succ, List.set_cons_zero]
              obtain ⟨m1', m2'⟩ := HWV.out.app HK1.out.ok hin HV1.out HJ5.out HG5.out HB5.out
              have M1 : Hid _ := m1'
              have M2 : Hid _ := m2'
              clear m1' m2'
              have y4 := HO5.out.wv
              have f4 : w5.frozen? ⟨L1.bl, i * 6 + 4, none⟩ = false := (Kp.grown HG5.out).frozen (a := ⟨L1.bl, i * 6 + 4, none⟩) HNB.out (HWV.out.ll (by omega)) (HWV.out.fl (by omega) _)
              have s4 : L1.bl < w5.heap.size := Nat.lt_of_lt_of_le (HWV.out.ll (by omega)) HG5.out.size
              refine OrdS.ends ?_
              simp only [List.drop_succ_cons, List.drop_zero]
              go_wp2_with fail
              have HK6 : Hid (RKept n w (w5.setCell ⟨L1.bl, i * 6 + 4, none⟩ (.slice (some ⟨g', 0, none⟩) (T + 1 + 1) c')) L (L1.setV i (.slice (some ⟨g', 0, none⟩) (T + 1 + 1) c'))) := (HK1.out.trans (RKept.of_up HK1.out.ok HUV.out)).trans M2.out
              have HO6 : Hid (OnAt (w5.setCell ⟨L1.bl, i * 6 + 4, none⟩ (.slice (some ⟨g', 0, none⟩) (T + 1 + 1) c')) L1.bl (i * 6) ⟨e, l, r, nx, D ++ [⟨nx, N, e, l, r⟩], lf⟩ (.slice (some ⟨g', 0, none⟩) (T + 1 + 1) c')) := by
                have := M1.out.at' i hin
                simp only [upd_at, RL.setV] at this
                exact this
              have HF6 : Hid (∀ k, (w5.setCell ⟨L1.bl, i * 6 + 4, none⟩ (.slice (some ⟨g', 0, none⟩) (T + 1 + 1) c')).frozen? ⟨L1.bl, k, none⟩ = false) := M1.out.fl (by omega)
              have hl6 : L1.bl < (w5.setCell ⟨L1.bl, i * 6 + 4, none⟩ (.slice (some ⟨g', 0, none⟩) (T + 1 + 1) c')).heap.size := M1.out.ll (by omega)
              generalize w5.setCell ⟨L1.bl, i * 6 + 4, none⟩ (.slice (some ⟨g', 0, none⟩) (T + 1 + 1) c') = W6 at *
              obtain ⟨x0, x1, x2, x3, x4, x5⟩ := HO6.out
              simp only at x0 x1 x2 x3 x4 x5
              have f3 := HF6.out (i * 6 + 3)
              have d4 : IntKind.i64.wrap (N * e) = N * e := by rw [IntKind.wrap_i64]; omega
              have d5 : IntKind.i64.wrap (nx + N * e) = nx + N * e := by rw [IntKind.wrap_i64]; omega
              go_region
              obtain ⟨m3, m4⟩ := M1.out.setNx HK6.out.ok hin (nx + N * e)
              have M3 : Hid (RW (W6.setCell ⟨L1.bl, i * 6 + 3, none⟩ (.int .i64 (nx + N * e))).drew (L1.setV i (.slice (some ⟨g', 0, none⟩) (T + 1 + 1) c')) n a (relX X t (i + 1))) := (m3.up (Up.drew _)).congr (fun j _ => by
                rw [← relX_next, HEQ.out]
                by_cases q : j = i
                · subst q
                  simp only [upd_at]
                · simp only [upd_ne _ _ q])
              have M4 : Hid (RKept n w (W6.setCell ⟨L1.bl, i * 6 + 3, none⟩ (.int .i64 (nx + N * e))).drew L (L1.setV i (.slice (some ⟨g', 0, none⟩) (T + 1 + 1) c'))) := (HK6.out.trans m4).trans (RKept.of_up m4.ok (Up.drew _))
              clear m3 m4
              go_wp2_with fail
              go_roundw
              case rel => exact ⟨i + 1, by omega, by go_num, L1.setV i (.slice (some ⟨g', 0, none⟩) (T + 1 + 1) c'), M3, M4⟩
              case measure => simp [intOf]; omega
          · have HSM : Hid (On.same ⟨e, l, r, nx, D, lf⟩ = false) := by show sameL e l r D = false; rw [hsm]; simp [s1]
            have HEQ : Hid (relO (X i) t = ⟨e, l, r, nx + N * e, D ++ [⟨nx, N, e, l, r⟩], lf⟩) := by
              rw [HX.out, relO_new (x := ⟨e, l, r, nx, D, lf⟩) HNT.out HSM.out, HNN.out]
              show On.mk _ _ _ _ _ (if D = [] then l else lf) = _
              rw [if_neg hD]
            clear hD hch hsm
            go_wp2_with fail
            go_region
            clear q1 q2 q3 q4 q5 z0 z1 z2 z3 z4 x0 x1 x2 x3 x4 x5 p0 p9 hld lgv fgv
            have HW1 : Hid (RW wd.drew L1 n a (upd (relX X t i) i ⟨e, l, r, nx, D, lf⟩)) := HWd.out.up (Up.drew _)
            have HO1 : Hid (OnAt wd.drew L1.bl (i * 6) ⟨e, l, r, nx, D, lf⟩ (.slice (some ⟨gv, 0, none⟩) (T + 1) cv)) := by have := HW1.out.at' i hin; rw [upd_at, HV1.out] at this; exact this
            have HJ1 : Hid (JO wd.drew (.slice (some ⟨gv, 0, none⟩) (T + 1) cv) D) := by have := HW1.out.wt i hin; rw [upd_at, HV1.out] at this; exact this
            have HK1 : Hid (RKept n w wd.drew L L1) := HKd.out.trans (RKept.of_up HKd.out.ok (Up.drew _))
            clear HWd HKd HJd HFd
            generalize wd.drew = W1 at *
            go_wp2_with fail
            refine wp_region_shut 17 [(0, none), (1, none), (2, none), (3, none), (4, some false), (5, none), (6, none), (7, none), (8, some false), (9, none), (10, none), (11, none), (12, none), (13, some false), (14, none), (15, some true), (16, some true)] (fun v => OnAt v L1.bl (i * 6) ⟨e, l, r, nx, D, lf⟩ (.slice (some ⟨gv, 0, none⟩) (T + 1) cv)) (by kernel_rfl) (by decide) rfl (by kernel_rfl) (fun _ _ d _ _ h => by cases d <;> exact h) (HO1.out.up (Up.drew _)) ?_
            refine OrdS.looks (.pointer (some ⟨L1.bl, i * 6, none⟩)) (some 96) _ rfl rfl (Or.inl ⟨by kernel_rfl, fun w' hS => ?_⟩) ?_
            · go_simp
            refine OrdS.looks (.pointer (some ⟨L1.bl, i * 6, none⟩)) (some 97) _ rfl rfl (Or.inl ⟨by kernel_rfl, fun w' hS => ?_⟩) ?_
            · go_simp
            refine OrdS.looks (.pointer (some ⟨L1.bl, i * 6, none⟩)) (some 98) _ rfl rfl (Or.inl ⟨by kernel_rfl, fun w' hS => ?_⟩) ?_
            · go_simp
            refine OrdS.looks (.pointer (some ⟨L1.bl, i * 6 + 4, none⟩)) (some 99) _ rfl rfl (Or.inl ⟨by kernel_rfl, fun w' hS => ?_⟩) ?_
            · go_simp
            refine OrdS.reads (.slice (some ⟨gv, 0, none⟩) (T + 1) cv) (some 100) _ rfl rfl (Or.inl ⟨by kernel_rfl, fun w' hS => ?_⟩) ?_
            · obtain ⟨k0, k1, k2, k3, k4, k5⟩ := hS
              simp only at k0 k1 k2 k3 k4 k5
              go_simp
            refine OrdS.looks (.pointer (some ⟨L1.bl, i * 6, none⟩)) (some 101) _ rfl rfl (Or.inl ⟨by kernel_rfl, fun w' hS => ?_⟩) ?_
            · go_simp
            refine OrdS.looks (.pointer (some ⟨L1.bl, i * 6, none⟩)) (some 102) _ rfl rfl (Or.inl ⟨by kernel_rfl, fun w' hS => ?_⟩) ?_
            · go_simp
            refine OrdS.looks (.pointer (some ⟨L1.bl, i * 6 + 3, none⟩)) (some 103) _ rfl rfl (Or.inl ⟨by kernel_rfl, fun w' hS => ?_⟩) ?_
            · go_simp
            refine OrdS.reads (.int .i64 nx) (some 104) _ rfl rfl (Or.inl ⟨by kernel_rfl, fun w' hS => ?_⟩) ?_
            · obtain ⟨k0, k1, k2, k3, k4, k5⟩ := hS
              simp only at k0 k1 k2 k3 k4 k5
              go_simp
            refine OrdS.looks (.int .i64 N) (some 105) _ rfl rfl (Or.inl ⟨by kernel_rfl, fun w' hS => ?_⟩) ?_
            · go_simp
            refine OrdS.looks (.pointer (some ⟨L1.bl, i * 6, none⟩)) (some 106) _ rfl rfl (Or.inl ⟨by kernel_rfl, fun w' hS => ?_⟩) ?_
            · go_simp
            refine OrdS.looks (.pointer (some ⟨L1.bl, i * 6, none⟩)) (some 107) _ rfl rfl (Or.inl ⟨by kernel_rfl, fun w' hS => ?_⟩) ?_
            · go_simp
            refine OrdS.looks (.pointer (some ⟨L1.bl, i * 6, none⟩)) (some 108) _ rfl rfl (Or.inl ⟨by kernel_rfl, fun w' hS => ?_⟩) ?_
            · go_simp
            refine OrdS.reads (.agg #[.int .i64 e, .int .i64 l, .int .i64 r]) (some 109) _ rfl rfl (Or.inl ⟨by kernel_rfl, fun w' hS => ?_⟩) ?_
            · obtain ⟨k0, k1, k2, k3, k4, k5⟩ := hS
              simp only at k0 k1 k2 k3 k4 k5
              go_simp
            simp only [Act.put, List.setIfInBounds_toArray, List.set_cons_succ, List.set_cons_zero]
            refine OrdS.looks (.agg #[.int .i64 nx, .int .i64 N, .int .i64 e, .int .i64 l, .int .i64 r]) (some 110) _ rfl rfl (Or.inl ⟨by kernel_rfl, fun w' hS => ?_⟩) ?_
            · go_simp
            simp only [Act.put, List.setIfInBounds_toArray, List.set_cons_succ, List.set_cons_zero]
            refine OrdS.does ?_
            refine wpOp_one (v := .slice (some ⟨W1.drew.heap.size, 0, none⟩) 1 1) (w' := W1.drew.alloc (.cells #[.int .i64 nx, .int .i64 N, .int .i64 e, .int .i64 l, .int .i64 r] 114)) (some 111) rfl rfl rfl (by go_simp) ?_
            have hz : JAt (W1.drew.alloc (.cells #[.int .i64 nx, .int .i64 N, .int .i64 e, .int .i64 l, .int .i64 r] 114)) W1.drew.heap.size 0 ⟨nx, N, e, l, r⟩ := by
              have z := heap_alloc_last W1.drew (.cells #[.int .i64 nx, .int .i64 N, .int .i64 e, .int .i64 l, .int .i64 r] 114)
              exact ⟨(row_cell z 0).1, (row_cell z 1).1, (row_cell z 2).1, (row_cell z 3).1, (row_cell z 4).1⟩
            have HUV : Hid (Up W1 (W1.drew.alloc (.cells #[.int .i64 nx, .int .i64 N, .int .i64 e, .int .i64 l, .int .i64 r] 114))) := (Up.drew _).trans (Up.alloc _ _)
            generalize W1.drew.alloc (.cells #[.int .i64 nx, .int .i64 N, .int .i64 e, .int .i64 l, .int .i64 r] 114) = V at *
            generalize W1.drew.heap.size = GB at *
            have HWV : Hid (RW V L1 n a (upd (relX X t i) i ⟨e, l, r, nx, D, lf⟩)) := HW1.out.up HUV.out
            have HOV : Hid (OnAt V L1.bl (i * 6) ⟨e, l, r, nx, D, lf⟩ (.slice (some ⟨gv, 0, none⟩) (T + 1) cv)) := HO1.out.up HUV.out
            have HJV : Hid (JO V (.slice (some ⟨gv, 0, none⟩) (T + 1) cv) D) := HJ1.out.kp (Kp.of_up HUV.out) (F := fun _ => True) (fun _ _ => trivial)
            refine ⟨HOV.out, ?_⟩
            simp only [Act.put, List.setIfInBounds_toArray, List.set_cons_succ, List.set_cons_zero]
            refine OrdS.does ?_
            refine wpOp_jo (some 112) rfl rfl rfl _ _ rfl (D := D) (z := ⟨nx, N, e, l, r⟩) (b := GB) rfl rfl HJV.out HM.out hz (by omega) ?_
            intro g' c' w5 HJ5 HG5 HB5
            have HNB : Hid (some L1.bl ≠ (Value.slice (some ⟨gv, 0, none⟩) (T + 1) cv).ownBlock) := fun q => (HK1.out.ok.vp i hin _ (by rw [HV1.out]; exact q.symm)).2 rfl
            have HO5 : Hid (OnAt w5 L1.bl (i * 6) ⟨e, l, r, nx, D, lf⟩ (.slice (some ⟨gv, 0, none⟩) (T + 1) cv)) := HOV.out.kp (Kp.grown HG5.out) HNB.out
            refine ⟨HO5.out, ?_⟩
            simp only [Act.put, List.setIfInBounds_toArray, List.set_cons_succ, List.set_cons_zero]
            obtain ⟨m1', m2'⟩ := HWV.out.app HK1.out.ok hin HV1.out HJ5.out HG5.out HB5.out
            have M1 : Hid _ := m1'
            have M2 : Hid _ := m2'
            clear m1' m2'
            have y4 := HO5.out.wv
            have f4 : w5.frozen? ⟨L1.bl, i * 6 + 4, none⟩ = false := (Kp.grown HG5.out).frozen (a := ⟨L1.bl, i * 6 + 4, none⟩) HNB.out (HWV.out.ll (by omega)) (HWV.out.fl (by omega) _)
            have s4 : L1.bl < w5.heap.size := Nat.lt_of_lt_of_le (HWV.out.ll (by omega)) HG5.out.size
            refine OrdS.ends ?_
            simp only [List.drop_succ_cons, List.drop_zero]
            go_wp2_with fail
            have HK6 : Hid (RKept n w (w5.setCell ⟨L1.bl, i * 6 + 4, none⟩ (.slice (some ⟨g', 0, none⟩) (T + 1 + 1) c')) L (L1.setV i (.slice (some ⟨g', 0, none⟩) (T + 1 + 1) c'))) := (HK1.out.trans (RKept.of_up HK1.out.ok HUV.out)).trans M2.out
            have HO6 : Hid (OnAt (w5.setCell ⟨L1.bl, i * 6 + 4, none⟩ (.slice (some ⟨g', 0, none⟩) (T + 1 + 1) c')) L1.bl (i * 6) ⟨e, l, r, nx, D ++ [⟨nx, N, e, l, r⟩], lf⟩ (.slice (some ⟨g', 0, none⟩) (T + 1 + 1) c')) := by
              have := M1.out.at' i hin
              simp only [upd_at, RL.setV] at this
              exact this
            have HF6 : Hid (∀ k, (w5.setCell ⟨L1.bl, i * 6 + 4, none⟩ (.slice (some ⟨g', 0, none⟩) (T + 1 + 1) c')).frozen? ⟨L1.bl, k, none⟩ = false) := M1.out.fl (by omega)
            have hl6 : L1.bl < (w5.setCell ⟨L1.bl, i * 6 + 4, none⟩ (.slice (some ⟨g', 0, none⟩) (T + 1 + 1) c')).heap.size := M1.out.ll (by omega)
            generalize w5.setCell ⟨L1.bl, i * 6 + 4, none⟩ (.slice (some ⟨g', 0, none⟩) (T + 1 + 1) c') = W6 at *
            obtain ⟨x0, x1, x2, x3, x4, x5⟩ := HO6.out
            simp only at x0 x1 x2 x3 x4 x5
            have f3 := HF6.out (i * 6 + 3)
            have d4 : IntKind.i64.wrap (N * e) = N * e := by rw [IntKind.wrap_i64]; omega
            have d5 : IntKind.i64.wrap (nx + N * e) = nx + N * e := by rw [IntKind.wrap_i64]; omega
            go_region
            obtain ⟨m3, m4⟩ := M1.out.setNx HK6.out.ok hin (nx + N * e)
            have M3 : Hid (RW (W6.setCell ⟨L1.bl, i * 6 + 3, none⟩ (.int .i64 (nx + N * e))).drew (L1.setV i (.slice (some ⟨g', 0, none⟩) (T + 1 + 1) c')) n a (relX X t (i + 1))) := (m3.up (Up.drew _)).congr (fun j _ => by
              rw [← relX_next, HEQ.out]
              by_cases q : j = i
              · subst q
                simp only [upd_at]
              · simp only [upd_ne _ _ q])
            have M4 : Hid (RKept n w (W6.setCell ⟨L1.bl, i * 6 + 3, none⟩ (.int .i64 (nx + N * e))).drew L (L1.setV i (.slice (some ⟨g', 0, none⟩) (T + 1 + 1) c'))) := (HK6.out.trans m4).trans (RKept.of_up m4.ok (Up.drew _))
            clear m3 m4
            go_wp2_with fail
            go_roundw
            case rel => exact ⟨i + 1, by omega, by go_num, L1.setV i (.slice (some ⟨g', 0, none⟩) (T + 1 + 1) c'), M3, M4⟩
            case measure => simp [intOf]; omega
    · obtain rfl : i = n := by omega
      go_wp2_with fail
      go_end0
      exact ⟨rfl, L1, HW, HK⟩
end Go.Proofs.Ytjklaemhfhakhaa
