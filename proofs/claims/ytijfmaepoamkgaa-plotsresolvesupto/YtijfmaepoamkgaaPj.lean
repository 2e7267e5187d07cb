/- The first plot that is near. -/
import Derived.Test.YtijfmaepoamkgaaPg
namespace Go.Proofs.Ytijfmaepoamkgaa
open Go.ChangeShapes Go.WideShapes Go.ChangeAt Go.RowKit Go.Fl Go.Sort Go.Shelf Go.Lib
attribute [local go_sem] run_store_float call53 run_neg fold_eq fold_ne fold_lt fold_gt abs_eq

/-- What the closure reads. -/
structure S43 (w : World) (pb mb sb : Nat) (p : Plt) (m s : Nat) : Prop where
  p : B5 w pb p.r p.s p.p p.b p.t
  m : w.cell? ⟨mb, 0, none⟩ = some (.float .f64 m)
  s : w.cell? ⟨sb, 0, none⟩ = some (.float .f64 s)
theorem S43.up {w w' : World} {pb mb sb : Nat} {p : Plt} {m s : Nat} (h : S43 w pb mb sb p m s) (hu : Up w w') : S43 w' pb mb sb p m s := ⟨h.p.up hu, cell_up h.m hu, cell_up h.s hu⟩
set_option maxRecDepth 20000 in
theorem t43 {w : World} {pb mb sb : Nat} {p q : Plt} {m s : Nat} (hS : S43 w pb mb sb p m s) : Calls Try.prog 43 #[.agg (pC q), .pointer (some ⟨pb, 0, none⟩), .pointer (some ⟨mb, 0, none⟩), .pointer (some ⟨sb, 0, none⟩)] w fun e w' => e = .returned (.bool (nearB m s p q)) ∧ Hid (Gr w w') := by
  have H := hS.up (Up.alloc w (.cells #[.float .f64 q.r, .float .f64 q.s, .float .f64 q.p, .float .f64 q.b, .float .f64 q.t] 28))
  have HQ := B5.new w q.r q.s q.p q.b q.t 28
  obtain ⟨⟨p0, p1, p2, p3, p4⟩, hm, hs⟩ := H
  obtain ⟨q0, q1, q2, q3, q4⟩ := HQ
  have HG : Hid (Gr w (w.alloc (.cells #[.float .f64 q.r, .float .f64 q.s, .float .f64 q.p, .float .f64 q.b, .float .f64 q.t] 28))) := Gr.alloc _ _
  have C1 : Hid (∀ w, Calls Try.prog 44 #[.float .f64 p.r, .float .f64 q.r, .float .f64 m] w fun e w' => e = .returned (.bool (withB p.r q.r m)) ∧ ∃ k, w' = w.drewN k) := fun w => t44 _ _ _ w
  have C2 : Hid (∀ w, Calls Try.prog 44 #[.float .f64 p.s, .float .f64 q.s, .float .f64 s] w fun e w' => e = .returned (.bool (withB p.s q.s s)) ∧ ∃ k, w' = w.drewN k) := fun w => t44 _ _ _ w
  have e : nearB m s p q = (withB p.r q.r m && withB p.s q.s s) := rfl
  rw [e]
  clear hS e
  unfold pC
  go_enter Try.func43, Try.ntmps43
  generalize hb1 : withB p.r q.r m = b1 at *
  generalize withB p.s q.s s = b2 at *
  cases b1
  · go_wp2_with (go_at_call 44; (with_reducible refine (C1.out _).mono ?_); rintro e w' ⟨rfl, k, hw⟩; subst w')
    go_ret
    exact ⟨rfl, HG.out.trans (Gr.drewN _ _)⟩
  · go_wp2_with (first
      | (go_at_call 44; (with_reducible refine (C1.out _).mono ?_); rintro e w' ⟨rfl, k, hw⟩; subst w')
      | (go_at_call 44; (with_reducible refine (C2.out _).mono ?_); rintro e w' ⟨rfl, k2, hw⟩; subst w'))
    go_ret
    exact ⟨by simp, HG.out.trans (Gr.drewN _ _)⟩
/-- A slice that can be read as plots. -/
def PR5 (w : World) (p : Option Addr) (n : Nat) (Q : Nat → Plt) : Prop := ∀ i, i < n → ∃ b o, p = some ⟨b, o, none⟩ ∧ P5 w b (o + i * 5) (Q i)
theorem PR5.up {w w' : World} {p : Option Addr} {n : Nat} {Q : Nat → Plt} (h : PR5 w p n Q) (hu : Up w w') : PR5 w' p n Q := fun i hi => by
  obtain ⟨b, o, e, k⟩ := h i hi
  exact ⟨b, o, e, k.up hu⟩
theorem eg43 (args : Array Value) (w : World) : (callFunc 43 args).run Try.prog w = .ok (.enter 43 args) w := enters Try.func43 (by kernel_rfl) (by kernel_rfl) _ _
/-- The first place that is near, or none. -/
def FirstN (m s : Nat) (p : Plt) (Q : Nat → Plt) (n : Nat) (z : Int) : Prop := (∃ t : Nat, z = t ∧ t < n ∧ nearB m s p (Q t) = true ∧ ∀ i, i < t → nearB m s p (Q i) = false) ∨ (z = -1 ∧ ∀ i, i < n → nearB m s p (Q i) = false)
set_option maxRecDepth 20000 in
theorem t42 {w : World} {pb mb sb : Nat} {p : Plt} {m s : Nat} {ad : Option Addr} {n cap : Nat} {Q : Nat → Plt} (hS : S43 w pb mb sb p m s) (hR : PR5 w ad n Q) (hn : n ≤ 1000000) : Calls Try.prog 42 #[.slice ad n cap, .func (.func 43) #[] #[.pointer (some ⟨pb, 0, none⟩), .pointer (some ⟨mb, 0, none⟩), .pointer (some ⟨sb, 0, none⟩)]] w fun e w' => ∃ z, e = .returned (.int .i64 z) ∧ Hid (FirstN m s p Q n z) ∧ Hid (Gr w w') := by
  have HS : Hid (S43 w pb mb sb p m s) := hS
  have HR : Hid (PR5 w ad n Q) := hR
  have hn2 : (n : Int) ≤ 1000000 := by omega
  clear hS hR
  go_enter Try.func42, Try.ntmps42
  go_wp2
  go_loopw [5, 8, 9, 10, 11, 12, 13, 14, 15, 16, 18] (fun _ vi _ _ _ _ _ _ _ _ _ wr => ∃ i : Nat, i ≤ n ∧ vi = .int .i64 i ∧ Hid (Gr w wr ∧ ∀ j, j < i → nearB m s p (Q j) = false)) (fun _ vi _ _ _ _ _ _ _ _ _ _ => n - (intOf vi).toNat)
  case atStart => exact ⟨0, by omega, rfl, Gr.refl _, fun j hj => by omega⟩
  case round =>
    obtain ⟨i, hi, rfl, HI⟩ := hrel
    rename World => wr
    by_cases hlt : i < n
    · obtain ⟨b, o, rfl, ⟨c0, c1, c2, c3, c4⟩⟩ := (HR.out.up HI.out.1.up) i hlt
      have C : Hid (Calls Try.prog 43 #[.agg (pC (Q i)), .pointer (some ⟨pb, 0, none⟩), .pointer (some ⟨mb, 0, none⟩), .pointer (some ⟨sb, 0, none⟩)] wr fun e w' => e = .returned (.bool (nearB m s p (Q i))) ∧ Hid (Gr wr w')) := t43 (HS.out.up HI.out.1.up)
      unfold pC at C
      generalize hb : nearB m s p (Q i) = bb at *
      cases bb
      · go_wp2_with fail
        refine (C.out).mono ?_
        rintro e w' ⟨rfl, HG⟩
        go_wp2
        go_roundw
        case rel => exact ⟨i + 1, by omega, by go_num, HI.out.1.trans HG.out, fun j hj => by
          by_cases e : j = i
          · subst e; exact hb
          · exact HI.out.2 j (by omega)⟩
        case measure => simp [intOf]; omega
      · go_wp2_with fail
        refine (C.out).mono ?_
        rintro e w' ⟨rfl, HG⟩
        go_wp2
        go_ret
        exact ⟨_, rfl, Or.inl ⟨i, rfl, hlt, hb, HI.out.2⟩, HI.out.1.trans HG.out⟩
    · obtain rfl : i = n := by omega
      go_wp2
      go_ret
      exact ⟨_, rfl, Or.inr ⟨rfl, HI.out.2⟩, HI.out.1⟩
end Go.Proofs.Ytijfmaepoamkgaa
/- What was told so far, as plots in memory. -/
namespace Go.Proofs.Ytijfmaepoamkgaa
open Go.ChangeShapes Go.WideShapes Go.ChangeAt Go.RowKit Go.Fl Go.Sort Go.Shelf Go.Lib

theorem getD_l {D : List Plt} {x : Plt} {i : Nat} (h : i < D.length) : (D ++ [x]).getD i Plt.zero = D.getD i Plt.zero := by
  unfold List.getD; rw [List.getElem?_append_left h]
theorem getD_r {D : List Plt} {x : Plt} : (D ++ [x]).getD D.length Plt.zero = x := by
  unfold List.getD; rw [List.getElem?_append_right (Nat.le_refl _)]; simp
/-- A plot that is told: the first one's, but for its Power. -/
structure Told (q : Plt) (v : Option Nat) (d : Plt) : Prop where
  r : d.r = q.r
  s : d.s = q.s
  p : ab d.p = v
  b : d.b = q.b
  t : d.t = q.t
theorem Told.near {q d : Plt} {v : Option Nat} (h : Told q v d) (m s : Nat) (p : Plt) : nearB m s p d = nearB m s p q := by
  unfold nearB; rw [h.r, h.s]
/-- All that are told. -/
structure Tld (P : Nat → Plt) (T : List (Nat × Option Nat)) (D : List Plt) : Prop where
  len : D.length = T.length
  all : ∀ i, i < T.length → Told (P (T[i]!).1) (T[i]!).2 (D.getD i Plt.zero)
theorem Tld.nil (P : Nat → Plt) : Tld P [] [] := ⟨rfl, fun i hi => by simp at hi⟩
theorem Tld.app {P : Nat → Plt} {T : List (Nat × Option Nat)} {D : List Plt} (h : Tld P T D) {k m s : Nat} (hno : ∀ i, i < D.length → nearB m s (P k) (D.getD i Plt.zero) = false) : Tld P (stepM P m s T k) (D ++ [P k]) := by
  rw [stepM_none (fun i hi => by rw [← (h.all i hi).near]; exact hno i (by rw [h.len]; exact hi))]
  refine ⟨by simp [h.len], fun i hi => ?_⟩
  simp at hi
  by_cases e : i < T.length
  · have := h.all i e
    rw [getElem!_pos _ i (by simp; omega), List.getElem_append_left e, getD_l (by rw [h.len]; exact e)]
    rwa [getElem!_pos _ i e] at this
  · obtain rfl : i = T.length := by omega
    have e2 : (D ++ [P k]).getD T.length Plt.zero = P k := by rw [← h.len]; exact getD_r
    rw [getElem!_pos _ T.length (by simp), List.getElem_append_right (by omega), e2]
    simp
    exact ⟨rfl, rfl, rfl, rfl, rfl⟩
theorem Tld.add {P : Nat → Plt} {T : List (Nat × Option Nat)} {D : List Plt} (h : Tld P T D) {k m s t x : Nat} (ht : t < D.length) (hyes : nearB m s (P k) (D.getD t Plt.zero) = true) (hno : ∀ i, i < t → nearB m s (P k) (D.getD i Plt.zero) = false) (hx : ab x = bin .add (ab (D.getD t Plt.zero).p) (ab (P k).p)) : Tld P (stepM P m s T k) (D.set t ((D.getD t Plt.zero).pow x)) := by
  have hT : t < T.length := by rw [← h.len]; exact ht
  rw [stepM_some hT (by rw [← (h.all t hT).near]; exact hyes) (fun i hi => by rw [← (h.all i (by omega)).near]; exact hno i hi)]
  refine ⟨by simp [h.len], fun i hi => ?_⟩
  simp at hi
  have hi2 := h.all i hi
  rw [getElem!_pos _ i (by simpa using hi), List.getElem_set]
  by_cases e : t = i
  · subst e
    have e2 : (D.set t ((D.getD t Plt.zero).pow x)).getD t Plt.zero = (D.getD t Plt.zero).pow x := by
      simp [List.getD, ht]
    rw [if_pos rfl, e2]
    exact ⟨hi2.r, hi2.s, by show ab x = _; rw [hx, hi2.p], hi2.b, hi2.t⟩
  · have e2 : (D.set t ((D.getD t Plt.zero).pow x)).getD i Plt.zero = D.getD i Plt.zero := by
      simp [List.getD, e]
    rw [if_neg e, e2]
    rwa [getElem!_pos _ i hi] at hi2
/-- While plots are told. -/
structure MI (W1 wr : World) (P : Nat → Plt) (m s : Nat) (o : List Nat) (vo v : Value) (i : Nat) (D : List Plt) : Prop where
  up : Up W1 wr
  ord : OPl W1.heap.size wr vo o
  row : PO W1.heap.size wr v D
  tld : Tld P (mg P m s (o.take i)) D
theorem MI.upon {W1 wr w2 : World} {P : Nat → Plt} {m s : Nat} {o : List Nat} {vo v : Value} {i : Nat} {D : List Plt} (h : MI W1 wr P m s o vo v i D) (hu : Up wr w2) : MI W1 w2 P m s o vo v i D := ⟨h.up.trans hu, OR.up h.ord hu, h.row.up hu, h.tld⟩
theorem take_next {o : List Nat} {i k : Nat} (hi : i < o.length) (hk : o[i]! = k) : o.take (i + 1) = o.take i ++ [k] := by
  rw [List.take_add_one, List.getElem?_eq_getElem hi, ← hk, getElem!_pos o i hi]
  rfl
theorem MI.app {W1 wr wa w2 : World} {P : Nat → Plt} {m s : Nat} {o : List Nat} {vo v v' : Value} {i k : Nat} {D : List Plt} (h : MI W1 wr P m s o vo v i D) (hi : i < o.length) (hk : o[i]! = k) (hno : ∀ j, j < D.length → nearB m s (P k) (D.getD j Plt.zero) = false) (ha : Up wr wa) (hown : w2.ownsRow W1.heap.size 28 5 v' (D.length + 1) (fl5 D ++ pL (P k))) (hg : wa.grownBy w2 v.ownBlock) : MI W1 w2 P m s o vo v' (i + 1) (D ++ [P k]) := by
  have h2 := h.upon ha
  refine ⟨grown_up h2.up hg (fun j hj => (World.ownsRow.lt h2.row j hj).1), owns_grown h2.ord hg (fun g hg' => kinds_apart h2.row h2.ord (by decide) hg'), PO.app hown, ?_⟩
  rw [take_next hi hk, mg_snoc]
  exact h.tld.app hno
theorem MI.add {W1 wr : World} {P : Nat → Plt} {m s : Nat} {o : List Nat} {vo : Value} {g n cap : Nat} {i k t x : Nat} {D : List Plt} (h : MI W1 wr P m s o vo (.slice (some ⟨g, 0, none⟩) n cap) i D) (hi : i < o.length) (hk : o[i]! = k) (ht : t < D.length) (hyes : nearB m s (P k) (D.getD t Plt.zero) = true) (hno : ∀ i, i < t → nearB m s (P k) (D.getD i Plt.zero) = false) (hx : ab x = bin .add (ab (D.getD t Plt.zero).p) (ab (P k).p)) : MI W1 (wr.setCell ⟨g, t * 5 + 2, none⟩ (.float .f64 x)) P m s o vo (.slice (some ⟨g, 0, none⟩) n cap) (i + 1) (D.set t ((D.getD t Plt.zero).pow x)) := by
  obtain ⟨s1, s2⟩ := h.row.pow ht x
  refine ⟨s2.up h.up (World.ownsRow.lt h.row g rfl).1, owns_grown h.ord s2 (fun g' hg' => by
    cases hg'
    exact kinds_apart h.row h.ord (by decide) rfl), s1, ?_⟩
  rw [take_next hi hk, mg_snoc]
  exact h.tld.add ht hyes hno hx
end Go.Proofs.Ytijfmaepoamkgaa
/- Merge. -/
namespace Go.Proofs.Ytijfmaepoamkgaa
open Go.ChangeShapes Go.WideShapes Go.ChangeAt Go.RowKit Go.Fl Go.Sort Go.Shelf Go.Lib
attribute [local go_sem] run_store_float call53 run_neg fold_eq fold_ne fold_lt fold_gt abs_eq

/-- What Merge leaves. -/
def MerR (w : World) (P : Nat → Plt) (n m s : Nat) (e : Ending) (w' : World) : Prop := ∃ p c o D, e = .returned (.slice p D.length c) ∧ Hid (InOrd P n o ∧ Tld P (mg P m s o) D ∧ PO w.heap.size w' (.slice p D.length c) D ∧ Up w w')
theorem po_base {b b' : Nat} {w : World} {v : Value} {D : List Plt} (h : PO b w v D) (hb : b' ≤ b) : PO b' w v D := by
  obtain ⟨h1, h2⟩ := h
  refine ⟨h1, ?_⟩
  rcases h2 with h2 | ⟨g, cap, cur, rfl, k2, k3⟩
  · exact Or.inl h2
  · exact Or.inr ⟨g, cap, cur, rfl, Nat.le_trans hb k2, k3⟩
theorem ordR_up {w w1 : World} {P : Nat → Plt} {n : Nat} {e : Ending} {w' : World} (h : OrdR w1 P n e w') (hu : Up w w1) : OrdR w P n e w' := by
  obtain ⟨p, c, o, rfl, h⟩ := h
  obtain ⟨h1, h2, h3⟩ := h.out
  exact ⟨p, c, o, rfl, h1, OR.base h2 hu.size, hu.trans h3⟩
set_option maxRecDepth 20000 in
set_option maxHeartbeats 4000000 in
theorem t20 {w : World} {p : Option Addr} {n cap m s : Nat} {P : Nat → Plt} (hV : PV w p n cap P) : Calls Try.prog 20 #[.slice p n cap, .float .f64 m, .float .f64 s] w (MerR w P n m s) := by
  have few := hV.few
  have few2 : (n : Int) ≤ 1000000 := by omega
  obtain ⟨i0, hi0, hz0, hz1, hz2⟩ := info_parts info28
  have HU1 : Hid (Up w ((w.alloc (.cells #[.float .f64 m] 22)).alloc (.cells #[.float .f64 s] 22))) := (Up.alloc _ _).trans (Up.alloc _ _)
  have HB : Hid (((w.alloc (.cells #[.float .f64 m] 22)).alloc (.cells #[.float .f64 s] 22)).cell? ⟨w.heap.size, 0, none⟩ = some (.float .f64 m) ∧ ((w.alloc (.cells #[.float .f64 m] 22)).alloc (.cells #[.float .f64 s] 22)).cell? ⟨w.heap.size + 1, 0, none⟩ = some (.float .f64 s)) := by
    refine ⟨cell_up (World.cell?_alloc_at _ _ _ _ rfl) (Up.alloc _ _), ?_⟩
    have : ((w.alloc (.cells #[.float .f64 m] 22)).alloc (.cells #[.float .f64 s] 22)).cell? ⟨(w.alloc (.cells #[.float .f64 m] 22)).heap.size, 0, none⟩ = some (.float .f64 s) := World.cell?_alloc_at _ _ _ _ rfl
    rwa [show (w.alloc (.cells #[.float .f64 m] 22)).heap.size = w.heap.size + 1 by simp] at this
  have HV : Hid (PV ((w.alloc (.cells #[.float .f64 m] 22)).alloc (.cells #[.float .f64 s] 22)) p n cap P) := hV.up HU1.out
  have CO : Hid (Calls Try.prog 17 #[.slice p n cap] ((w.alloc (.cells #[.float .f64 m] 22)).alloc (.cells #[.float .f64 s] 22)) (OrdR ((w.alloc (.cells #[.float .f64 m] 22)).alloc (.cells #[.float .f64 s] 22)) P n)) := t17 HV.out
  clear hV
  go_enter Try.func20, Try.ntmps20
  go_wp2_with (go_at_call 17; (with_reducible refine CO.out.mono ?_); rintro e w2 ⟨po, co, o, rfl, HO⟩)
  clear CO
  have HLen : Hid (o.length = n) := HO.out.1.length
  generalize (w.alloc (.cells #[.float .f64 m] 22)).alloc (.cells #[.float .f64 s] 22) = W1 at *
  generalize hx0 : w.heap.size + 1 = x1 at *
  generalize hx1 : w.heap.size = x0 at *
  go_loopw [7, 9, 10, 11, 15, 16, 17, 18, 19, 20, 21, 22, 23, 24, 25, 26, 27, 28, 29, 30, 31, 32, 33, 34, 35, 36, 37, 38, 39, 40, 41, 42] (fun v7 _ _ _ vi _ _ _ _ _ _ _ _ _ _ _ _ _ _ _ _ _ _ _ _ _ _ _ _ _ _ _ wr => ∃ (i : Nat) (q : Option Addr) (c : Nat) (D : List Plt), i ≤ n ∧ vi = .int .i64 i ∧ v7 = .slice q D.length c ∧ Hid (MI W1 wr P m s o (.slice po n co) (.slice q D.length c) i D)) (fun _ _ _ _ vi _ _ _ _ _ _ _ _ _ _ _ _ _ _ _ _ _ _ _ _ _ _ _ _ _ _ _ _ => n - (intOf vi).toNat)
  case atStart => exact ⟨0, none, 0, [], by omega, rfl, rfl, HO.out.2.2, HO.out.2.1, PO.nil _ _, Tld.nil _⟩
  case round =>
    obtain ⟨i, q, c, D, hi, rfl, rfl, HI⟩ := hrel
    rename World => wr
    by_cases hlt : i < n
    · obtain ⟨og, hog⟩ : ∃ g, po = some ⟨g, 0, none⟩ := by
        obtain ⟨p', c', e1, e2⟩ := OR.form HI.out.ord
        simp only [Value.slice.injEq] at e1
        rw [e1.1]
        exact e2 (by rw [HLen.out]; omega)
      subst hog
      have hio : i < o.length := by rw [HLen.out]; exact hlt
      have ck := OR.cell HI.out.ord hio
      have kn := HO.out.1.at hlt
      generalize hk : o[i]! = k at *
      unfold nv at ck
      obtain ⟨b, off, rfl, hP⟩ := HV.out.rd (by omega)
      obtain ⟨a0, a1, a2, a3, a4⟩ := (hP k kn).up HI.out.up
      have HP : Hid (∀ i, i < n → P5 W1 b (off + i * 5) (P i)) := hP
      have HK : Hid (o[i]! = k) := hk
      have HIO : Hid (i < o.length) := hio
      have kn2 : (k : Int) < n := by omega
      clear hP hk hio
      have HI1 : Hid (MI W1 (wr.alloc (.cells #[.float .f64 (P k).r, .float .f64 (P k).s, .float .f64 (P k).p, .float .f64 (P k).b, .float .f64 (P k).t] 28)) P m s o (.slice (some ⟨og, 0, none⟩) n co) (.slice q D.length c) i D) := HI.out.upon (Up.alloc _ _)
      have HB1 : Hid (B5 (wr.alloc (.cells #[.float .f64 (P k).r, .float .f64 (P k).s, .float .f64 (P k).p, .float .f64 (P k).b, .float .f64 (P k).t] 28)) wr.heap.size (P k).r (P k).s (P k).p (P k).b (P k).t) := B5.new _ _ _ _ _ _ _
      have HDn : Hid (D.length ≤ n) := by
        show D.length ≤ n
        have h1 := HI.out.tld.len
        have h2 := mg_len P m s (o.take i)
        have h3 : (o.take i).length ≤ n := by rw [List.length_take]; omega
        omega
      have C42 : Hid (Calls Try.prog 42 #[.slice q D.length c, .func (.func 43) #[] #[.pointer (some ⟨wr.heap.size, 0, none⟩), .pointer (some ⟨x0, 0, none⟩), .pointer (some ⟨x1, 0, none⟩)]] (wr.alloc (.cells #[.float .f64 (P k).r, .float .f64 (P k).s, .float .f64 (P k).p, .float .f64 (P k).b, .float .f64 (P k).t] 28)) fun e w' => ∃ z, e = .returned (.int .i64 z) ∧ Hid (FirstN m s (P k) (fun j => D.getD j Plt.zero) D.length z) ∧ Hid (Gr (wr.alloc (.cells #[.float .f64 (P k).r, .float .f64 (P k).s, .float .f64 (P k).p, .float .f64 (P k).b, .float .f64 (P k).t] 28)) w')) :=
        t42 ⟨HB1.out, cell_up HB.out.1 HI1.out.up, cell_up HB.out.2 HI1.out.up⟩ (fun j hj => by
          obtain ⟨g, e, _, _, h5⟩ := HI1.out.row.at hj
          exact ⟨g, 0, e, by rw [Nat.zero_add]; exact h5⟩) (by have := HDn.out; omega)
      go_wp2_with (go_at_call 42; (with_reducible refine C42.out.mono ?_); rintro e w3 ⟨z, rfl, HF, HG⟩; revert HF)
      intro HF
      have HI3 : Hid (MI W1 w3 P m s o (.slice (some ⟨og, 0, none⟩) n co) (.slice q D.length c) i D) := HI1.out.upon HG.out.up
      obtain ⟨e0, e1, e2, e3, e4⟩ := HB1.out.up HG.out.up
      have HE : Hid (P (k) = ⟨(P k).r, (P k).s, (P k).p, (P k).b, (P k).t⟩) := rfl
      have HPB : Hid (wr.heap.size < w3.heap.size) := by
        have := HG.out.up.size
        simp at this
        show _ < _
        omega
      clear a0 a1 a2 a3 a4 HI HI1 HB1 HG C42
      generalize wr.heap.size = pb at *
      rcases HF.out with ⟨t, rfl, ht, hyes, hno⟩ | ⟨rfl, hno⟩
      · obtain ⟨g, rfl, hg1, hg2, h5⟩ := HI3.out.row.at ht
        have HT : Hid (t < D.length ∧ nearB m s (P k) (D.getD t Plt.zero) = true ∧ ∀ i, i < t → nearB m s (P k) (D.getD i Plt.zero) = false) := ⟨ht, hyes, hno⟩
        have ht2 : (t : Int) < D.length := by omega
        have HZ : Hid (w3.drew.cell? ⟨g, t * 5 + 2, none⟩ = some (.float .f64 (D.getD t Plt.zero).p) ∧ w3.drew.cell? ⟨pb, 2, none⟩ = some (.float .f64 (P k).p)) := ⟨cell_up h5.c2 (Up.drew _), cell_up e2 (Up.drew _)⟩
        have fz := HI3.out.row.frz (t * 5 + 2)
        have cz := h5.c2
        clear hyes hno e0 e1 e2 e3 e4 h5 HF hg1 hg2
        generalize hdp : (D.getD t Plt.zero).p = dp at *
        generalize hkp : (P k).p = kp at *
        go_wp2_with fail
        refine wp_region_shut 10 [(0, none), (1, none), (2, none), (3, none), (4, some false), (5, none), (6, some false), (7, some true), (8, none), (9, none)] (fun w' => w'.cell? ⟨g, t * 5 + 2, none⟩ = some (.float .f64 dp) ∧ w'.cell? ⟨pb, 2, none⟩ = some (.float .f64 kp)) (by kernel_rfl) (by decide) rfl (by kernel_rfl) (fun _ _ d _ _ h => by cases d <;> exact h) (HZ.out) ?_
        refine OrdS.looks (.slice (some ⟨g, 0, none⟩) D.length c) (some 32) _ rfl rfl (Or.inl ⟨by kernel_rfl, fun w' hS => ?_⟩) ?_
        · go_simp
        refine OrdS.looks (.int .i64 t) (some 33) _ rfl rfl (Or.inl ⟨by kernel_rfl, fun w' hS => ?_⟩) ?_
        · go_simp
        refine OrdS.looks (.pointer (some ⟨g, t * 5, none⟩)) (some 34) _ rfl rfl (Or.inl ⟨by kernel_rfl, fun w' hS => ?_⟩) ?_
        · go_simp
        refine OrdS.looks (.pointer (some ⟨g, t * 5 + 2, none⟩)) (some 35) _ rfl rfl (Or.inl ⟨by kernel_rfl, fun w' hS => ?_⟩) ?_
        · go_simp
        refine OrdS.reads (.float .f64 dp) (some 36) _ rfl rfl (Or.inl ⟨by kernel_rfl, fun w' hS => ?_⟩) ?_
        · obtain ⟨z1, z2⟩ := hS
          go_simp
        refine OrdS.looks (.pointer (some ⟨pb, 2, none⟩)) (some 37) _ rfl rfl (Or.inl ⟨by kernel_rfl, fun w' hS => ?_⟩) ?_
        · go_simp
        refine OrdS.reads (.float .f64 kp) (some 38) _ rfl rfl (Or.inl ⟨by kernel_rfl, fun w' hS => ?_⟩) ?_
        · obtain ⟨z1, z2⟩ := hS
          go_simp
        simp only [Act.put, List.setIfInBounds_toArray, List.set_cons_succ, List.set_cons_zero]
        refine OrdS.does ?_
        refine wpOp_fl rfl rfl rfl dp kp rfl rfl (Or.inl rfl) ?_
        intro r7 n7 hr7
        refine ⟨⟨HZ.out.1, HZ.out.2⟩, ?_⟩
        refine OrdS.looks (.pointer (some ⟨g, t * 5, none⟩)) (some 40) _ rfl rfl (Or.inl ⟨by kernel_rfl, fun w' hS => ?_⟩) ?_
        · go_simp
        refine OrdS.looks (.pointer (some ⟨g, t * 5 + 2, none⟩)) (some 41) _ rfl rfl (Or.inl ⟨by kernel_rfl, fun w' hS => ?_⟩) ?_
        · go_simp
        refine OrdS.ends ?_
        simp only [List.drop_succ_cons, List.drop_zero, Act.put, List.setIfInBounds_toArray]
        have HN : Hid (MI W1 ((w3.drew.drewN n7).setCell ⟨g, t * 5 + 2, none⟩ (.float .f64 r7)) P m s o (.slice (some ⟨og, 0, none⟩) n co) (.slice (some ⟨g, 0, none⟩) D.length c) (i + 1) (D.set t ((D.getD t Plt.zero).pow r7))) :=
          MI.add (HI3.out.upon ((Up.drew _).trans (Up.drewN _ _))) HIO.out HK.out HT.out.1 HT.out.2.1 HT.out.2.2 (by rw [hdp, hkp]; exact hr7.out)
        go_wp2
        go_roundw
        case rel => exact ⟨i + 1, some ⟨g, 0, none⟩, c, D.set t ((D.getD t Plt.zero).pow r7), by omega, by go_num, by simp, by simpa using HN⟩
        case measure => simp [intOf]; omega
      · have HNo : Hid (∀ j, j < D.length → nearB m s (P k) (D.getD j Plt.zero) = false) := hno
        have HOw : Hid (w3.ownsRow W1.heap.size 28 5 (.slice q D.length c) D.length (fl5 D)) := HI3.out.row
        have dn := HDn.out
        have hw1 : W1.heap.size ≤ w3.heap.size := HI3.out.up.size
        clear hno HF
        go_wp2_with (at_builtin; refine wpList_append_own _ rfl _ _ 44 rfl W1.heap.size 28 i0 (.agg #[.float .f64 0, .float .f64 0, .float .f64 0, .float .f64 0, .float .f64 0]) 5 40 Try.underlying44 hi0 hz0 hz1 hz2 rfl (by decide) _ _ _ rfl (HOw.out.alloc _) ⟨w3.heap.size, 0, none⟩ 1 1 (pL (P k)) rfl rfl (five_new _ _ _) (five_one _) (by unfold maxLen; omega) (by omega) (by simp; omega) ?_; intro v4 w4 hown4 hgrow4 hnil4; (obtain ⟨q4, c4, hv4, -⟩ := own_form hown4); subst hv4; (have HN : Hid (MI W1 w4 P m s o (.slice (some ⟨og, 0, none⟩) n co) (.slice q4 (D.length + 1) c4) (i + 1) (D ++ [P k])) := MI.app HI3.out HIO.out HK.out HNo.out (Up.alloc _ _) hown4 hgrow4); clear hown4 hgrow4 hnil4)
        go_roundw
        case rel => exact ⟨i + 1, q4, c4, D ++ [P k], by omega, by go_num, by simp, by simpa using HN⟩
        case measure => simp [intOf]; omega
    · obtain rfl : i = n := by omega
      go_wp2
      go_ret
      have e : o.take i = o := by rw [List.take_of_length_le (by rw [HLen.out]; omega)]
      refine ⟨q, c, o, D, rfl, HO.out.1, ?_, ?_, HU1.out.trans HI.out.up⟩
      · have := HI.out.tld
        rwa [e] at this
      · exact po_base HI.out.row HU1.out.size
end Go.Proofs.Ytijfmaepoamkgaa
