/- The document's own plan in memory. -/
import Derived.Test.YtjklaemhfhakhaaNa
import Derived.Test.YtjklaemhfhakhaaKc
import Derived.Test.YtjklaemhfhakhaaHa
namespace Go.Proofs.Ytjklaemhfhakhaa
open Go.ChangeShapes Go.WideShapes Go.ChangeAt Go.RowKit

def jL (j : Jr) : List Value := [.int .i64 j.f, .int .i64 j.k, .int .i64 j.e, .int .i64 j.l, .int .i64 j.r]
def fl5 (D : List Jr) : List Value := D.flatMap jL
theorem fl5_len : ∀ D : List Jr, (fl5 D).length = D.length * 5
  | [] => rfl
  | p :: D => by
    unfold fl5
    rw [List.flatMap_cons, List.length_append]
    have := fl5_len D
    unfold fl5 at this
    rw [this]
    simp [jL]
    omega
theorem fl5_at : ∀ {D : List Jr} {i k : Nat} {x : Jr} (_ : D[i]? = some x) (_ : k < 5), (fl5 D)[i * 5 + k]? = (jL x)[k]?
  | p :: D, 0, k, x, h, hk => by
    simp only [List.getElem?_cons_zero, Option.some.injEq] at h
    subst h
    unfold fl5
    rw [List.flatMap_cons, List.getElem?_append_left (by simp [jL]; omega)]
    simp
  | p :: D, i + 1, k, x, h, hk => by
    unfold fl5
    rw [List.flatMap_cons, List.getElem?_append_right (by simp [jL]; omega)]
    have := fl5_at (D := D) (i := i) (k := k) (x := x) (by simpa using h) hk
    unfold fl5 at this
    rw [show (i + 1) * 5 + k - (jL p).length = i * 5 + k by simp [jL]; omega, this]
theorem jL_one (j : Jr) : ∀ u ∈ jL j, u.oneCell' = true := by
  intro u h
  simp only [jL, List.mem_cons, List.not_mem_nil, or_false] at h
  rcases h with rfl | rfl | rfl | rfl | rfl <;> rfl
theorem fl5_one (D : List Jr) : ∀ u ∈ fl5 D, u.oneCell' = true := by
  intro u hu
  obtain ⟨s, _, h⟩ := List.mem_flatMap.1 hu
  exact jL_one s u h
theorem fl5_app (D E : List Jr) : fl5 (D ++ E) = fl5 D ++ fl5 E := List.flatMap_append
/-- Jobs that wait, in memory. -/
def JO (w : World) (v : Value) (D : List Jr) : Prop := w.ownsRow 0 114 5 v D.length (fl5 D)
theorem JO.kp {w w' : World} {v : Value} {D : List Jr} {F : Nat → Prop} (h : JO w v D) (hk : Kp F w w') (hF : ∀ r, v.ownBlock = some r → F r) : JO w' v D := owns_kp h hk hF
theorem JO.form {w : World} {v : Value} {D : List Jr} (h : JO w v D) : ∃ p c, v = .slice p D.length c ∧ D.length ≤ c ∧ (0 < D.length → ∃ g, p = some ⟨g, 0, none⟩ ∧ g < w.heap.size) := by
  rcases h.2 with ⟨rfl, h0⟩ | ⟨g, c, cur, rfl, h1, h2, h3, _⟩
  · exact ⟨none, 0, by rw [h0], by omega, fun q => by omega⟩
  · exact ⟨_, c, rfl, h3, fun _ => ⟨g, rfl, (Array.getElem?_eq_some_iff.1 h2).1⟩⟩
structure JAt (w : World) (g o : Nat) (j : Jr) : Prop where
  f : w.cell? ⟨g, o, none⟩ = some (.int .i64 j.f)
  k : w.cell? ⟨g, o + 1, none⟩ = some (.int .i64 j.k)
  e : w.cell? ⟨g, o + 2, none⟩ = some (.int .i64 j.e)
  l : w.cell? ⟨g, o + 3, none⟩ = some (.int .i64 j.l)
  r : w.cell? ⟨g, o + 4, none⟩ = some (.int .i64 j.r)
theorem JAt.up {w w' : World} {g o : Nat} {j : Jr} (h : JAt w g o j) (hu : Up w w') : JAt w' g o j := ⟨cell_up h.f hu, cell_up h.k hu, cell_up h.e hu, cell_up h.l hu, cell_up h.r hu⟩
theorem JO.get {w : World} {p : Option Addr} {n c : Nat} {D : List Jr} (h : JO w (.slice p n c) D) {i : Nat} {j : Jr} (hi : D[i]? = some j) : i < n ∧ ∃ g, p = some ⟨g, 0, none⟩ ∧ g < w.heap.size ∧ JAt w g (i * 5) j ∧ ∀ k, w.frozen? ⟨g, k, none⟩ = false := by
  have hlt : i < D.length := by
    rcases Nat.lt_or_ge i D.length with q | q
    · exact q
    · rw [List.getElem?_eq_none q] at hi; cases hi
  obtain ⟨p', c', e, _, hp⟩ := h.form
  simp only [Value.slice.injEq] at e
  obtain ⟨rfl, rfl, rfl⟩ := e
  obtain ⟨g, rfl, hg⟩ := hp (by omega)
  have hc : ∀ k v, k < 5 → (jL j)[k]? = some v → w.cell? ⟨g, i * 5 + k, none⟩ = some v := fun k v hk hv => by
    rw [World.ownsRow.cellAt h (i * 5 + k) (by omega), fl5_at hi hk]
    exact hv
  exact ⟨hlt, g, rfl, hg, ⟨hc 0 _ (by omega) rfl, hc 1 _ (by omega) rfl, hc 2 _ (by omega) rfl, hc 3 _ (by omega) rfl, hc 4 _ (by omega) rfl⟩, fun k => World.ownsRow.frozenAt h k⟩
/-- A task of it. -/
structure OnAt (w : World) (g o : Nat) (x : On) (v : Value) : Prop where
  e : w.cell? ⟨g, o, none⟩ = some (.int .i64 x.e)
  l : w.cell? ⟨g, o + 1, none⟩ = some (.int .i64 x.l)
  r : w.cell? ⟨g, o + 2, none⟩ = some (.int .i64 x.r)
  nx : w.cell? ⟨g, o + 3, none⟩ = some (.int .i64 x.nx)
  wv : w.cell? ⟨g, o + 4, none⟩ = some v
  lf : w.cell? ⟨g, o + 5, none⟩ = some (.int .i64 x.lf)
theorem OnAt.up {w w' : World} {g o : Nat} {x : On} {v : Value} (h : OnAt w g o x v) (hu : Up w w') : OnAt w' g o x v := ⟨cell_up h.e hu, cell_up h.l hu, cell_up h.r hu, cell_up h.nx hu, cell_up h.wv hu, cell_up h.lf hu⟩
theorem OnAt.kp {F : Nat → Prop} {w w' : World} {g o : Nat} {x : On} {v : Value} (h : OnAt w g o x v) (hk : Kp F w w') (hF : F g) : OnAt w' g o x v := ⟨hk.cell hF h.e, hk.cell hF h.l, hk.cell hF h.r, hk.cell hF h.nx, hk.cell hF h.wv, hk.cell hF h.lf⟩
structure RL where
  bp : Nat
  bl : Nat
  lc : Nat
  lp : Option Addr
  V : Nat → Value
def RL.Own (L : RL) (n g : Nat) : Prop := g = L.bp ∨ (0 < n ∧ g = L.bl) ∨ ∃ i, i < n ∧ (L.V i).ownBlock = some g
structure RL.Ok (L : RL) (n : Nat) : Prop where
  pl : 0 < n → L.bp ≠ L.bl
  vp : ∀ i, i < n → ∀ g, (L.V i).ownBlock = some g → g ≠ L.bp ∧ g ≠ L.bl
  vv : ∀ i j, i < n → j < n → i ≠ j → ∀ g, (L.V i).ownBlock = some g → (L.V j).ownBlock ≠ some g
structure RW (w : World) (L : RL) (n : Nat) (a : Int) (X : Nat → On) : Prop where
  p0 : w.cell? ⟨L.bp, 0, none⟩ = some (.slice L.lp n L.lc)
  p1 : w.cell? ⟨L.bp, 1, none⟩ = some (.int .i64 a)
  ps : 0 < n → L.lp = some ⟨L.bl, 0, none⟩
  at' : ∀ i, i < n → OnAt w L.bl (i * 6) (X i) (L.V i)
  wt : ∀ i, i < n → JO w (L.V i) (X i).w
  cap : n ≤ L.lc
  fp : ∀ k, w.frozen? ⟨L.bp, k, none⟩ = false
  fl : 0 < n → ∀ k, w.frozen? ⟨L.bl, k, none⟩ = false
  lt : L.bp < w.heap.size
theorem RW.ll {w : World} {L : RL} {n : Nat} {a : Int} {X : Nat → On} (h : RW w L n a X) (h0 : 0 < n) : L.bl < w.heap.size := World.block_lt_of_cell? w _ (h.at' 0 h0).e
theorem RW.own_lt {w : World} {L : RL} {n : Nat} {a : Int} {X : Nat → On} (h : RW w L n a X) {g : Nat} (hg : L.Own n g) : g < w.heap.size := by
  rcases hg with rfl | ⟨h0, rfl⟩ | ⟨i, hi, e⟩
  · exact h.lt
  · exact h.ll h0
  · exact (World.ownsRow.lt (h.wt i hi) g e).2
theorem RW.kp {F : Nat → Prop} {w w' : World} {L : RL} {n : Nat} {a : Int} {X : Nat → On} (h : RW w L n a X) (hk : Kp F w w') (hF : ∀ g, L.Own n g → F g) : RW w' L n a X :=
  ⟨hk.cell (hF _ (Or.inl rfl)) h.p0, hk.cell (hF _ (Or.inl rfl)) h.p1, h.ps, fun i hi => (h.at' i hi).kp hk (hF _ (Or.inr (Or.inl ⟨by omega, rfl⟩))), fun i hi => (h.wt i hi).kp hk (fun r hr => hF r (Or.inr (Or.inr ⟨i, hi, hr⟩))), h.cap, fun k => hk.frozen (hF _ (Or.inl rfl)) h.lt (h.fp k), fun h0 k => hk.frozen (a := ⟨L.bl, k, none⟩) (hF _ (Or.inr (Or.inl ⟨h0, rfl⟩))) (h.ll h0) (h.fl h0 k), Nat.lt_of_lt_of_le h.lt hk.size⟩
theorem RW.up {w w' : World} {L : RL} {n : Nat} {a : Int} {X : Nat → On} (h : RW w L n a X) (hu : Up w w') : RW w' L n a X := h.kp (F := fun _ => True) (Kp.of_up hu) (fun _ _ => trivial)
theorem RW.congr {w : World} {L : RL} {n : Nat} {a : Int} {X Y : Nat → On} (h : RW w L n a X) (e : ∀ i, i < n → X i = Y i) : RW w L n a Y :=
  ⟨h.p0, h.p1, h.ps, fun i hi => by rw [← e i hi]; exact h.at' i hi, fun i hi => by rw [← e i hi]; exact h.wt i hi, h.cap, h.fp, h.fl, h.lt⟩
/-- What has been kept. -/
structure RKept (n : Nat) (w w' : World) (L L' : RL) : Prop where
  ok : L'.Ok n
  bp : L'.bp = L.bp
  own : ∀ b, L'.Own n b → L.Own n b ∨ w.heap.size ≤ b
  kp : Kp (fun b => ¬ L.Own n b) w w'
theorem RKept.of_up {n : Nat} {w w' : World} {L : RL} (h : L.Ok n) (hu : Up w w') : RKept n w w' L L := ⟨h, rfl, fun _ hb => Or.inl hb, Kp.of_up hu⟩
theorem RKept.trans {n : Nat} {w w1 w2 : World} {L L1 L2 : RL} (h : RKept n w w1 L L1) (k : RKept n w1 w2 L1 L2) : RKept n w w2 L L2 :=
  ⟨k.ok, k.bp.trans h.bp, fun b hb => by
    rcases k.own b hb with q | q
    · exact h.own b q
    · exact Or.inr (Nat.le_trans h.kp.size q), h.kp.two k.kp (fun b hb hl q => by
    rcases h.own b q with q2 | q2
    · exact hb q2
    · omega)⟩
def RL.setV (L : RL) (i : Nat) (v : Value) : RL := { L with V := upd L.V i v }
/-- One of the tasks has been turned. -/
theorem RW.one {w w' : World} {L : RL} {n : Nat} {a : Int} {X : Nat → On} (h : RW w L n a X) (hL : L.Ok n) {i : Nat} (hi : i < n) {x' : On} {v' : Value}
    (hk : Kp (fun b => b ≠ L.bl ∧ some b ≠ (L.V i).ownBlock) w w') (ho : ∀ j, j < n → j ≠ i → ∀ k, k < 6 → w'.cell? ⟨L.bl, j * 6 + k, none⟩ = w.cell? ⟨L.bl, j * 6 + k, none⟩)
    (hx : OnAt w' L.bl (i * 6) x' v') (hw : JO w' v' x'.w) (hf : ∀ k, w'.frozen? ⟨L.bl, k, none⟩ = false) (hv : ∀ g, v'.ownBlock = some g → (L.V i).ownBlock = some g ∨ w.heap.size ≤ g) :
    RW w' (L.setV i v') n a (upd X i x') ∧ RKept n w w' L (L.setV i v') := by
  have h0 : 0 < n := by omega
  have hbp : L.bp ≠ L.bl ∧ some L.bp ≠ (L.V i).ownBlock := ⟨hL.pl h0, fun e => (hL.vp i hi _ e.symm).1 rfl⟩
  have hl := h.ll h0
  refine ⟨⟨hk.cell hbp h.p0, hk.cell hbp h.p1, h.ps, fun j hj => ?_, fun j hj => ?_, h.cap, fun k => hk.frozen hbp h.lt (h.fp k), fun _ => hf, Nat.lt_of_lt_of_le h.lt hk.size⟩, ⟨⟨hL.pl, fun j hj g hg => ?_, fun j k hj hk' hjk g hg => ?_⟩, rfl, fun b hb => ?_, ?_⟩⟩
  · show OnAt w' L.bl (j * 6) (upd X i x' j) (upd L.V i v' j)
    by_cases q : j = i
    · subst q; rw [upd_at, upd_at]; exact hx
    · rw [upd_ne _ _ q, upd_ne _ _ q]
      have o := h.at' j hj
      have c := ho j hj q
      exact ⟨(c 0 (by omega)).trans o.e, (c 1 (by omega)).trans o.l, (c 2 (by omega)).trans o.r, (c 3 (by omega)).trans o.nx, (c 4 (by omega)).trans o.wv, (c 5 (by omega)).trans o.lf⟩
  · show JO w' (upd L.V i v' j) (upd X i x' j).w
    by_cases q : j = i
    · subst q; rw [upd_at, upd_at]; exact hw
    · rw [upd_ne _ _ q, upd_ne _ _ q]
      exact (h.wt j hj).kp hk (fun r hr => ⟨(hL.vp j hj r hr).2, fun e => hL.vv j i hj hi q r hr e.symm⟩)
  · change (upd L.V i v' j).ownBlock = some g at hg
    by_cases q : j = i
    · subst q
      rw [upd_at] at hg
      rcases hv g hg with e | e
      · exact hL.vp j hj g e
      · have := h.lt
        exact ⟨by show g ≠ L.bp; omega, by show g ≠ L.bl; omega⟩
    · rw [upd_ne _ _ q] at hg
      exact hL.vp j hj g hg
  · change (upd L.V i v' j).ownBlock = some g at hg
    show (upd L.V i v' k).ownBlock ≠ some g
    by_cases q : j = i
    · subst q
      rw [upd_at] at hg
      rw [upd_ne _ _ (fun e => hjk e.symm)]
      rcases hv g hg with e | e
      · exact hL.vv j k hj hk' hjk g e
      · intro e2
        have := (World.ownsRow.lt (h.wt k hk') g e2).2
        omega
    · rw [upd_ne _ _ q] at hg
      by_cases q2 : k = i
      · subst q2
        rw [upd_at]
        intro e2
        rcases hv g e2 with e | e
        · exact hL.vv j k hj hk' hjk g hg e
        · have := (World.ownsRow.lt (h.wt j hj) g hg).2
          omega
      · rw [upd_ne _ _ q2]
        exact hL.vv j k hj hk' hjk g hg
  · rcases hb with rfl | ⟨h1, rfl⟩ | ⟨j, hj, hg⟩
    · exact Or.inl (Or.inl rfl)
    · exact Or.inl (Or.inr (Or.inl ⟨h1, rfl⟩))
    · change (upd L.V i v' j).ownBlock = some b at hg
      by_cases q : j = i
      · subst q
        rw [upd_at] at hg
        rcases hv b hg with e | e
        · exact Or.inl (Or.inr (Or.inr ⟨j, hj, e⟩))
        · exact Or.inr e
      · rw [upd_ne _ _ q] at hg
        exact Or.inl (Or.inr (Or.inr ⟨j, hj, hg⟩))
  · exact hk.mono fun k _ hq => ⟨fun e => hq (Or.inr (Or.inl ⟨h0, e⟩)), fun e => hq (Or.inr (Or.inr ⟨i, hi, e.symm⟩))⟩
theorem RL.setV_self (L : RL) (i : Nat) : L.setV i (L.V i) = L := by
  unfold RL.setV upd
  have : (fun j => if j = i then L.V i else L.V j) = L.V := by
    funext j
    by_cases q : j = i
    · subst q; rw [if_pos rfl]
    · rw [if_neg q]
  rw [this]
/-- A field of it has been written. -/
theorem RW.fld {w : World} {L : RL} {n : Nat} {a : Int} {X : Nat → On} (h : RW w L n a X) (hL : L.Ok n) {i k : Nat} (hi : i < n) (hk : k < 6) {y : Value} {x' : On} (hx : OnAt (w.setCell ⟨L.bl, i * 6 + k, none⟩ y) L.bl (i * 6) x' (L.V i)) (hw : x'.w = (X i).w) :
    RW (w.setCell ⟨L.bl, i * 6 + k, none⟩ y) L n a (upd X i x') ∧ RKept n w (w.setCell ⟨L.bl, i * 6 + k, none⟩ y) L L := by
  have hkp : Kp (fun b => b ≠ L.bl) w (w.setCell ⟨L.bl, i * 6 + k, none⟩ y) := Kp.set _ _ (fun q => q rfl) _
  have := h.one hL hi (x' := x') (v' := L.V i) (hkp.mono (fun b _ q => q.1)) (fun j hj hji k' hk' => World.cell?_setCell_other _ _ _ _ (fun e => by simp only [Addr.mk.injEq] at e; omega)) hx (by rw [hw]; exact (h.wt i hi).kp hkp (fun r hr => (hL.vp i hi r hr).2)) (fun k' => by rw [World.frozen?_setCell]; exact h.fl (by omega) k') (fun g hg => Or.inl hg)
  rwa [RL.setV_self] at this
theorem OnAt.off {w : World} {g o k : Nat} {x : On} {v y : Value} (h : OnAt w g o x v) (hk : k < o ∨ o + 5 < k) : OnAt (w.setCell ⟨g, k, none⟩ y) g o x v := by
  refine ⟨cell_other h.e ?_, cell_other h.l ?_, cell_other h.r ?_, cell_other h.nx ?_, cell_other h.wv ?_, cell_other h.lf ?_⟩
  all_goals (refine Or.inr ?_; first | (show o ≠ k; omega) | (show o + 1 ≠ k; omega) | (show o + 2 ≠ k; omega) | (show o + 3 ≠ k; omega) | (show o + 4 ≠ k; omega) | (show o + 5 ≠ k; omega))
theorem OnAt.setNx {w : World} {g o : Nat} {x : On} {v : Value} (h : OnAt w g o x v) (z : Int) : OnAt (w.setCell ⟨g, o + 3, none⟩ (.int .i64 z)) g o { x with nx := z } v := by
  refine ⟨cell_other h.e ?_, cell_other h.l ?_, cell_other h.r ?_, World.cell?_setCell_same _ _ _ h.nx, cell_other h.wv ?_, cell_other h.lf ?_⟩
  all_goals (refine Or.inr ?_; first | (show o ≠ o + 3; omega) | (show o + 1 ≠ o + 3; omega) | (show o + 2 ≠ o + 3; omega) | (show o + 4 ≠ o + 3; omega) | (show o + 5 ≠ o + 3; omega))
theorem OnAt.setLf {w : World} {g o : Nat} {x : On} {v : Value} (h : OnAt w g o x v) (z : Int) : OnAt (w.setCell ⟨g, o + 5, none⟩ (.int .i64 z)) g o { x with lf := z } v := by
  refine ⟨cell_other h.e ?_, cell_other h.l ?_, cell_other h.r ?_, cell_other h.nx ?_, cell_other h.wv ?_, World.cell?_setCell_same _ _ _ h.lf⟩
  all_goals (refine Or.inr ?_; first | (show o ≠ o + 5; omega) | (show o + 1 ≠ o + 5; omega) | (show o + 2 ≠ o + 5; omega) | (show o + 3 ≠ o + 5; omega) | (show o + 4 ≠ o + 5; omega))
theorem OnAt.setW {w : World} {g o : Nat} {x : On} {v : Value} (h : OnAt w g o x v) (v' : Value) (D : List Jr) : OnAt (w.setCell ⟨g, o + 4, none⟩ v') g o { x with w := D } v' := by
  refine ⟨cell_other h.e ?_, cell_other h.l ?_, cell_other h.r ?_, cell_other h.nx ?_, World.cell?_setCell_same _ _ _ h.wv, cell_other h.lf ?_⟩
  all_goals (refine Or.inr ?_; first | (show o ≠ o + 4; omega) | (show o + 1 ≠ o + 4; omega) | (show o + 2 ≠ o + 4; omega) | (show o + 3 ≠ o + 4; omega) | (show o + 5 ≠ o + 4; omega))
theorem RW.setNx {w : World} {L : RL} {n : Nat} {a : Int} {X : Nat → On} (h : RW w L n a X) (hL : L.Ok n) {i : Nat} (hi : i < n) (z : Int) : RW (w.setCell ⟨L.bl, i * 6 + 3, none⟩ (.int .i64 z)) L n a (upd X i { X i with nx := z }) ∧ RKept n w (w.setCell ⟨L.bl, i * 6 + 3, none⟩ (.int .i64 z)) L L := h.fld hL hi (by omega) ((h.at' i hi).setNx z) rfl
theorem RW.setLf {w : World} {L : RL} {n : Nat} {a : Int} {X : Nat → On} (h : RW w L n a X) (hL : L.Ok n) {i : Nat} (hi : i < n) (z : Int) : RW (w.setCell ⟨L.bl, i * 6 + 5, none⟩ (.int .i64 z)) L n a (upd X i { X i with lf := z }) ∧ RKept n w (w.setCell ⟨L.bl, i * 6 + 5, none⟩ (.int .i64 z)) L L := h.fld hL hi (by omega) ((h.at' i hi).setLf z) rfl
theorem RW.setA {w : World} {L : RL} {n : Nat} {a : Int} {X : Nat → On} (h : RW w L n a X) (hL : L.Ok n) (z : Int) : RW (w.setCell ⟨L.bp, 1, none⟩ (.int .i64 z)) L n z X ∧ RKept n w (w.setCell ⟨L.bp, 1, none⟩ (.int .i64 z)) L L := by
  have hkp : Kp (fun b => b ≠ L.bp) w (w.setCell ⟨L.bp, 1, none⟩ (.int .i64 z)) := Kp.set _ _ (fun q => q rfl) _
  refine ⟨⟨cell_other h.p0 (Or.inr (by show 0 ≠ 1; omega)), World.cell?_setCell_same _ _ _ h.p1, h.ps, fun i hi => (h.at' i hi).kp hkp (fun e => hL.pl (by omega) e.symm), fun i hi => (h.wt i hi).kp hkp (fun r hr => (hL.vp i hi r hr).1), h.cap, fun k => by rw [World.frozen?_setCell]; exact h.fp k, fun h0 k => by rw [World.frozen?_setCell]; exact h.fl h0 k, Nat.lt_of_lt_of_le h.lt hkp.size⟩, ⟨hL, rfl, fun b hb => Or.inl hb, hkp.mono (fun b _ hq e => hq (Or.inl e))⟩⟩
end Go.Proofs.Ytjklaemhfhakhaa
