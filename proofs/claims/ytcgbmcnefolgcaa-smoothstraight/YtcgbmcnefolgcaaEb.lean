/- Line, the document's. -/
import Derived.Test.YtcgbmcnefolgcaaEa
import Derived.Test.YtcgbmcnefolgcaaRz
namespace Go.Proofs.Ytcgbmcnefolgcaa
open Go.ChangeShapes Go.WideShapes Go.ChangeAt Go.RowKit Go.Fl Go.Sort
attribute [local go_sem] run_store_float call22 call54 run_neg fold_eq fold_ne fold_lt fold_gt abs_eq

/-- A float is appended to a row of one's own. -/
theorem wpList_pushF {ops : Array Oper} {rest : List Oper} {o : Oper} {a : Act} {Q : Exit → Act → World → Prop} (hgd : o.guard = none) (s x : Operand) (ho : o.op = .call { callee := .builtin .append, args := #[s, x], argTypes := #[23, 23] })
    {b : Nat} {w : World} (p : Option Addr) (m c : Nat) (L : List Nat) (y : Nat) (hs : a.eval s = .slice p m c) (hx : a.eval x = .slice (some ⟨w.heap.size, 0, none⟩) 1 1) (HO : OR fe 24 b w (.slice p m c) L) (hb : b ≤ w.heap.size) (hm : L.length ≤ 2000000)
    (h : ∀ p' c' w', OR fe 24 b w' (.slice p' (m + 1) c') (L ++ [y]) → (w.alloc (.cells #[.float .f64 y] 24)).grownBy w' (Value.slice p m c).ownBlock → ((Value.slice p' (m + 1) c').ownBlock = (Value.slice p m c).ownBlock ∨ (Value.slice p' (m + 1) c').ownBlock = some (w.alloc (.cells #[.float .f64 y] 24)).heap.size) → wpList Try.prog ops Q rest (a.put o.dst (.slice p' (m + 1) c')) w') : wpList Try.prog ops Q (o :: rest) a (w.alloc (.cells #[.float .f64 y] 24)) := by
  obtain ⟨i0, hi, hz0, hz2, hz3⟩ := info_parts info23
  have hl := HO.len
  have HO' : (w.alloc (.cells #[.float .f64 y] 24)).ownsRow b 24 1 (.slice p m c) L.length (L.map fe) := World.ownsRow.alloc HO _
  refine wpList_append_own_at _ hgd s x 23 ho b 24 i0 (.float .f64 0) 1 8 Try.underlying23 hi hz0 hz2 hz3 rfl (by decide) _ _ _ hs HO' ⟨w.heap.size, 0, none⟩ 1 1 [.float .f64 y] hx rfl (one_new _ _ _) (one_cellV rfl) (by unfold maxLen; omega) (by omega) (by simp; omega) ?_
  intro v' w' h1 h2 _ h4
  obtain ⟨p', c', hv, _⟩ := own_form h1
  rw [hl] at hv
  subst hv
  refine h p' c' w' ?_ h2 h4
  show w'.ownsRow _ _ _ _ _ _
  rw [List.length_append, List.map_append]
  exact h1
/-- .. that lies anywhere. -/
theorem wpList_pushG {ops : Array Oper} {rest : List Oper} {o : Oper} {a : Act} {Q : Exit → Act → World → Prop} (hgd : o.guard = none) (s x : Operand) (ho : o.op = .call { callee := .builtin .append, args := #[s, x], argTypes := #[23, 23] })
    {w0 w : World} (p : Option Addr) (m c : Nat) (L : List Nat) (y g : Nat) (hs : a.eval s = .slice p m c) (hx : a.eval x = .slice (some ⟨g, 0, none⟩) 1 1) (hy : w.heap[g]? = some (.cells #[.float .f64 y] 24)) (HO : OR fe 24 w0.heap.size w (.slice p m c) L) (hu : Up w0 w) (hm : L.length ≤ 2000000)
    (h : ∀ p' c' w', Hid (OR fe 24 w0.heap.size w' (.slice p' (m + 1) c') (L ++ [y])) → Hid (Up w0 w') → wpList Try.prog ops Q rest (a.put o.dst (.slice p' (m + 1) c')) w') : wpList Try.prog ops Q (o :: rest) a w := by
  obtain ⟨i0, hi, hz0, hz2, hz3⟩ := info_parts info23
  have hl := HO.len
  refine wpList_append_own_at _ hgd s x 23 ho w0.heap.size 24 i0 (.float .f64 0) 1 8 Try.underlying23 hi hz0 hz2 hz3 rfl (by decide) _ _ _ hs HO ⟨g, 0, none⟩ 1 1 [.float .f64 y] hx rfl (fun j u hj => ?_) (one_cellV rfl) (by unfold maxLen; omega) (by omega) (RowKit.Below.size hu) ?_
  · match j, hj with
    | 0, hj => simp at hj; subst hj; unfold World.cell?; simp only [Addr.add, if_true, hy]; rfl
  intro v' w' h1 h2 _ _
  obtain ⟨p', c', hv, _⟩ := own_form h1
  rw [hl] at hv
  subst hv
  refine h p' c' w' ?_ (RowKit.Below.grown hu h2 (RowKit.Below.size hu) (fun j hj => (HO.lt j hj).1))
  show w'.ownsRow _ _ _ _ _ _
  rw [List.length_append, List.map_append]
  exact h1
/-- Nothing has turned of what was there; a list of one float, once it is made. -/
def MkF (W : World) (X : Option Nat) (b : Bool) (w : World) : Prop := Up W w ∧ match b with
  | false => w.heap.size = W.heap.size
  | true => ∃ r, ab r = X ∧ w.heap[W.heap.size]? = some (.cells #[.float .f64 r] 24)
theorem MkF.start (W : World) (X : Option Nat) : MkF W X false W.drew := ⟨Up.drew W, rfl⟩
theorem MkF.on (W : World) (X : Option Nat) (b : Bool) (w : World) (n : Nat) (h : MkF W X b w) : MkF W X b (w.drewN n) := ⟨(show Up W w from h.1).dr n, by cases b <;> exact h.2⟩
theorem MkF.mk {P : Program} {ops : Array Oper} {W : World} {X : Option Nat} {r : Nat} {o : Oper} {a : Act} (hg : o.guard = none) (hr : ab r = X) (h : ∀ w, (execOp a.eval o).run P w = .ok (.value (.slice (some ⟨w.heap.size, 0, none⟩) 1 1)) (w.alloc (.cells #[.float .f64 r] 24))) : LoosD P ops (MkF W X false) (MkF W X true) (Sq.val (.slice (some ⟨W.heap.size, 0, none⟩) 1 1)).T o a := by
  refine Or.inl ⟨by simp [Region.wanted, hg], fun w hC => ?_⟩
  rw [h w]
  have h2 : w.heap.size = W.heap.size := hC.2
  refine ⟨⟨Stt.zero, by rw [h2], trivial⟩, (show Up W w from hC.1).al _, r, hr, ?_⟩
  rw [← h2]
  exact heap_alloc_last w _
/-- Two rows that grow beside each other. -/
structure AB (w0 w : World) (va vb : Value) (La Lb : List Nat) : Prop where
  a : OR fe 24 w0.heap.size w va La
  b : OR fe 24 w0.heap.size w vb Lb
  ap : ∀ g, va.ownBlock = some g → vb.ownBlock ≠ some g
  up : Up w0 w
theorem AB.dr {w0 w : World} {va vb : Value} {La Lb : List Nat} (h : AB w0 w va vb La Lb) (n : Nat) : AB w0 (w.drewN n) va vb La Lb := ⟨h.a.up (Up.drewN _ _), h.b.up (Up.drewN _ _), h.ap, h.up.dr n⟩
theorem AB.pushA {w0 w w' : World} {va vb va' : Value} {La Lb : List Nat} {y : Nat} (h : AB w0 w va vb La Lb) (h1 : OR fe 24 w0.heap.size w' va' (La ++ [y])) (hg : (w.alloc (.cells #[.float .f64 y] 24)).grownBy w' va.ownBlock) (hb : va'.ownBlock = va.ownBlock ∨ va'.ownBlock = some (w.alloc (.cells #[.float .f64 y] 24)).heap.size) : AB w0 w' va' vb (La ++ [y]) Lb := by
  have hB : (w.alloc (.cells #[.float .f64 y] 24)).ownsRow w0.heap.size 24 1 vb Lb.length (Lb.map fe) := World.ownsRow.alloc h.b _
  refine ⟨h1, owns_grown hB hg (fun g e q => h.ap g e q), fun g e q => ?_, ?_⟩
  · rcases hb with k | k
    · exact h.ap g (k.symm.trans e) q
    · rw [k] at e
      have := (h.b.lt g q).2
      simp at e
      omega
  · have h3 : Up w0 (w.alloc (.cells #[.float .f64 y] 24)) := h.up.al _
    exact RowKit.Below.grown h3 hg (RowKit.Below.size h3) (fun j hj => (h.a.lt j hj).1)
theorem AB.pushB {w0 w w' : World} {va vb vb' : Value} {La Lb : List Nat} {y : Nat} (h : AB w0 w va vb La Lb) (h1 : OR fe 24 w0.heap.size w' vb' (Lb ++ [y])) (hg : (w.alloc (.cells #[.float .f64 y] 24)).grownBy w' vb.ownBlock) (hb : vb'.ownBlock = vb.ownBlock ∨ vb'.ownBlock = some (w.alloc (.cells #[.float .f64 y] 24)).heap.size) : AB w0 w' va vb' La (Lb ++ [y]) := by
  have hA : (w.alloc (.cells #[.float .f64 y] 24)).ownsRow w0.heap.size 24 1 va La.length (La.map fe) := World.ownsRow.alloc h.a _
  refine ⟨owns_grown hA hg (fun g e q => h.ap g q e), h1, fun g e q => ?_, ?_⟩
  · rcases hb with k | k
    · exact h.ap g e (k.symm.trans q)
    · rw [k] at q
      have := (h.a.lt g e).2
      simp at q
      omega
  · have h3 : Up w0 (w.alloc (.cells #[.float .f64 y] 24)) := h.up.al _
    exact RowKit.Below.grown h3 hg (RowKit.Below.size h3) (fun j hj => (h.b.lt j hj).1)
theorem getD_app_lt {L : List Nat} {y j : Nat} (h : j < L.length) : (L ++ [y]).getD j 0 = L.getD j 0 := by
  simp [List.getD_eq_getElem?_getD, List.getElem?_append_left h]
theorem getD_app_eq {L : List Nat} {y j : Nat} (h : L.length = j) : (L ++ [y]).getD j 0 = y := by
  subst h
  simp [List.getD_eq_getElem?_getD]
theorem OR.cellD {b g n cap : Nat} {w : World} {L : List Nat} (h : OR fe 24 b w (.slice (some ⟨g, 0, none⟩) n cap) L) {i : Nat} (hi : i < L.length) : w.cell? ⟨g, i, none⟩ = some (.float .f64 (L.getD i 0)) := by
  rw [OR.cell h hi, getElem!_pos L i hi]
  simp [hi]
/-- A row of one's own, as a list that can be read. -/
theorem or_reads {b : Nat} {w : World} {g n cap : Nat} {L : List Nat} (h : OR fe 24 b w (.slice (some ⟨g, 0, none⟩) n cap) L) : Reads w g 0 L.toArray := by
  intro j hj
  have hj' : j < L.length := by simpa using hj
  rw [Nat.zero_add, OR.cell h hj']
  simp [hj']
/-- The sum of a row that was appended. -/
theorem floats_or {b : Nat} {w : World} {p : Option Addr} {n cap : Nat} {L : List Nat} (h : OR fe 24 b w (.slice p n cap) L) (hp : 0 < n) (hn : n ≤ 1000000) {F : Nat → Option Nat} (hF : ∀ i, i < n → ab (L.getD i 0) = F i) : Calls Try.prog 45 #[.slice p n cap] w (FR w (sumN F n)) := by
  have hl := h.len
  obtain ⟨p', c', e, hg⟩ := h.form
  obtain ⟨g, hg⟩ := hg (by omega)
  simp only [Value.slice.injEq] at e
  have := e.1.trans hg
  subst this
  have hs : L.toArray.size = n := by simpa using hl
  have := t45 g 0 cap L.toArray w (or_reads h) (by rw [hs]; exact hp) (by rw [hs]; omega)
  rw [hs] at this
  refine this.mono ?_
  rintro e w' ⟨r, k, h1, h2, h3⟩
  refine ⟨r, k, h1, h2, ?_⟩
  show _ = _
  rw [h3.out]
  unfold sumD
  rw [hs]
  refine sumN_congr n fun i hi => ?_
  rw [← hF i hi]
  congr 1
  have : i < L.length := by omega
  simp [this]
theorem floats_sv {w : World} {p : Option Addr} {n cap : Nat} {d : Array Nat} (h : SV w p n cap d) (hp : 0 < n) (hn : n ≤ 1000000) : Calls Try.prog 45 #[.slice p n cap] w (FR w (sumN (fun i => ab d[i]!) n)) := by
  obtain ⟨b, o, rfl, hr⟩ := h.rd hp
  have hl := h.len
  have := t45 b o cap d w hr (by omega) (by omega)
  unfold sumD at this
  rw [hl] at this
  exact this
end Go.Proofs.Ytcgbmcnefolgcaa
