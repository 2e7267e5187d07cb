/- Three tables and a list that grow beside each other. -/
import Derived.Test.YtjnggbpifclpcabTb
import Derived.Maps.AppendAt
namespace Go.Proofs.Ytjnggbpifclpcab
open Go.ChangeShapes Go.WideShapes Go.ChangeAt Go.RowKit Go.Fl Ieee

/-- Neither lies in the other's block. -/
def Apart (u v : Value) : Prop := u.ownBlock = none ∨ u.ownBlock ≠ v.ownBlock
theorem Apart.symm {u v : Value} (h : Apart u v) : Apart v u := by
  unfold Apart at *
  rcases hu : u.ownBlock with _ | x <;> rcases hv : v.ownBlock with _ | y <;> simp_all
  exact fun e => h e.symm
theorem apart_new {u v v' : Value} {w : World} {b t s n : Nat} {xs : List Value} (h : Apart u v) (hu : w.ownsRow b t s u n xs) (hv : v'.ownBlock = v.ownBlock ∨ ∃ k, v'.ownBlock = some k ∧ w.heap.size ≤ k) : Apart u v' := by
  unfold Apart at *
  rcases hv with hv | ⟨k, hk, hkk⟩
  · rw [hv]; exact h
  · rw [hk]
    rcases hbn : u.ownBlock with _ | j
    · exact Or.inl rfl
    · have := (World.ownsRow.lt hu j hbn).2
      exact Or.inr (fun e => by cases e; omega)
/-- A table under way: its rows stand each in a block of its own, none of which is bv. -/
structure Tab (w0 w : World) (v : Value) (k : Nat) (f : Nat → Nat → Nat × Nat) (bv : Option Nat) : Prop where
  row : ∃ G : Nat → Nat, w.ownsRow w0.heap.size 25 1 v k ((List.range k).map fun i => Value.slice (some ⟨G i, 0, none⟩) 2 2) ∧ ∀ i, i < k → w.heap[G i]? = some (.cells #[ce (f i 0), ce (f i 1)] 26 (0, 0)) ∧ bv ≠ some (G i)
theorem lt_of_heap {w : World} {g : Nat} {o : Obj} (h : w.heap[g]? = some o) : g < w.heap.size := (Array.getElem?_eq_some_iff.1 h).1
theorem Tab.nil (w : World) (f : Nat → Nat → Nat × Nat) (bv : Option Nat) : Tab w w (.slice none 0 0) 0 f bv := ⟨⟨fun _ => 0, World.ownsRow_nil _ _ _ _, fun i hi => by omega⟩⟩
theorem Tab.up {w0 w w' : World} {v : Value} {k : Nat} {f : Nat → Nat → Nat × Nat} {bv : Option Nat} (h : Tab w0 w v k f bv) (hu : Up w w') : Tab w0 w' v k f bv := by
  obtain ⟨G, h1, h2⟩ := h.row
  exact ⟨⟨G, owns_up h1 hu, fun i hi => ⟨by rw [hu.block _ (lt_of_heap (h2 i hi).1)]; exact (h2 i hi).1, (h2 i hi).2⟩⟩⟩
theorem Tab.owns {w0 w : World} {v : Value} {k : Nat} {f : Nat → Nat → Nat × Nat} {bv : Option Nat} (h : Tab w0 w v k f bv) : ∃ xs, w.ownsRow w0.heap.size 25 1 v k xs := by
  obtain ⟨G, h1, _⟩ := h.row
  exact ⟨_, h1⟩
theorem Tab.rebv {w0 w : World} {v : Value} {k : Nat} {f : Nat → Nat → Nat × Nat} {bv bv' : Option Nat} (h : Tab w0 w v k f bv) (hb : bv' = bv ∨ ∃ g, bv' = some g ∧ w.heap.size ≤ g) : Tab w0 w v k f bv' := by
  obtain ⟨G, h1, h2⟩ := h.row
  refine ⟨⟨G, h1, fun i hi => ⟨(h2 i hi).1, ?_⟩⟩⟩
  rcases hb with rfl | ⟨g, rfl, hg⟩
  · exact (h2 i hi).2
  · have := lt_of_heap (h2 i hi).1
    intro e; cases e; omega
/-- Another table has grown. -/
theorem Tab.far {w0 w w' : World} {v u : Value} {k n : Nat} {f : Nat → Nat → Nat × Nat} {bv : Option Nat} {xs : List Value} (h : Tab w0 w v k f bv) (hu : w.ownsRow w0.heap.size 25 1 u n xs) (hg : w.grownBy w' u.ownBlock) (ha : Apart v u) : Tab w0 w' v k f bv := by
  obtain ⟨G, h1, h2⟩ := h.row
  refine ⟨⟨G, World.ownsRow.kept h1 hg ha, fun i hi => ⟨?_, (h2 i hi).2⟩⟩⟩
  rw [hg.block _ (lt_of_heap (h2 i hi).1) ?_]
  · exact (h2 i hi).1
  · intro e
    rcases hu.2 with ⟨rfl, _⟩ | ⟨g, cap, cur, rfl, _, hc, _⟩
    · cases e
    · have e' : G i = g := by simpa [Value.ownBlock] using e
      have := (h2 i hi).1
      rw [e', hc] at this
      simp at this
/-- The list has grown. -/
theorem Tab.farV {w0 w w' : World} {v u : Value} {k n : Nat} {f : Nat → Nat → Nat × Nat} {xs : List Value} (h : Tab w0 w v k f u.ownBlock) (hu : w.ownsRow w0.heap.size 26 1 u n xs) (hg : w.grownBy w' u.ownBlock) : Tab w0 w' v k f u.ownBlock := by
  obtain ⟨G, h1, h2⟩ := h.row
  refine ⟨⟨G, World.ownsRow.kept h1 hg ?_, fun i hi => ⟨?_, (h2 i hi).2⟩⟩⟩
  · rcases h1.2 with ⟨rfl, _⟩ | ⟨g, cap, cur, rfl, _, hc, _⟩
    · exact Or.inl rfl
    · refine Or.inr fun e => ?_
      rcases hu.2 with ⟨rfl, _⟩ | ⟨g', cap', cur', rfl, _, hc', _⟩
      · cases e
      · have e' : g = g' := by simpa [Value.ownBlock] using e
        rw [e', hc'] at hc
        simp at hc
  · rw [hg.block _ (lt_of_heap (h2 i hi).1) (fun e => (h2 i hi).2 e.symm)]
    exact (h2 i hi).1
/-- The three tables and the list. -/
structure Q4 (w0 w : World) (a b c v : Value) (ka kb kc kv : Nat) (fa fb fc : Nat → Nat → Nat × Nat) (d : List (Nat × Nat)) : Prop where
  A : Tab w0 w a ka fa v.ownBlock
  B : Tab w0 w b kb fb v.ownBlock
  C : Tab w0 w c kc fc v.ownBlock
  V : w.ownsRow w0.heap.size 26 1 v kv (d.map ce) ∧ d.length = kv
  ab : Apart a b
  ac : Apart a c
  bc : Apart b c
  up : Up w0 w
theorem Q4.start (w : World) (fa fb fc : Nat → Nat → Nat × Nat) : Q4 w w (.slice none 0 0) (.slice none 0 0) (.slice none 0 0) (.slice none 0 0) 0 0 0 0 fa fb fc [] :=
  ⟨Tab.nil _ _ _, Tab.nil _ _ _, Tab.nil _ _ _, ⟨World.ownsRow_nil _ _ _ _, rfl⟩, Or.inl rfl, Or.inl rfl, Or.inl rfl, Up.refl _⟩
theorem Q4.mono {w0 w w' : World} {a b c v : Value} {ka kb kc kv : Nat} {fa fb fc : Nat → Nat → Nat × Nat} {d : List (Nat × Nat)} (h : Q4 w0 w a b c v ka kb kc kv fa fb fc d) (hu : Up w w') : Q4 w0 w' a b c v ka kb kc kv fa fb fc d :=
  ⟨h.A.up hu, h.B.up hu, h.C.up hu, ⟨owns_up h.V.1 hu, h.V.2⟩, h.ab, h.ac, h.bc, h.up.trans hu⟩
theorem Q4.swapB {w0 w : World} {a b c v : Value} {ka kb kc kv : Nat} {fa fb fc : Nat → Nat → Nat × Nat} {d : List (Nat × Nat)} (h : Q4 w0 w a b c v ka kb kc kv fa fb fc d) : Q4 w0 w b a c v kb ka kc kv fb fa fc d := ⟨h.B, h.A, h.C, h.V, h.ab.symm, h.bc, h.ac, h.up⟩
theorem Q4.swapC {w0 w : World} {a b c v : Value} {ka kb kc kv : Nat} {fa fb fc : Nat → Nat → Nat × Nat} {d : List (Nat × Nat)} (h : Q4 w0 w a b c v ka kb kc kv fa fb fc d) : Q4 w0 w c b a v kc kb ka kv fc fb fa d := ⟨h.C, h.B, h.A, h.V, h.bc.symm, h.ac.symm, h.ab.symm, h.up⟩
theorem tab_push {w0 w w' : World} {v v' : Value} {k g : Nat} {f : Nat → Nat → Nat × Nat} {bv : Option Nat} {x y : Nat × Nat} {G : Nat → Nat} (h2 : ∀ i, i < k → w.heap[G i]? = some (.cells #[ce (f i 0), ce (f i 1)] 26 (0, 0)) ∧ bv ≠ some (G i)) (h1 : w.ownsRow w0.heap.size 25 1 v k ((List.range k).map fun i => Value.slice (some ⟨G i, 0, none⟩) 2 2)) (hg : w.grownBy w' v.ownBlock) (hl : w.heap[g]? = some (.cells #[ce x, ce y] 26 (0, 0))) (hb : bv ≠ some g)
    (ho : w'.ownsRow w0.heap.size 25 1 v' (k + 1) (((List.range k).map fun i => Value.slice (some ⟨G i, 0, none⟩) 2 2) ++ [.slice (some ⟨g, 0, none⟩) 2 2])) (hx : f k 0 = x) (hy : f k 1 = y) : Tab w0 w' v' (k + 1) f bv := by
  have keep : ∀ {q : Nat} {c : Array Value}, w.heap[q]? = some (.cells c 26 (0, 0)) → w'.heap[q]? = some (.cells c 26 (0, 0)) := by
    intro q c hq
    rw [hg.block _ (lt_of_heap hq) ?_]
    · exact hq
    · intro e
      rcases h1.2 with ⟨rfl, _⟩ | ⟨g', cap, cur, rfl, _, hc, _⟩
      · cases e
      · have e' : q = g' := by simpa [Value.ownBlock] using e
        rw [e', hc] at hq
        simp at hq
  refine ⟨⟨fun i => if i = k then g else G i, ?_, fun i hi => ?_⟩⟩
  · rw [List.range_succ, List.map_append]
    have e : ((List.range k).map fun i => Value.slice (some ⟨if i = k then g else G i, 0, none⟩) 2 2) = (List.range k).map fun i => Value.slice (some ⟨G i, 0, none⟩) 2 2 := by
      refine List.map_congr_left fun i hi => ?_
      have := List.mem_range.1 hi
      rw [if_neg (by omega)]
    rw [e]
    simp only [List.map_cons, List.map_nil, if_true]
    exact ho
  · show w'.heap[if i = k then g else G i]? = _ ∧ bv ≠ some (if i = k then g else G i)
    by_cases e : i = k
    · subst e
      rw [if_pos rfl, hx, hy]
      exact ⟨keep hl, hb⟩
    · rw [if_neg e]
      exact ⟨keep (h2 i (by omega)).1, (h2 i (by omega)).2⟩
/-- The first table takes a row more that has just been made. -/
theorem Q4.push {w0 w w' : World} {a b c v a' : Value} {ka kb kc kv : Nat} {fa fb fc : Nat → Nat → Nat × Nat} {d : List (Nat × Nat)} {x y : Nat × Nat} {u : Obj} {G : Nat → Nat} (h : Q4 w0 w a b c v ka kb kc kv fa fb fc d) (hG : w.ownsRow w0.heap.size 25 1 a ka ((List.range ka).map fun i => Value.slice (some ⟨G i, 0, none⟩) 2 2) ∧ ∀ i, i < ka → w.heap[G i]? = some (.cells #[ce (fa i 0), ce (fa i 1)] 26 (0, 0)) ∧ v.ownBlock ≠ some (G i))
    (ho : w'.ownsRow w0.heap.size 25 1 a' (ka + 1) (((List.range ka).map fun i => Value.slice (some ⟨G i, 0, none⟩) 2 2) ++ [.slice (some ⟨w.heap.size, 0, none⟩) 2 2])) (hg : ((w.alloc (.cells #[ce x, ce y] 26)).alloc u).grownBy w' a.ownBlock) (hat : a'.ownBlock = a.ownBlock ∨ a'.ownBlock = some ((w.alloc (.cells #[ce x, ce y] 26)).alloc u).heap.size) (hx : fa ka 0 = x) (hy : fa ka 1 = y) : Q4 w0 w' a' b c v (ka + 1) kb kc kv fa fb fc d := by
  have hu : Up w ((w.alloc (.cells #[ce x, ce y] 26)).alloc u) := (Up.alloc _ _).trans (Up.alloc _ _)
  have hm := h.mono hu
  have hl : ((w.alloc (.cells #[ce x, ce y] 26)).alloc u).heap[w.heap.size]? = some (.cells #[ce x, ce y] 26 (0, 0)) := by
    rw [Below.heap_alloc (w.alloc (.cells #[ce x, ce y] 26)) _ w.heap.size (by simp)]; exact heap_alloc_last _ _
  obtain ⟨xa, oa⟩ := hm.A.owns
  have hat' : a'.ownBlock = a.ownBlock ∨ ∃ k, a'.ownBlock = some k ∧ ((w.alloc (.cells #[ce x, ce y] 26)).alloc u).heap.size ≤ k := by
    rcases hat with e | e
    · exact Or.inl e
    · exact Or.inr ⟨_, e, Nat.le_refl _⟩
  obtain ⟨xb, ob⟩ := hm.B.owns
  obtain ⟨xc, oc⟩ := hm.C.owns
  have hV : ((w.alloc (.cells #[ce x, ce y] 26)).alloc u).ownsRow w0.heap.size 26 1 v kv (d.map ce) := hm.V.1
  refine ⟨tab_push (fun i hi => ⟨by rw [hu.block _ (lt_of_heap (hG.2 i hi).1)]; exact (hG.2 i hi).1, (hG.2 i hi).2⟩) (owns_up hG.1 hu) hg hl ?_ ho hx hy, hm.B.far oa hg hm.ab.symm, hm.C.far oa hg hm.ac.symm, ⟨World.ownsRow.kept hV hg ?_, h.V.2⟩, (apart_new hm.ab.symm ob hat').symm, (apart_new hm.ac.symm oc hat').symm, h.bc, Below.grown hm.up hg hm.up.size fun j hj => (World.ownsRow.lt oa j hj).1⟩
  · intro e
    have := (World.ownsRow.lt h.V.1 _ e).2
    omega
  · rcases hV.2 with ⟨e, _⟩ | ⟨g, cap, cur, e, _, hc, _⟩
    · rw [e]; exact Or.inl rfl
    · refine Or.inr fun e2 => ?_
      rcases oa.2 with ⟨e3, _⟩ | ⟨g', cap', cur', e3, _, hc', _⟩
      · rw [e, e3] at e2; cases e2
      · rw [e, e3] at e2
        have e' : g = g' := by simpa [Value.ownBlock] using e2
        rw [e', hc'] at hc
        simp at hc
theorem fix {w0 w wa w' : World} {t v v' : Value} {k n : Nat} {f : Nat → Nat → Nat × Nat} {xs : List Value} (h : Tab w0 w t k f v.ownBlock) (hat : v'.ownBlock = v.ownBlock ∨ ∃ g, v'.ownBlock = some g ∧ w.heap.size ≤ g) (hu : Up w wa) (hV : wa.ownsRow w0.heap.size 26 1 v n xs) (hg : wa.grownBy w' v.ownBlock) : Tab w0 w' t k f v'.ownBlock := by
  obtain ⟨G, h1, h2⟩ := h.row
  have h3 := (h.up hu).farV hV hg
  rcases hat with e | ⟨g, e, hgg⟩
  · rw [e]; exact h3
  · refine ⟨⟨G, World.ownsRow.kept (owns_up h1 hu) hg ?_, fun i hi => ⟨?_, ?_⟩⟩⟩
    · rcases (owns_up h1 hu).2 with ⟨rfl, _⟩ | ⟨q, cap, cur, rfl, _, hc, _⟩
      · exact Or.inl rfl
      · refine Or.inr fun e2 => ?_
        rcases hV.2 with ⟨rfl, _⟩ | ⟨g', cap', cur', rfl, _, hc', _⟩
        · cases e2
        · have e' : q = g' := by simpa [Value.ownBlock] using e2
          rw [e', hc'] at hc
          simp at hc
    · rw [hg.block _ (Nat.lt_of_lt_of_le (lt_of_heap (h2 i hi).1) hu.size) (fun e3 => (h2 i hi).2 e3.symm), hu.block _ (lt_of_heap (h2 i hi).1)]
      exact (h2 i hi).1
    · rw [e]
      have := lt_of_heap (h2 i hi).1
      intro e3; cases e3; omega
/-- The list takes a number more. -/
theorem Q4.pushV {w0 w w' : World} {a b c v v' : Value} {ka kb kc kv : Nat} {fa fb fc : Nat → Nat → Nat × Nat} {d : List (Nat × Nat)} {x : Nat × Nat} {u : Obj} (h : Q4 w0 w a b c v ka kb kc kv fa fb fc d)
    (ho : w'.ownsRow w0.heap.size 26 1 v' (kv + 1) (d.map ce ++ [ce x])) (hg : (w.alloc u).grownBy w' v.ownBlock) (hat : v'.ownBlock = v.ownBlock ∨ v'.ownBlock = some (w.alloc u).heap.size) : Q4 w0 w' a b c v' ka kb kc (kv + 1) fa fb fc (d ++ [x]) := by
  have hu : Up w (w.alloc u) := Up.alloc _ _
  have hm := h.mono hu
  have hV := hm.V.1
  have hat' : v'.ownBlock = v.ownBlock ∨ ∃ k, v'.ownBlock = some k ∧ w.heap.size ≤ k := by
    rcases hat with e | e
    · exact Or.inl e
    · exact Or.inr ⟨_, e, by simp⟩
  exact ⟨fix h.A hat' hu hV hg, fix h.B hat' hu hV hg, fix h.C hat' hu hV hg, ⟨by rw [List.map_append]; exact ho, by simp [h.V.2]⟩, h.ab, h.ac, h.bc, Below.grown hm.up hg hm.up.size fun j hj => (World.ownsRow.lt hV j hj).1⟩
end Go.Proofs.Ytjnggbpifclpcab
