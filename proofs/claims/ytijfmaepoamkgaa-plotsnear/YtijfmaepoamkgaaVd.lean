/- One cell a beat: beats, lists, moduli and remainders, side by side; Resolve is Near. -/
import Derived.Test.YtijfmaepoamkgaaVa
namespace Go.Proofs.Ytijfmaepoamkgaa
open Go.ChangeShapes Go.WideShapes Go.ChangeAt Go.RowKit Go.Fl Go.Sort

def ivL (f : Nat → Int) (n : Nat) : List Value := (List.range n).map fun i => Value.int .i64 (f i)
theorem ivL_next (f : Nat → Int) (n : Nat) : ivL f (n + 1) = ivL f n ++ [.int .i64 (f n)] := by unfold ivL; rw [List.range_succ, List.map_append]; rfl
/-- Four rows. -/
structure NF (w wr : World) (i a b c d : Nat) (vb vc vm vr : Value) (B : Nat → Bt) (C : Nat → List Int) (m r : Nat → Int) (gf cf : Nat → Nat) : Prop where
  up : Up w wr
  bts : wr.ownsRow w.heap.size 24 5 vb a (bF B a)
  ll : LL w wr b vc C gf cf
  mm : wr.ownsRow w.heap.size 2 1 vm c (ivL m c)
  rr : wr.ownsRow w.heap.size 2 1 vr d (ivL r d)
  am : ∀ j, j < b → vm.ownBlock ≠ some (gf j)
  ar : ∀ j, j < b → vr.ownBlock ≠ some (gf j)
  mr : ∀ g, vm.ownBlock = some g → vr.ownBlock ≠ some g
  le : b ≤ i
theorem NF.start (w : World) (B : Nat → Bt) (C : Nat → List Int) (m r : Nat → Int) : NF w w 0 0 0 0 0 (.slice none 0 0) (.slice none 0 0) (.slice none 0 0) (.slice none 0 0) B C m r (fun _ => 0) (fun _ => 0) :=
  ⟨Up.refl _, World.ownsRow_nil _ _ _ _, LL.nil w w C, World.ownsRow_nil _ _ _ _, World.ownsRow_nil _ _ _ _, fun j hj => by omega, fun j hj => by omega, fun g hg => (by cases hg), Nat.le_refl _⟩
theorem NF.upon {w wr w2 : World} {i a b c d : Nat} {vb vc vm vr : Value} {B : Nat → Bt} {C : Nat → List Int} {m r : Nat → Int} {gf cf : Nat → Nat} (h : NF w wr i a b c d vb vc vm vr B C m r gf cf) (hu : Up wr w2) : NF w w2 i a b c d vb vc vm vr B C m r gf cf :=
  ⟨h.up.trans hu, owns_up h.bts hu, h.ll.up hu, owns_up h.mm hu, owns_up h.rr hu, h.am, h.ar, h.mr, h.le⟩
/-- A beat more. -/
theorem NF.beat {w wr wa w2 : World} {i a b c d : Nat} {vb vb' vc vm vr : Value} {B : Nat → Bt} {C : Nat → List Int} {m r : Nat → Int} {gf cf : Nat → Nat} (h : NF w wr i a b c d vb vc vm vr B C m r gf cf) (ha : Up wr wa) (hown : w2.ownsRow w.heap.size 24 5 vb' (a + 1) (bF B a ++ bL (B a))) (hg : wa.grownBy w2 vb.ownBlock) : NF w w2 i (a + 1) b c d vb' vc vm vr B C m r gf cf := by
  have h2 := h.upon ha
  refine ⟨grown_up h2.up hg (fun j hj => (World.ownsRow.lt h2.bts j hj).1), by rw [bF_next]; exact hown, h2.ll.grown hg (fun g hg' => kinds_apart h2.bts h2.ll.own (by decide) hg') (h2.ll.kind h2.bts (by decide)), owns_grown h2.mm hg (fun g hg' => kinds_apart h2.bts h2.mm (by decide) hg'), owns_grown h2.rr hg (fun g hg' => kinds_apart h2.bts h2.rr (by decide) hg'), h.am, h.ar, h.mr, h.le⟩
/-- A modulus more. -/
theorem NF.modulus {w wr wa w2 : World} {i a b c d : Nat} {vb vc vm vm' vr : Value} {B : Nat → Bt} {C : Nat → List Int} {m r : Nat → Int} {gf cf : Nat → Nat} (h : NF w wr i a b c d vb vc vm vr B C m r gf cf) (ha : Up wr wa) (hown : w2.ownsRow w.heap.size 2 1 vm' (c + 1) (ivL m c ++ [.int .i64 (m c)])) (hg : wa.grownBy w2 vm.ownBlock) (hat : vm'.ownBlock = vm.ownBlock ∨ vm'.ownBlock = some wa.heap.size) : NF w w2 i a b (c + 1) d vb vc vm' vr B C m r gf cf := by
  have h2 := h.upon ha
  refine ⟨grown_up h2.up hg (fun j hj => (World.ownsRow.lt h2.mm j hj).1), owns_grown h2.bts hg (fun g hg' => kinds_apart h2.mm h2.bts (by decide) hg'), h2.ll.grown hg (fun g hg' => kinds_apart h2.mm h2.ll.own (by decide) hg') h.am, by rw [ivL_next]; exact hown, owns_grown h2.rr hg (fun g hg' => h.mr g hg'), fun j hj => ?_, h.ar, fun g hg' => ?_, h.le⟩
  · rcases hat with e | e
    · rw [e]; exact h.am j hj
    · rw [e]
      intro e2
      have := (h2.ll.lt j hj).2
      have := Option.some.inj e2
      omega
  · rcases hat with e | e
    · exact h.mr g (e ▸ hg')
    · rw [e] at hg'
      intro e2
      have := (World.ownsRow.lt h2.rr g e2).2
      have := Option.some.inj hg'
      omega
/-- A remainder more. -/
theorem NF.rest {w wr wa w2 : World} {i a b c d : Nat} {vb vc vm vr vr' : Value} {B : Nat → Bt} {C : Nat → List Int} {m r : Nat → Int} {gf cf : Nat → Nat} (h : NF w wr i a b c d vb vc vm vr B C m r gf cf) (ha : Up wr wa) (hown : w2.ownsRow w.heap.size 2 1 vr' (d + 1) (ivL r d ++ [.int .i64 (r d)])) (hg : wa.grownBy w2 vr.ownBlock) (hat : vr'.ownBlock = vr.ownBlock ∨ vr'.ownBlock = some wa.heap.size) : NF w w2 i a b c (d + 1) vb vc vm vr' B C m r gf cf := by
  have h2 := h.upon ha
  refine ⟨grown_up h2.up hg (fun j hj => (World.ownsRow.lt h2.rr j hj).1), owns_grown h2.bts hg (fun g hg' => kinds_apart h2.rr h2.bts (by decide) hg'), h2.ll.grown hg (fun g hg' => kinds_apart h2.rr h2.ll.own (by decide) hg') h.ar, owns_grown h2.mm hg (fun g hg' e => h.mr g e hg'), by rw [ivL_next]; exact hown, h.am, fun j hj => ?_, fun g hg' => ?_, h.le⟩
  · rcases hat with e | e
    · rw [e]; exact h.ar j hj
    · rw [e]
      intro e2
      have := (h2.ll.lt j hj).2
      have := Option.some.inj e2
      omega
  · rcases hat with e | e
    · rw [e]; exact h.mr g hg'
    · rw [e]
      intro e2
      have := (World.ownsRow.lt h2.mm g hg').2
      have := Option.some.inj e2
      omega
/-- A list more, in a block that is new. -/
theorem NF.cell {w wr wb wa w3 : World} {i a c d g cc : Nat} {vb vc vc' vm vr : Value} {B : Nat → Bt} {C : Nat → List Int} {m r : Nat → Int} {gf cf : Nat → Nat} (h : NF w wr i a i c d vb vc vm vr B C m r gf cf) (hb : Up wr wb) (hnew : wr.heap.size ≤ g) (hgl : g < wb.heap.size) (htag : ∃ cs fr, wb.heap[g]? = some (.cells cs 2 fr)) (hrow : ∀ k, k < (C i).length → wb.cell? ⟨g, k, none⟩ = some (.int .i64 (C i)[k]!)) (ha : Up wb wa) (hown : w3.ownsRow w.heap.size 39 1 vc' (i + 1) (((List.range i).map fun j => Value.slice (some ⟨gf j, 0, none⟩) (C j).length (cf j)) ++ [.slice (some ⟨g, 0, none⟩) (C i).length cc])) (hg : wa.grownBy w3 vc.ownBlock) (hat : vc'.ownBlock = vc.ownBlock ∨ vc'.ownBlock = some wa.heap.size) : ∃ gf' cf', NF w w3 (i + 1) a (i + 1) c d vb vc' vm vr B C m r gf' cf' := by
  have h1 := h.upon hb
  have h2 := h1.upon ha
  have hw := h.up.size
  have am : ∀ j, j < i + 1 → vm.ownBlock ≠ some (if j < i then gf j else g) := fun j hj => by
    by_cases e : j < i
    · rw [if_pos e]; exact h.am j e
    · rw [if_neg e]
      intro e2
      have := (World.ownsRow.lt h.mm g e2).2
      omega
  have ar : ∀ j, j < i + 1 → vr.ownBlock ≠ some (if j < i then gf j else g) := fun j hj => by
    by_cases e : j < i
    · rw [if_pos e]; exact h.ar j e
    · rw [if_neg e]
      intro e2
      have := (World.ownsRow.lt h.rr g e2).2
      omega
  exact ⟨_, _, grown_up h2.up hg (fun j hj => (World.ownsRow.lt h2.ll.own j hj).1), owns_grown h2.bts hg (fun g hg' => kinds_apart h2.ll.own h2.bts (by decide) hg'), h1.ll.next ha (by omega) hgl (fun e => by
    have := (World.ownsRow.lt h.ll.own g e).2
    omega) htag hrow hown hg hat, owns_grown h2.mm hg (fun g hg' => kinds_apart h2.ll.own h2.mm (by decide) hg'), owns_grown h2.rr hg (fun g hg' => kinds_apart h2.ll.own h2.rr (by decide) hg'), am, ar, h.mr, Nat.le_refl _⟩
theorem iv_ir {b : Nat} {w : World} {p : Option Addr} {n cap : Nat} {f : Nat → Int} (h : w.ownsRow b 2 1 (.slice p n cap) n (ivL f n)) : Fo.IR w p n f := by
  intro i hi
  obtain ⟨p', cap', e1, e2⟩ := own_form h
  obtain ⟨g, hg⟩ := e2 (by omega)
  simp only [Value.slice.injEq] at e1
  obtain ⟨rfl, _, rfl⟩ := e1
  subst hg
  refine ⟨g, 0, rfl, ?_⟩
  rw [Nat.zero_add, World.ownsRow.cellAt h i (by omega)]
  unfold ivL
  rw [List.getElem?_map, List.getElem?_range hi]
  rfl
/-- One cell a beat. -/
theorem all_one {off : Int} {r m : Nat → Int} {x : Int} (h0 : 0 ≤ off) : ∀ n, (allB off m (fun i => [r i]) x n = true ↔ worst r m x n ≤ off) := by
  intro n
  rw [allB_iff, worst_le r m x off h0]
  constructor
  · intro h i hi
    have := h i hi
    unfold anyB at this
    simpa using this
  · intro h i hi
    unfold anyB
    simpa using h i hi
theorem res_near {off : Int} {r m : Nat → Int} (h0 : 0 ≤ off) (n k : Nat) : resL off m (fun i => [r i]) n k = Fo.nears r m n off k := by
  unfold resL Fo.nears
  rw [Int.toNat_natCast]
  unfold nearL
  congr 1
  apply List.filter_congr
  intro x _
  rw [decide_eq_decide]
  rw [wB_le]
  exact all_one h0 n
end Go.Proofs.Ytijfmaepoamkgaa
