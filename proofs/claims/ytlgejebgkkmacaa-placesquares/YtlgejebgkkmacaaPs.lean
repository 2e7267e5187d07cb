/- Two rows of points that grow beside each other. -/
import Derived.Test.YtlgejebgkkmacaaPr
import Derived.Test.YtlgejebgkkmacaaPu
namespace Go.Proofs.Ytlgejebgkkmacaa
open Go.ChangeShapes Go.WideShapes Go.ChangeAt Go.RowKit Go.Fl Ieee
attribute [local go_sem] run_store_float run_store_complex call39 call50 run_neg fold_eq fold_ne fold_lt fold_gt abs_eq

structure AB (B : Nat) (w0 w : World) (va vb : Value) (La Lb : List (Nat × Nat)) : Prop where
  a : PRow B w va La
  b : PRow B w vb Lb
  ap : ∀ g, va.ownBlock = some g → vb.ownBlock ≠ some g
  up : Up w0 w
  le : w0.heap.size ≤ B
  le' : B ≤ w.heap.size
theorem AB.on {B : Nat} {w0 w W : World} {va vb : Value} {La Lb : List (Nat × Nat)} (h : AB B w0 w va vb La Lb) (hu : Up w W) : AB B w0 W va vb La Lb := ⟨h.a.up hu, h.b.up hu, h.ap, h.up.trans hu, h.le, Nat.le_trans h.le' hu.size⟩
theorem AB.start (w : World) : AB w.heap.size w w (.slice none 0 0) (.slice none 0 0) [] [] := ⟨PRow.nil _ _, PRow.nil _ _, fun g h => (by cases h), Up.refl _, Nat.le_refl _, Nat.le_refl _⟩
theorem PRow.kept {b : Nat} {w w' : World} {v : Value} {d : List (Nat × Nat)} {row : Option Nat} (h : PRow b w v d) (hg : w.grownBy w' row) (hne : ∀ g, row = some g → v.ownBlock ≠ some g) : PRow b w' v d := by
  refine World.ownsRow.kept h hg ?_
  cases hv : v.ownBlock with
  | none => exact Or.inl rfl
  | some g => exact Or.inr fun e => hne g e.symm hv
theorem AB.swap {B : Nat} {w0 w : World} {va vb : Value} {La Lb : List (Nat × Nat)} (h : AB B w0 w va vb La Lb) : AB B w0 w vb va Lb La := ⟨h.b, h.a, fun g e q => h.ap g q e, h.up, h.le, h.le'⟩
theorem AB.push {B : Nat} {w0 w W w' : World} {va vb va' : Value} {La Lb : List (Nat × Nat)} {y : Nat × Nat} (h : AB B w0 w va vb La Lb) (hu : Up w W) (h1 : PRow B w' va' (La ++ [y])) (hg : W.grownBy w' va.ownBlock) (hb : va'.ownBlock = va.ownBlock ∨ va'.ownBlock = some W.heap.size) : AB B w0 w' va' vb (La ++ [y]) Lb := by
  have h2 := h.on hu
  refine ⟨h1, h2.b.kept hg (fun g e q => h.ap g e q), fun g e q => ?_, ?_, h.le, Nat.le_trans h2.le' hg.size⟩
  · rcases hb with k | k
    · exact h.ap g (k.symm.trans e) q
    · rw [k] at e
      have := (World.ownsRow.lt h2.b g q).2
      simp at e
      omega
  · refine RowKit.Below.grown h2.up hg (Nat.le_trans h.le h2.le') (fun j hj => Nat.le_trans h.le (h.a.lt j hj))
theorem wpList_pushA {ops : Array Oper} {rest : List Oper} {o : Oper} {a : Act} {w w0 : World} {Q : Exit → Act → World → Prop} (hgd : o.guard = none) (s x : Operand)
    (ho : o.op = .call { callee := .builtin .append, args := #[s, x], argTypes := #[38, 38] })
    (B : Nat) (p : Option Addr) (n c X Y : Nat) (vb : Value) (La Lb : List (Nat × Nat)) (hs : a.eval s = .slice p n c) (hx : a.eval x = .slice (some ⟨w.heap.size, 0, none⟩) 1 1) (hm : La.length = n) (hAB : AB B w0 w (.slice p n c) vb La Lb) (hmn : n ≤ 65536)
    (h : ∀ p' c' w', Hid (AB B w0 w' (.slice p' (n + 1) c') vb (La ++ [(X, Y)]) Lb) → wpList Try.prog ops Q rest (a.put o.dst (.slice p' (n + 1) c')) w') : wpList Try.prog ops Q (o :: rest) a (w.alloc (.cells #[.float .f64 X, .float .f64 Y] 24)) := by
  refine wpList_app_pt hgd s x ho B n c p _ 1 1 La _ hs hx hm (hAB.a.up (Up.alloc _ _)) (lv_one w X Y) (by omega) (Nat.le_trans hAB.le' (Up.alloc _ _).size) ?_
  intro p' c' w' h1 h2 h3
  exact h p' c' w' (hAB.push (Up.alloc _ _) h1 h2 h3)
theorem wpList_pushB {ops : Array Oper} {rest : List Oper} {o : Oper} {a : Act} {w w0 : World} {Q : Exit → Act → World → Prop} (hgd : o.guard = none) (s x : Operand)
    (ho : o.op = .call { callee := .builtin .append, args := #[s, x], argTypes := #[38, 38] })
    (B : Nat) (p : Option Addr) (n c X Y : Nat) (va : Value) (La Lb : List (Nat × Nat)) (hs : a.eval s = .slice p n c) (hx : a.eval x = .slice (some ⟨w.heap.size, 0, none⟩) 1 1) (hm : Lb.length = n) (hAB : AB B w0 w va (.slice p n c) La Lb) (hmn : n ≤ 65536)
    (h : ∀ p' c' w', Hid (AB B w0 w' va (.slice p' (n + 1) c') La (Lb ++ [(X, Y)])) → wpList Try.prog ops Q rest (a.put o.dst (.slice p' (n + 1) c')) w') : wpList Try.prog ops Q (o :: rest) a (w.alloc (.cells #[.float .f64 X, .float .f64 Y] 24)) :=
  wpList_pushA hgd s x ho B p n c X Y va Lb La hs hx hm hAB.swap hmn fun p' c' w' h1 => h p' c' w' h1.out.swap
/-- A row that was copied out of a list. -/
theorem wpList_copyA {ops : Array Oper} {rest : List Oper} {o : Oper} {a : Act} {w : World} {Q : Exit → Act → World → Prop} (hgd : o.guard = none) (s x : Operand)
    (ho : o.op = .call { callee := .builtin .append, args := #[s, x], argTypes := #[38, 38] })
    (q : Option Addr) (n cq : Nat) (f : Nat → Nat × Nat) (hs : a.eval s = .slice none 0 0) (hx : a.eval x = .slice q n cq) (hv : LV w q n f) (hmn : n ≤ 65536)
    (h : ∀ p' c' w', Hid (AB w.heap.size w w' (.slice p' n c') (.slice none 0 0) ((List.range n).map f) []) → wpList Try.prog ops Q rest (a.put o.dst (.slice p' n c')) w') : wpList Try.prog ops Q (o :: rest) a w := by
  refine wpList_copy_pt (w0 := w) hgd s x ho q n cq f hs hx (Up.refl _) hv hmn ?_
  intro p' c' w' h1 h2
  exact h p' c' w' ⟨h1.out, PRow.nil _ _, fun g _ q => (by cases q), h2.out, Nat.le_refl _, h2.out.size⟩
theorem map_push (F : Nat → Nat × Nat) (k : Nat) {y : Nat × Nat} (h : F k = y) : (List.range k).map F ++ [y] = (List.range (k + 1)).map F := by
  rw [List.range_succ, List.map_append, ← h]; rfl
/-- A row of one's own is asked for a point. -/
theorem win_row {B : Nat} {w W : World} {p : Option Addr} {n c x y : Nat} {F : Nat → Nat × Nat} {b : Bool} (h : PRow B w (.slice p n c) ((List.range n).map F)) (hu : Up w W) (hb : winF F n (x, y) = b) : Calls Try.prog 22 #[.slice p n c, .agg #[.float .f64 x, .float .f64 y]] W (BU W b) := by
  obtain ⟨p', c', e, h1, _⟩ := h.pv
  have hl : ((List.range n).map F).length = n := by simp
  rw [hl] at e h1
  simp only [Value.slice.injEq] at e
  obtain ⟨rfl, _, rfl⟩ := e
  rw [← hb, ← win_congr (f := fun j => ((List.range n).map F)[j]!) (fun j hj => by rw [getElem!_pos _ j (by simpa using hj)]; simp)]
  exact t22 _ n _ _ _ _ _ (h1.up hu)
end Go.Proofs.Ytlgejebgkkmacaa
