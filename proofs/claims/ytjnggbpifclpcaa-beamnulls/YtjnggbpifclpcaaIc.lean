/- Null as the document says it. -/
import Derived.Test.YtjnggbpifclpcaaIb
namespace Go.Proofs.Ytjnggbpifclpcaa
open Go.ChangeShapes Go.WideShapes Go.ChangeAt Go.RowKit Go.Fl Ieee
attribute [local go_sem] run_store_float run_store_complex call34 call33 run_neg fold_eq fold_ne fold_lt fold_gt abs_eq

attribute [local go_sem] fieldC_0 fieldC_1
/-- A list of pairs that can be read. -/
def SD (w : World) (g n : Nat) (f : Nat → Nat × Nat) : Prop := ∀ j, j < n → w.cell? ⟨g, j * 2, none⟩ = some (.float .f64 (f j).1) ∧ w.cell? ⟨g, j * 2 + 1, none⟩ = some (.float .f64 (f j).2)
theorem SD.up {w w' : World} {g n : Nat} {f : Nat → Nat × Nat} (h : SD w g n f) (hu : Up w w') : SD w' g n f := fun j hj => ⟨cell_up (h j hj).1 hu, cell_up (h j hj).2 hu⟩
theorem store2 {W : World} {b r i : Nat} {u v : Value} (hk : W.heap[b]? = some (.cells #[u, v] 48 (0, 0))) : ((W.setCell ⟨b, 0, none⟩ (.float .f64 r)).setCell ⟨b, 1, none⟩ (.float .f64 i)).heap[b]? = some (.cells #[.float .f64 r, .float .f64 i] 48 (0, 0)) := by
  have e1 := setCell_eq_setRow W b 0 #[u, v] 48 (0, 0) (.float .f64 r) hk
  have g1 := setRow_heap W b #[u, v] #[.float .f64 r, v] 48 (0, 0) hk
  have e2 := setCell_eq_setRow _ b 1 #[.float .f64 r, v] 48 (0, 0) (.float .f64 i) g1
  have g2 := setRow_heap _ b #[.float .f64 r, v] #[.float .f64 r, .float .f64 i] 48 (0, 0) g1
  rw [e1]
  show ((W.setRow b #[.float .f64 r, v]).setCell ⟨b, 1, none⟩ (.float .f64 i)).heap[b]? = _
  rw [e2]
  exact g2
/-- What is no NaN is a word of 64 bits. -/
def Sm (x : Nat) : Prop := isN x = false → x < 2 ^ 64
/-- A row that grows, its words being small. -/
structure GrS (w0 w : World) (v : Value) (F : Nat → CN) (k : Nat) : Prop where
  row : ∃ O : List (Nat × Nat), O.length = k ∧ w.ownsRow w0.heap.size 48 2 v k (O.flatMap se) ∧ ∀ j, j < k → ab2 O[j]! = F j ∧ Sm O[j]!.2
  below : Up w0 w
theorem GrS.nil (w : World) (F : Nat → CN) : GrS w w (.slice none 0 0) F 0 := ⟨⟨[], rfl, World.ownsRow_nil _ _ _ _, fun j hj => by omega⟩, Up.refl _⟩
theorem GrS.up {w0 w w' : World} {v : Value} {k : Nat} {F : Nat → CN} (h : GrS w0 w v F k) (hu : Up w w') : GrS w0 w' v F k := by
  obtain ⟨⟨O, h1, h2, h3⟩, h4⟩ := h
  exact ⟨⟨O, h1, owns_up h2 hu, h3⟩, h4.trans hu⟩
theorem GrS.push {w0 w wa w1 : World} {v v' : Value} {k x y : Nat} {F : Nat → CN} {O : List (Nat × Nat)} (h1 : O.length = k) (h2 : w.ownsRow w0.heap.size 48 2 v k (O.flatMap se)) (h3 : ∀ j, j < k → ab2 O[j]! = F j ∧ Sm O[j]!.2) (h4 : Up w0 w) (hu : Up w wa)
    (hown : w1.ownsRow w0.heap.size 48 2 v' (k + 1) (O.flatMap se ++ [.float .f64 x, .float .f64 y])) (hg : wa.grownBy w1 v.ownBlock) (hx : (ab x, ab y) = F k) (hy : Sm y) : GrS w0 w1 v' F (k + 1) := by
  obtain ⟨a1, a2⟩ := srow_push h2 h4 hu hown hg
  refine ⟨⟨O ++ [(x, y)], by simp [h1], a1, fun j hj => ?_⟩, a2⟩
  rcases Nat.lt_or_ge j k with hlt | hge
  · rw [getElem!_pos _ j (by simp; omega), List.getElem_append_left (by omega), ← getElem!_pos O j (by omega)]
    exact h3 j hlt
  · obtain rfl : j = k := by omega
    rw [getElem!_pos _ j (by simp; omega), List.getElem_append_right (by omega)]
    simp only [h1, Nat.sub_self, List.getElem_cons_zero]
    exact ⟨hx, hy⟩
theorem GrS.sd {w0 w : World} {v : Value} {F : Nat → CN} {k : Nat} (h : GrS w0 w v F (k + 1)) : ∃ g c f, v = .slice (some ⟨g, 0, none⟩) (k + 1) c ∧ SD w g (k + 1) f ∧ ∀ j, j < k + 1 → ab2 (f j) = F j ∧ Sm (f j).2 := by
  obtain ⟨O, h1, h2, h3⟩ := h.row
  obtain ⟨p, c, e, hg⟩ := own_form h2
  obtain ⟨g, rfl⟩ := hg (by omega)
  subst e
  refine ⟨g, c, fun j => O[j]!, rfl, fun j hj => ?_, h3⟩
  have hs : SRow w0.heap.size w (.slice (some ⟨g, 0, none⟩) (k + 1) c) O := by unfold SRow; rw [h1]; exact h2
  exact hs.cell (by omega)
theorem GrS.ql {w0 w : World} {v : Value} {k : Nat} {F : Nat → CN} (h : GrS w0 w v F k) : QL w0 ((List.range k).map F) 0 (.returned (.tuple #[v, .int .i64 0])) w := by
  obtain ⟨⟨O, rfl, h2, h3⟩, h4⟩ := h
  refine ⟨v, O, rfl, h2, h4, ?_⟩
  show _ = _
  refine List.ext_getElem (by simp) fun i hi _ => ?_
  have hi' : i < O.length := by simpa using hi
  have := (h3 i hi').1
  rw [getElem!_pos O i hi'] at this
  simpa using this
theorem sm_sub {x : Nat} {o p : Option Nat} (h : ab x = bin .sub o p) : Sm x := fun hn => by
  rw [ab_some hn] at h
  cases o with
  | none => cases h
  | some a => cases p with
    | none => cases h
    | some b => exact sub_lt h.symm
end Go.Proofs.Ytjnggbpifclpcaa
