/- Groups: the walk. -/
import Derived.Test.YtephkmahnbhmbaaRe
namespace Go.Proofs.Ytephkmahnbhmbaa
open Go.ChangeShapes Go.WideShapes Go.ChangeAt Go.RowKit Go.Fl Go.Sort Go.Shelf Go.Lib Go.Maps
attribute [local go_sem] run_store_float call52 run_neg fold_eq fold_ne fold_lt fold_gt abs_eq eqg57

/-- Rows of spots, each in memory of its own, and the row of them. -/
structure GT (b : Nat) (W : World) (v : Value) (k : Nat) (A C : Nat → Nat) (D : Nat → List Spt) : Prop where
  own : W.ownsRow b 25 1 v k ((List.range k).map fun a => Value.slice (some ⟨A a, 0, none⟩) (D a).length (C a))
  row : ∀ a, a < k → OwnR W (A a) (C a) (D a).toArray ∧ b ≤ A a
  apart : ∀ a, a < k → v.ownBlock ≠ some (A a)
  inj : ∀ a a', a < k → a' < k → A a = A a' → a = a'
theorem GT.kp {b : Nat} {W W' : World} {v : Value} {k : Nat} {A C : Nat → Nat} {D : Nat → List Spt} {F : Nat → Prop} (h : GT b W v k A C D) (hk : Kp F W W') (h1 : ∀ r, v.ownBlock = some r → F r) (h2 : ∀ a, a < k → F (A a)) : GT b W' v k A C D :=
  ⟨owns_kp h.own hk h1, fun a ha => ⟨(h.row a ha).1.kp hk (h2 a ha), (h.row a ha).2⟩, h.apart, h.inj⟩
theorem GT.up {b : Nat} {W W' : World} {v : Value} {k : Nat} {A C : Nat → Nat} {D : Nat → List Spt} (h : GT b W v k A C D) (hu : Up W W') : GT b W' v k A C D :=
  h.kp (F := fun _ => True) (Kp.of_up hu) (fun _ _ => trivial) (fun _ _ => trivial)
theorem GT.nil (b : Nat) (W : World) (A C : Nat → Nat) (D : Nat → List Spt) : GT b W (.slice none 0 0) 0 A C D :=
  ⟨World.ownsRow_nil _ _ _ _, fun a h => by omega, fun a h => by omega, fun a a' h => by omega⟩
theorem GT.lt {b : Nat} {W : World} {v : Value} {k : Nat} {A C : Nat → Nat} {D : Nat → List Spt} (h : GT b W v k A C D) : ∀ a, a < k → A a < W.heap.size := fun a ha => (h.row a ha).1.lt
set_option maxRecDepth 20000 in
theorem info25 : (Try.prog.info? 25).map (fun i => (i.zero, i.size, i.bytes)) = some (some (.slice none 0 0), 1, 24) := by kernel_rfl
/-- One row more. -/
theorem GT.app {b : Nat} {W W1 w2 : World} {v v' : Value} {k r c m : Nat} {A C : Nat → Nat} {D : Nat → List Spt} {G : List Spt} {o : Obj} (h : GT b W v k A C D) (hk : Kp (fun j => v.ownBlock = some j ∨ ∃ a, a < k ∧ j = A a) W W1) (hr : OwnR W1 r c G.toArray) (hrb : W.heap.size ≤ r) (hb : b ≤ W.heap.size)
    (hown : w2.ownsRow b 25 1 v' (k + 1) (((List.range k).map fun a => Value.slice (some ⟨A a, 0, none⟩) (D a).length (C a)) ++ [.slice (some ⟨r, 0, none⟩) G.length c])) (hg : (W1.alloc o).grownBy w2 v.ownBlock) (hm : W1.heap.size ≤ m) (hat : v'.ownBlock = v.ownBlock ∨ v'.ownBlock = some m) :
    GT b w2 v' (k + 1) (fun a => if a < k then A a else r) (fun a => if a < k then C a else c) (fun a => if a < k then D a else G) := by
  have hk2 : Kp (fun j => v.ownBlock ≠ some j) W1 w2 := (Kp.of_up (Up.alloc W1 o)).trans (grown_kp hg (fun r hr h => h hr))
  have hvr : v.ownBlock ≠ some r := fun e => by have := (h.own.lt r e).2; omega
  refine ⟨?_, fun a ha => ?_, fun a ha => ?_, fun a a' ha ha' e => ?_⟩
  · rw [List.range_succ, List.map_append, List.map_cons, List.map_nil]
    have e1 : ((List.range k).map fun a => Value.slice (some ⟨if a < k then A a else r, 0, none⟩) (if a < k then D a else G).length (if a < k then C a else c)) = (List.range k).map fun a => Value.slice (some ⟨A a, 0, none⟩) (D a).length (C a) := by
      refine List.map_congr_left (fun a ha => ?_)
      have : a < k := by simpa using ha
      simp [this]
    rw [e1, if_neg (by omega), if_neg (by omega), if_neg (by omega)]
    exact hown
  · by_cases q : a < k
    · simp only [if_pos q]
      obtain ⟨o1, o2⟩ := h.row a q
      exact ⟨(o1.kp hk (Or.inr ⟨a, q, rfl⟩)).kp hk2 (h.apart a q), o2⟩
    · simp only [if_neg q]
      exact ⟨hr.kp hk2 hvr, by omega⟩
  · by_cases q : a < k
    · simp only [if_pos q]
      rcases hat with e | e
      · rw [e]; exact h.apart a q
      · rw [e]
        intro e'
        have := h.lt a q
        have hs := hk.size
        simp at e'
        omega
    · simp only [if_neg q]
      rcases hat with e | e
      · rw [e]; exact hvr
      · rw [e]
        intro e'
        have := hr.lt
        simp at e'
        omega
  · by_cases q : a < k <;> by_cases q' : a' < k
    · simp only [if_pos q, if_pos q'] at e; exact h.inj a a' q q' e
    · simp only [if_pos q, if_neg q'] at e
      have := h.lt a q; omega
    · simp only [if_neg q, if_pos q'] at e
      have := h.lt a' q'; omega
    · omega
end Go.Proofs.Ytephkmahnbhmbaa
