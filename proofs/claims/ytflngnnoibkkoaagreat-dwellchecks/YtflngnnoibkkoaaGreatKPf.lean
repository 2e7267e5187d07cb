/- Spots, rows of them; how many gates a map has. -/
import Derived.Test.YtflngnnoibkkoaaGreatKPd
import Derived.Test.YtflngnnoibkkoaaGreatKHh
namespace Go.Proofs.YtflngnnoibkkoaaGreat.Pk
open Go.ChangeShapes Go.WideShapes Go.ChangeAt Go.RowKit Go.Fl Go.Sort
set_option maxRecDepth 200000
set_option maxHeartbeats 8000000
attribute [local go_sem] run_store_float run_neg fold_eq fold_ne fold_lt fold_gt abs_eq eqg57

/-- A spot: its bin, its gate, its power. -/
abbrev Spt := Int × Int × Nat
def spC (s : Spt) : List Value := [.int .i64 s.1, .int .i64 s.2.1, .float .f64 s.2.2]
theorem spC_len (L : List Spt) : (L.flatMap spC).length = L.length * 3 := by
  induction L with
  | nil => rfl
  | cons a l ih => rw [List.flatMap_cons, List.length_append, ih]; simp [spC]; omega
/-- A row of spots of one's own. -/
def SO (b : Nat) (w : World) (v : Value) (L : List Spt) : Prop := w.ownsRow b 151 3 v L.length (L.flatMap spC)
theorem SO.up {b : Nat} {w w' : World} {v : Value} {L : List Spt} (h : SO b w v L) (hu : Up w w') : SO b w' v L := owns_up h hu
theorem SO.nil (b : Nat) (w : World) : SO b w (.slice none 0 0) [] := World.ownsRow_nil _ _ _ _
theorem info29 : (Tryz.prog.info? 151).map (fun i => (i.zero, i.size, i.bytes)) = some (some (.agg #[.int .i64 0, .int .i64 0, .float .f64 0]), 3, 24) := by kernel_rfl
/-- A row of spots gets one more. -/
theorem so_push {w wr w1 : World} {v v' : Value} {m b : Nat} {L : List Spt} {s : Spt} (hb : w.heap.size ≤ b) (hl : L.length = m) (hown : wr.ownsRow b 151 3 v m (L.flatMap spC)) (hbel : Up w wr) {c : Array Value} {t : TypeId}
    (hown' : w1.ownsRow b 151 3 v' (m + 1) (L.flatMap spC ++ [.int .i64 s.1, .int .i64 s.2.1, .float .f64 s.2.2])) (hg : (wr.alloc (.cells c t)).grownBy w1 v.ownBlock) :
    SO b w1 v' (L ++ [s]) ∧ Up w w1 := by
  refine ⟨?_, ?_⟩
  · show w1.ownsRow _ _ _ _ _ _
    rw [List.flatMap_append, List.length_append, hl]
    exact hown'
  · have hs : w.heap.size ≤ wr.heap.size := RowKit.Below.size hbel
    exact (RowKit.Below.alloc hbel hs _).grown hg (by simp; omega) (fun j hj => Nat.le_trans hb (hown.lt j hj).1)
theorem three_new (w : World) (a b c : Value) (t : TypeId) : ∀ (j : Nat) (u : Value), [a, b, c][j]? = some u → (w.alloc (.cells #[a, b, c] t)).cell? ((⟨w.heap.size, 0, none⟩ : Addr).add j) = some u := by
  intro j u hj
  have e : (⟨w.heap.size, 0, none⟩ : Addr).add j = ⟨w.heap.size, j, none⟩ := by
    unfold Addr.add
    split
    · rename_i h; rw [h]
    · simp
  rw [e, World.cell?_alloc_at _ _ _ _ rfl]
  simpa using hj
theorem three_one {a b c : Value} (ha : a.oneCell' = true) (hb : b.oneCell' = true) (hc : c.oneCell' = true) : ∀ u ∈ [a, b, c], u.oneCell' = true := by
  intro u hu
  simp at hu
  rcases hu with rfl | rfl | rfl
  · exact ha
  · exact hb
  · exact hc
end Go.Proofs.YtflngnnoibkkoaaGreat.Pk
