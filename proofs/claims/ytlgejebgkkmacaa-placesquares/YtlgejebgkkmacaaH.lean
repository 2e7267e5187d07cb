/- Rows of numbers, as the program and as the reference keep them; what a call leaves that hands such a row back; Of, SameList, same. -/
import Derived.Test.YtlgejebgkkmacaaG
import Derived.Laws.OwnMore
import Derived.Maps.AppendAt
import Derived.Deep.Onto
import Derived.Deep.AppendLies
import Derived.Deep.RegionHeld3
namespace Go.Proofs.Ytlgejebgkkmacaa
open Go.ChangeShapes Go.WideShapes Go.ChangeAt Go.RowKit Go.Fl Ieee
attribute [local go_sem] run_store_float run_store_complex call39 call50 run_neg fold_eq fold_ne fold_lt fold_gt abs_eq

theorem Up.alloc (w : World) (o : Obj) : Up w (w.alloc o) := (Below.refl _ _).alloc (Nat.le_refl _) _
def ce (p : Nat × Nat) : Value := .complex .f64 p.1 p.2
def se (p : Nat × Nat) : List Value := [.float .f64 p.1, .float .f64 p.2]
/-- A number's two parts, all NaN being one. -/
def ab2 (p : Nat × Nat) : Option Nat × Option Nat := (ab p.1, ab p.2)
/-- A row of numbers of one's own: complex ones; structs of two. -/
def CRow (b : Nat) (w : World) (v : Value) (d : List (Nat × Nat)) : Prop := w.ownsRow b 49 1 v d.length (d.map ce)
def SRow (b : Nat) (w : World) (v : Value) (d : List (Nat × Nat)) : Prop := w.ownsRow b 53 2 v d.length (d.flatMap se)

theorem owns_below {w w' : World} {b m n : Nat} {t : TypeId} {s : Nat} {v : Value} {xs : List Value} (h : w.ownsRow b t s v n xs) (hu : Below m w w') (hm : ∀ k, v.ownBlock = some k → k < m) : w'.ownsRow b t s v n xs := by
  obtain ⟨h1, h2⟩ := h
  refine ⟨h1, ?_⟩
  rcases h2 with h2 | ⟨g, cap, cur, rfl, k2, k3, k4⟩
  · exact Or.inl h2
  · refine Or.inr ⟨g, cap, cur, rfl, k2, ?_, k4⟩
    rw [hu.block g (hm g rfl)]; exact k3
theorem owns_up {w w' : World} {b n : Nat} {t : TypeId} {s : Nat} {v : Value} {xs : List Value} (h : w.ownsRow b t s v n xs) (hu : Up w w') : w'.ownsRow b t s v n xs := owns_below h hu (fun k hk => (h.lt k hk).2)
theorem CRow.up {b : Nat} {w w' : World} {v : Value} {d : List (Nat × Nat)} (h : CRow b w v d) (hu : Up w w') : CRow b w' v d := owns_up h hu
theorem SRow.up {b : Nat} {w w' : World} {v : Value} {d : List (Nat × Nat)} (h : SRow b w v d) (hu : Up w w') : SRow b w' v d := owns_up h hu
theorem flat_len (d : List (Nat × Nat)) : (d.flatMap se).length = d.length * 2 := by
  induction d with
  | nil => rfl
  | cons a l ih => simp only [List.flatMap_cons, List.length_append, ih, List.length_cons]; simp [se]; omega
theorem flat_get (d : List (Nat × Nat)) : ∀ i, i < d.length → (d.flatMap se)[i * 2]? = some (.float .f64 d[i]!.1) ∧ (d.flatMap se)[i * 2 + 1]? = some (.float .f64 d[i]!.2) := by
  induction d with
  | nil => intro i h; simp at h
  | cons a l ih =>
    intro i h
    cases i with
    | zero => simp [List.flatMap_cons, se]
    | succ k =>
      have hk : k < l.length := by simpa using h
      have := ih k hk
      have e1 : (k + 1) * 2 = k * 2 + 1 + 1 := by omega
      simp only [List.flatMap_cons, se, e1]
      simpa using this
/-- The form of a row's value. -/
theorem own_form {b n : Nat} {w : World} {t : TypeId} {s : Nat} {v : Value} {xs : List Value} (h : w.ownsRow b t s v n xs) : ∃ p cap, v = .slice p n cap ∧ (0 < n → ∃ g, p = some ⟨g, 0, none⟩) := by
  rcases h.2 with ⟨rfl, rfl⟩ | ⟨g, cap, cur, rfl, _⟩
  · exact ⟨none, 0, rfl, fun h => by omega⟩
  · exact ⟨_, cap, rfl, fun _ => ⟨g, rfl⟩⟩
theorem CRow.cell {b g n cap : Nat} {w : World} {d : List (Nat × Nat)} (h : CRow b w (.slice (some ⟨g, 0, none⟩) n cap) d) {i : Nat} (hi : i < d.length) : w.cell? ⟨g, i, none⟩ = some (.complex .f64 d[i]!.1 d[i]!.2) := by
  obtain ⟨p, cap', he, _⟩ := own_form h
  simp only [Value.slice.injEq] at he
  obtain ⟨rfl, rfl, rfl⟩ := he
  rw [World.ownsRow.cellAt h i (by omega)]
  rw [List.getElem?_map, List.getElem?_eq_getElem hi, getElem!_pos d i hi]
  rfl
theorem SRow.cell {b g n cap : Nat} {w : World} {d : List (Nat × Nat)} (h : SRow b w (.slice (some ⟨g, 0, none⟩) n cap) d) {i : Nat} (hi : i < d.length) : w.cell? ⟨g, i * 2, none⟩ = some (.float .f64 d[i]!.1) ∧ w.cell? ⟨g, i * 2 + 1, none⟩ = some (.float .f64 d[i]!.2) := by
  obtain ⟨p, cap', he, _⟩ := own_form h
  simp only [Value.slice.injEq] at he
  obtain ⟨rfl, rfl, rfl⟩ := he
  rw [World.ownsRow.cellAt h (i * 2) (by omega), World.ownsRow.cellAt h (i * 2 + 1) (by omega)]
  exact flat_get d i hi

/-- What a call leaves that hands back a row and a code. -/
def PL (w : World) (L : List (Option Nat × Option Nat)) (c : Int) (e : Ending) (w' : World) : Prop := ∃ v d, e = .returned (.tuple #[v, .int .i64 c]) ∧ Hid (CRow w.heap.size w' v d) ∧ Hid (Up w w') ∧ Hid (d.map ab2 = L)
def QL (w : World) (L : List (Option Nat × Option Nat)) (c : Int) (e : Ending) (w' : World) : Prop := ∃ v d, e = .returned (.tuple #[v, .int .i64 c]) ∧ Hid (SRow w.heap.size w' v d) ∧ Hid (Up w w') ∧ Hid (d.map ab2 = L)

theorem info47 : (Try.prog.info? 53).map (fun i => (i.zero, i.size, i.bytes)) = some (some (.agg #[.float .f64 0, .float .f64 0]), 2, 16) := by kernel_rfl
theorem info41 : (Try.prog.info? 49).map (fun i => (i.zero, i.size, i.bytes)) = some (some (.complex .f64 0 0), 1, 16) := by kernel_rfl
theorem info26 : (Try.prog.info? 49).map (fun i => (i.zero, i.size, i.bytes)) = some (some (.complex .f64 0 0), 1, 16) := by kernel_rfl
/-- One more struct behind a row. -/
theorem srow_push {w wr w1 : World} {v v' : Value} {x y m : Nat} {O : List (Nat × Nat)} {wa : World}
    (hown : wr.ownsRow w.heap.size 53 2 v m (O.flatMap se)) (hu : Up w wr) (ha : Up wr wa)
    (hown' : w1.ownsRow w.heap.size 53 2 v' (m + 1) (O.flatMap se ++ [.float .f64 x, .float .f64 y])) (hg : wa.grownBy w1 v.ownBlock) :
    w1.ownsRow w.heap.size 53 2 v' (m + 1) ((O ++ [(x, y)]).flatMap se) ∧ Up w w1 := by
  refine ⟨by rw [List.flatMap_append]; exact hown', ?_⟩
  exact Below.grown (hu.trans ha) hg (Nat.le_trans hu.size ha.size) (fun j hj => (hown.lt j hj).1)
theorem cell_new2 (w : World) (x y : Nat) (t : TypeId) : ∀ (j : Nat) (u : Value), [Value.float .f64 x, .float .f64 y][j]? = some u → (w.alloc (.cells #[.float .f64 x, .float .f64 y] t)).cell? ((⟨w.heap.size, 0, none⟩ : Addr).add j) = some u := by
  intro j u hj
  match j, hj with
  | 0, hj => simp at hj; subst hj; exact World.cell?_alloc_at _ _ _ _ rfl
  | 1, hj => simp at hj; subst hj; exact World.cell?_alloc_at _ _ _ _ rfl
theorem two_cell (x y : Nat) : ∀ u ∈ [Value.float .f64 x, .float .f64 y], u.oneCell' = true := by
  intro u hu; simp at hu; rcases hu with rfl | rfl <;> rfl

/-- What Of leaves. -/
def OfR (w : World) (d : List (Nat × Nat)) (e : Ending) (w' : World) : Prop := ∃ v, e = .returned v ∧ Hid (SRow w.heap.size w' v d) ∧ Hid (Up w w')
end Go.Proofs.Ytlgejebgkkmacaa
