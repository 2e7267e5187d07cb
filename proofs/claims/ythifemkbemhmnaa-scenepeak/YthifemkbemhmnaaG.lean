/- Units; what the laws compare by. -/
import Derived.Test.YthifemkbemhmnaaE
import Derived.Laws.OwnMore
import Derived.Maps.AppendAt
import Derived.Deep.Onto
import Derived.Deep.AppendLies
import Derived.Deep.RegionHeld3
namespace Go.Proofs.Ythifemkbemhmnaa
open Go.ChangeShapes Go.WideShapes Go.ChangeAt Go.RowKit Go.Fl Ieee
attribute [local go_sem] run_store_float run_store_complex call69 call32 run_neg fold_eq fold_ne fold_lt fold_gt abs_eq

/-- Of what was there nothing has turned. -/
def Up (w w' : World) : Prop := Below w.heap.size w w'
theorem Up.refl (w : World) : Up w w := Below.refl _ _
theorem Up.trans {a b c : World} (h : Up a b) (k : Up b c) : Up a c := Below.trans h (Below.mono k h.size)
theorem Up.drewN (w : World) (n : Nat) : Up w (w.drewN n) := below_drewN (Below.refl _ _) n
/-- What a call leaves that hands back one float and has made memory. -/
def FU (w : World) (v : Option Nat) (e : Ending) (w' : World) : Prop := ∃ r, e = .returned (.float .f64 r) ∧ Hid (ab r = v) ∧ Up w w'
theorem FU.mk {w w' : World} {v : Option Nat} {r : Nat} (h : ab r = v) (hu : Up w w') : FU w v (.returned (.float .f64 r)) w' := ⟨r, rfl, h, hu⟩

theorem int_beq (x y : Nat) : ((x : Int) == (y : Int)) = decide (x = y) := by
  rw [Bool.eq_iff_iff]; simp; omega
/-- Which nth of a turn: the lesser way round. -/
def unitR (k n : Int) : Int :=
  let r := if k.tmod n < 0 then k.tmod n + n else k.tmod n
  if r > n - r then r - n else r
def unitX (k n : Int) : Option Nat := bin .quo (ab (floatOfInt .f64 (unitR k n))) (ab (floatOfInt .f64 n))
def unitC (k n : Int) : Option Nat := if n < 1 then ab 0 else turnC (unitX k n)
def unitS (k n : Int) : Option Nat := if n < 1 then ab 0 else turnS (unitX k n)
theorem unit_C {k n Q : Int} {r r' : Nat} (hr : Hid (ab r = turnC (ab r'))) (h0 : Hid (ab r' = bin .quo (ab (floatOfInt .f64 Q)) (ab (floatOfInt .f64 n)))) (hn : 1 ≤ n) (hQ : unitR k n = Q) : ab r = unitC k n := by
  unfold unitC unitX; rw [if_neg (by omega), hQ, ← h0.out]; exact hr
theorem unit_S {k n Q : Int} {r r' : Nat} (hr : Hid (ab r = turnS (ab r'))) (h0 : Hid (ab r' = bin .quo (ab (floatOfInt .f64 Q)) (ab (floatOfInt .f64 n)))) (hn : 1 ≤ n) (hQ : unitR k n = Q) : ab r = unitS k n := by
  unfold unitS unitX; rw [if_neg (by omega), hQ, ← h0.out]; exact hr
theorem t66 (k n : Int) (w : World) (hn : -9223372036854775808 ≤ n) (hn' : n ≤ 9223372036854775807) : Calls Try.prog 66 #[.int .i64 k, .int .i64 n] w (CR w (unitC k n) (unitS k n)) := by
  by_cases h1 : n < 1
  · go_enter Try.func66, Try.ntmps66
    go_wp2
    go_ret
    exact CR.mk (by simp [unitC, h1]) (by simp [unitS, h1]) (Below.refl _ _)
  · have b1 := Int.tmod_lt_of_pos k (show 0 < n by omega)
    have b2 : -n < k.tmod n := Int.lt_tmod_of_pos k (show 0 < n by omega)
    go_enter Try.func66, Try.ntmps66
    go_wp2_with (first
      | ((with_reducible refine upon_fl (by simp) ?_); intro r n hr)
      | (go_at_call 62; refine (t62 _ _).mono ?_; rintro e w1 ⟨r, s, rfl, hr, hs, hu⟩))
    all_goals (go_ret; go_tidy; refine CR.mk (unit_C (by assumption) (by assumption) (by omega) ?_) (unit_S (by assumption) (by assumption) (by omega) ?_) ((Up.drewN _ _).trans hu) <;> (simp only [unitR]; repeat' split) <;> omega)
end Go.Proofs.Ythifemkbemhmnaa
/- Rows of numbers, as the program and as the reference keep them; what a call leaves that hands such a row back; Of, SameList, same. -/
namespace Go.Proofs.Ythifemkbemhmnaa
open Go.ChangeShapes Go.WideShapes Go.ChangeAt Go.RowKit Go.Fl Ieee
attribute [local go_sem] run_store_float run_store_complex call69 call32 run_neg fold_eq fold_ne fold_lt fold_gt abs_eq

theorem Up.alloc (w : World) (o : Obj) : Up w (w.alloc o) := (Below.refl _ _).alloc (Nat.le_refl _) _
def ce (p : Nat × Nat) : Value := .complex .f64 p.1 p.2
def se (p : Nat × Nat) : List Value := [.float .f64 p.1, .float .f64 p.2]
/-- A number's two parts, all NaN being one. -/
def ab2 (p : Nat × Nat) : Option Nat × Option Nat := (ab p.1, ab p.2)
/-- A row of numbers of one's own: complex ones; structs of two. -/
def CRow (b : Nat) (w : World) (v : Value) (d : List (Nat × Nat)) : Prop := w.ownsRow b 28 1 v d.length (d.map ce)
def SRow (b : Nat) (w : World) (v : Value) (d : List (Nat × Nat)) : Prop := w.ownsRow b 47 2 v d.length (d.flatMap se)

theorem owns_below {w w' : World} {b m n : Nat} {t : TypeId} {s : Nat} {v : Value} {xs : List Value} (h : w.ownsRow b t s v n xs) (hu : Below m w w') (hm : ∀ k, v.ownBlock = some k → k < m) : w'.ownsRow b t s v n xs := by
  obtain ⟨h1, h2⟩ := h
  refine ⟨h1, ?_⟩
  rcases h2 with h2 | ⟨g, cap, cur, rfl, k2, k3, k4⟩
  · exact Or.inl h2
  · refine Or.inr ⟨g, cap, cur, rfl, k2, ?_, k4⟩
    rw [hu.block g (hm g rfl)]; exact k3
theorem owns_up {w w' : World} {b n : Nat} {t : TypeId} {s : Nat} {v : Value} {xs : List Value} (h : w.ownsRow b t s v n xs) (hu : Up w w') : w'.ownsRow b t s v n xs := owns_below h hu (fun k hk => (h.lt k hk).2)
theorem CRow.up {b : Nat} {w w' : World} {v : Value} {d : List (Nat × Nat)} (h : CRow b w v d) (hu : Up w w') : CRow b w' v d := owns_up h hu
theorem SRow.up {b : Nat} {w w' : World} {v : Value} {d : List (Nat × Nat)} (h : SRow b w v d) (hu : Up w w') : SRow b w' v d := owns_up h hu
theorem flat_len (d : List (Nat × Nat)) : (d.flatMap se).length = d.length * 2 := by
  induction d with
  | nil => rfl
  | cons a l ih => simp only [List.flatMap_cons, List.length_append, ih, List.length_cons]; simp [se]; omega
theorem flat_get (d : List (Nat × Nat)) : ∀ i, i < d.length → (d.flatMap se)[i * 2]? = some (.float .f64 d[i]!.1) ∧ (d.flatMap se)[i * 2 + 1]? = some (.float .f64 d[i]!.2) := by
  induction d with
  | nil => intro i h; simp at h
  | cons a l ih =>
    intro i h
    cases i with
    | zero => simp [List.flatMap_cons, se]
    | succ k =>
      have hk : k < l.length := by simpa using h
      have := ih k hk
      have e1 : (k + 1) * 2 = k * 2 + 1 + 1 := by omega
      simp only [List.flatMap_cons, se, e1]
      simpa using this
/-- The form of a row's value. -/
theorem own_form {b n : Nat} {w : World} {t : TypeId} {s : Nat} {v : Value} {xs : List Value} (h : w.ownsRow b t s v n xs) : ∃ p cap, v = .slice p n cap ∧ (0 < n → ∃ g, p = some ⟨g, 0, none⟩) := by
  rcases h.2 with ⟨rfl, rfl⟩ | ⟨g, cap, cur, rfl, _⟩
  · exact ⟨none, 0, rfl, fun h => by omega⟩
  · exact ⟨_, cap, rfl, fun _ => ⟨g, rfl⟩⟩
theorem CRow.cell {b g n cap : Nat} {w : World} {d : List (Nat × Nat)} (h : CRow b w (.slice (some ⟨g, 0, none⟩) n cap) d) {i : Nat} (hi : i < d.length) : w.cell? ⟨g, i, none⟩ = some (.complex .f64 d[i]!.1 d[i]!.2) := by
  obtain ⟨p, cap', he, _⟩ := own_form h
  simp only [Value.slice.injEq] at he
  obtain ⟨rfl, rfl, rfl⟩ := he
  rw [World.ownsRow.cellAt h i (by omega)]
  rw [List.getElem?_map, List.getElem?_eq_getElem hi, getElem!_pos d i hi]
  rfl
theorem SRow.cell {b g n cap : Nat} {w : World} {d : List (Nat × Nat)} (h : SRow b w (.slice (some ⟨g, 0, none⟩) n cap) d) {i : Nat} (hi : i < d.length) : w.cell? ⟨g, i * 2, none⟩ = some (.float .f64 d[i]!.1) ∧ w.cell? ⟨g, i * 2 + 1, none⟩ = some (.float .f64 d[i]!.2) := by
  obtain ⟨p, cap', he, _⟩ := own_form h
  simp only [Value.slice.injEq] at he
  obtain ⟨rfl, rfl, rfl⟩ := he
  rw [World.ownsRow.cellAt h (i * 2) (by omega), World.ownsRow.cellAt h (i * 2 + 1) (by omega)]
  exact flat_get d i hi

/-- What a call leaves that hands back a row and a code. -/
def PL (w : World) (L : List (Option Nat × Option Nat)) (c : Int) (e : Ending) (w' : World) : Prop := ∃ v d, e = .returned (.tuple #[v, .int .i64 c]) ∧ Hid (CRow w.heap.size w' v d) ∧ Hid (Up w w') ∧ Hid (d.map ab2 = L)
def QL (w : World) (L : List (Option Nat × Option Nat)) (c : Int) (e : Ending) (w' : World) : Prop := ∃ v d, e = .returned (.tuple #[v, .int .i64 c]) ∧ Hid (SRow w.heap.size w' v d) ∧ Hid (Up w w') ∧ Hid (d.map ab2 = L)

theorem info41 : (Try.prog.info? 28).map (fun i => (i.zero, i.size, i.bytes)) = some (some (.complex .f64 0 0), 1, 16) := by kernel_rfl
/-- One more struct behind a row. -/
theorem srow_push {w wr w1 : World} {v v' : Value} {x y m : Nat} {O : List (Nat × Nat)} {wa : World}
    (hown : wr.ownsRow w.heap.size 47 2 v m (O.flatMap se)) (hu : Up w wr) (ha : Up wr wa)
    (hown' : w1.ownsRow w.heap.size 47 2 v' (m + 1) (O.flatMap se ++ [.float .f64 x, .float .f64 y])) (hg : wa.grownBy w1 v.ownBlock) :
    w1.ownsRow w.heap.size 47 2 v' (m + 1) ((O ++ [(x, y)]).flatMap se) ∧ Up w w1 := by
  refine ⟨by rw [List.flatMap_append]; exact hown', ?_⟩
  exact Below.grown (hu.trans ha) hg (Nat.le_trans hu.size ha.size) (fun j hj => (hown.lt j hj).1)
theorem cell_new2 (w : World) (x y : Nat) (t : TypeId) : ∀ (j : Nat) (u : Value), [Value.float .f64 x, .float .f64 y][j]? = some u → (w.alloc (.cells #[.float .f64 x, .float .f64 y] t)).cell? ((⟨w.heap.size, 0, none⟩ : Addr).add j) = some u := by
  intro j u hj
  match j, hj with
  | 0, hj => simp at hj; subst hj; exact World.cell?_alloc_at _ _ _ _ rfl
  | 1, hj => simp at hj; subst hj; exact World.cell?_alloc_at _ _ _ _ rfl
theorem two_cell (x y : Nat) : ∀ u ∈ [Value.float .f64 x, .float .f64 y], u.oneCell' = true := by
  intro u hu; simp at hu; rcases hu with rfl | rfl <;> rfl

/-- What Of leaves. -/
def OfR (w : World) (d : List (Nat × Nat)) (e : Ending) (w' : World) : Prop := ∃ v, e = .returned v ∧ Hid (SRow w.heap.size w' v d) ∧ Hid (Up w w')
end Go.Proofs.Ythifemkbemhmnaa
/- Two rows held against each other. -/
namespace Go.Proofs.Ythifemkbemhmnaa
open Go.ChangeShapes Go.WideShapes Go.ChangeAt Go.RowKit Go.Fl Ieee
attribute [local go_sem] run_store_float run_store_complex call69 call32 run_neg fold_eq fold_ne fold_lt fold_gt abs_eq

theorem cell_up {w w' : World} {b o : Nat} {v : Value} (h : w.cell? ⟨b, o, none⟩ = some v) (hu : Up w w') : w'.cell? ⟨b, o, none⟩ = some v := by
  rw [Below.cell hu (World.block_lt_of_cell? w _ h)]; exact h
theorem same_at {d d' : List (Nat × Nat)} (h : d.map ab2 = d'.map ab2) {i : Nat} (hi : i < d.length) : ab d[i]!.1 = ab d'[i]!.1 ∧ ab d[i]!.2 = ab d'[i]!.2 := by
  have hl : d.length = d'.length := by simpa using congrArg List.length h
  have e := congrArg (fun l => l[i]?) h
  simp only [List.getElem?_map, List.getElem?_eq_getElem hi, List.getElem?_eq_getElem (show i < d'.length by omega), Option.map_some, Option.some.injEq, ab2, Prod.mk.injEq] at e
  rw [getElem!_pos d i hi, getElem!_pos d' i (by omega)]
  exact e
def TU (w : World) (e : Ending) (w' : World) : Prop := e = .returned (.bool true) ∧ Hid (Up w w')
end Go.Proofs.Ythifemkbemhmnaa
