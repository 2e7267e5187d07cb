/- A point of the circle: the program's and the reference's. -/
import Derived.Test.YtflngnnoibkkoaaGreatA
import Derived.Laws.OwnMore
import Derived.Maps.AppendAt
import Derived.Deep.Onto
import Derived.Deep.AppendLies
import Derived.Deep.RegionHeld3
import Derived.OwnWalk
namespace Go.Proofs.YtflngnnoibkkoaaGreat
open Go.ChangeShapes Go.WideShapes Go.ChangeAt Go.RowKit Go.Fl Ieee
set_option maxRecDepth 200000
set_option maxHeartbeats 8000000
attribute [local go_sem] run_store_float run_store_complex call34 call33 run_neg fold_eq fold_ne fold_lt fold_gt abs_eq

/-- Flipped? Swapped? And what is left of the turn then. -/
def flipped (w : Option Nat) : Bool := gtF (w.map abs) (ab 4598175219545276416)
def once (w : Option Nat) : Option Nat := if flipped w then bin .sub (ab 4602678819172646912) (w.map abs) else w.map abs
def swapped (w : Option Nat) : Bool := gtF (once w) (ab 4593671619917905920)
def twice (w : Option Nat) : Option Nat := if swapped w then bin .sub (ab 4598175219545276416) (once w) else once w
def pointC (w : Option Nat) : Option Nat :=
  let c := if swapped w then eastS (twice w) else eastC (twice w)
  cleanF (if flipped w then c.map neg else c)
def pointS (w : Option Nat) : Option Nat :=
  let s := if swapped w then eastC (twice w) else eastS (twice w)
  cleanF (if ltF w (ab 0) then s.map neg else s)
def turnC (x : Option Nat) : Option Nat := if fin x then pointC (wrapF x) else none
def turnS (x : Option Nat) : Option Nat := if fin x then pointS (wrapF x) else none

/-- What a call leaves that hands back a number of two parts. -/
def CR (w : World) (c s : Option Nat) (e : Ending) (w' : World) : Prop := ∃ r i, e = .returned (.complex .f64 r i) ∧ Hid (ab r = c) ∧ Hid (ab i = s) ∧ Below w.heap.size w w'

theorem CR.mk {w w' : World} {c s : Option Nat} {r i : Nat} (h1 : ab r = c) (h2 : ab i = s) (hb : Below w.heap.size w w') : CR w c s (.returned (.complex .f64 r i)) w' := ⟨r, i, rfl, h1, h2, hb⟩
theorem below_via {w w1 : World} {n : Nat} (hb : Below (w.drewN n).heap.size (w.drewN n) w1) (m : Nat) : Below w.heap.size w (w1.drewN m) :=
  below_drewN ((below_drewN (Below.refl _ _) n).trans hb) m

set_option maxHeartbeats 1000000 in
theorem t53 (x : Nat) (w : World) : Calls Tryz.prog 53 #[.float .f64 x] w (CR w (turnC (ab x)) (turnS (ab x))) := by
  go_enter Tryz.func53, Tryz.ntmps53
  go_wp2_with (first
    | ((with_reducible refine upon_fl (by simp) ?_); intro r n hr)
    | (go_at_call 80; refine (t80 _ _).mono ?_; rintro e w' ⟨rfl, rfl⟩)
    | (go_at_call 81; refine (t81 _).mono ?_; rintro e w' ⟨rfl, rfl⟩)
    | (go_at_call 14; refine (t14 _ _).mono ?_; rintro e w' ⟨rfl, rfl⟩)
    | (go_at_call 82; refine (t82 _ _).mono ?_; rintro e w' ⟨r, n, rfl, rfl, hr⟩)
    | (go_at_call 83; refine (t83 _ _).mono ?_; rintro e w1 ⟨c, s, rfl, hc, hs, hb⟩)
    | (go_at_call 84; refine (t84 _ _ _).mono ?_; rintro e w' ⟨rfl, rfl⟩)
    | (go_at_call 85; refine (t85 _ _).mono ?_; rintro e w' ⟨r, n, rfl, rfl, hr⟩))
  all_goals (go_ret; go_tidy; refine CR.mk ?_ ?_ (by first | exact Below.refl _ _ | exact below_via ‹_› _))
  all_goals simp_all [turnC, turnS, pointC, pointS, flipped, swapped, once, twice, ab_abs, ab_neg, Hid]
  all_goals rfl
/-- What a row's maker leaves, as the fold wants it. -/
def RowR (L : List Nat) (n : Nat) (w : World) (e : Ending) (w' : World) : Prop := ∃ g cap, e = .returned (.slice (some ⟨g, 0, none⟩) n cap) ∧ Hid (∀ i, i < n → w'.cell? ⟨g, 0 + i, none⟩ = some (.float .f64 (L.getD i 0))) ∧ Below w.heap.size w w'
theorem rowR_of {L : List Nat} {n : Nat} {w w' : World} {e : Ending} {b : Nat} (hn : L.length = n + 1) (h : ∃ v, e = .returned v ∧ w'.ownsRow b 22 1 v (n + 1) (L.map (Value.float .f64)) ∧ Below w.heap.size w w') : RowR L (n + 1) w e w' := by
  obtain ⟨v, rfl, ⟨_, h⟩, hb⟩ := h
  rcases h with ⟨_, h0⟩ | ⟨g, cap, cur, rfl, _, hg, _, _, _, ht⟩
  · omega
  · refine ⟨g, cap, rfl, fun i hi => ?_, hb⟩
    rw [cell_of_row _ _ _ _ _ _ hg]
    have e : (cur.toList.take ((n + 1) * 1))[i]? = (L.map (Value.float .f64))[i]? := by rw [ht]
    rw [List.getElem?_take, if_pos (by omega)] at e
    simp only [Nat.zero_add]
    rw [← Array.getElem?_toList, e]
    simp [List.getD, List.getElem?_eq_getElem (show i < L.length by omega)]
/-- What a call leaves that hands back a number of two parts as a struct. -/
def SR (w : World) (c s : Option Nat) (e : Ending) (w' : World) : Prop := ∃ r i, e = .returned (.agg #[.float .f64 r, .float .f64 i]) ∧ Hid (ab r = c) ∧ Hid (ab i = s) ∧ Below w.heap.size w w'
theorem SR.mk {w w' : World} {c s : Option Nat} {r i : Nat} (h1 : ab r = c) (h2 : ab i = s) (hb : Below w.heap.size w w') : SR w c s (.returned (.agg #[.float .f64 r, .float .f64 i])) w' := ⟨r, i, rfl, h1, h2, hb⟩
/-- A block of two cells, kept behind a call. -/
theorem kept2 {W w1 : World} {g : Nat} {o : Obj} (h : W.heap[g]? = some o) (hb : Below W.heap.size W w1) : w1.heap[g]? = some o := by
  rw [hb.block g (Array.getElem?_eq_some_iff.1 h).1]; exact h
theorem keptA {w w1 : World} {o : Obj} {k : Nat} (hb : Below ((w.alloc o).drewN k).heap.size ((w.alloc o).drewN k) w1) : w1.heap[w.heap.size]? = some o :=
  kept2 (W := (w.alloc o).drewN k) (heap_alloc_last w o) hb
theorem keptB {w1 w2 : World} {o : Obj} {k g : Nat} (h : Hid (w1.heap[g]? = some o)) (hb : Below (w1.drewN k).heap.size (w1.drewN k) w2) : w2.heap[g]? = some o :=
  kept2 (W := w1.drewN k) h hb
theorem facts2 {w : World} {g : Nat} {u v : Value} {t : TypeId} (h : w.heap[g]? = some (.cells #[u, v] t (0, 0))) :
    w.cell? ⟨g, 0, none⟩ = some u ∧ w.cell? ⟨g, 1, none⟩ = some v ∧ w.frozen? ⟨g, 0, none⟩ = false ∧ w.frozen? ⟨g, 1, none⟩ = false := by
  simp [World.cell?, World.frozen?, h]
theorem whole_ok {x : Nat} (h : isN x = false) : ∃ y, wholeF (some x) = some y ∧ isN y = false := by
  unfold wholeF
  split
  · exact ⟨neg (floor (neg x)), rfl, by rw [isN_neg]; exact floor_ok (by rw [isN_neg]; exact h)⟩
  · exact ⟨floor x, rfl, floor_ok h⟩
theorem wrap_some {x : Nat} (h : fin (ab x) = true) : ∃ r, wrapF (ab x) = some r ∧ isN r = false := by
  have hN := fin_isN h
  obtain ⟨y, hy, hyN⟩ := whole_ok hN
  obtain ⟨r, hr⟩ := sub_some (fin_num h) hyN
  have hrN := bits_ok hr
  have e1 : bin .sub (ab x) (wholeF (ab x)) = some r := by rw [ab_some hN, hy]; exact hr
  have one : ∃ s m e, double.read 4607182418800017408 = .number s m e := ⟨_, _, _, rfl⟩
  have hone : ab 4607182418800017408 = some 4607182418800017408 := rfl
  unfold wrapF
  rw [if_pos h, e1]
  simp only
  split
  · obtain ⟨q, hq⟩ := sub_some' hrN one
    exact ⟨q, by rw [hone]; exact hq, bits_ok hq⟩
  · split
    · obtain ⟨q, hq⟩ := add_some' hrN one
      exact ⟨q, by rw [hone]; exact hq, bits_ok hq⟩
    · exact ⟨r, rfl, hrN⟩
theorem wrap_fin {x r : Nat} (h : Hid (ab r = wrapF (ab x))) : eqF (ab r) (ab r) = fin (ab x) := by
  cases hf : fin (ab x) with
  | true =>
    obtain ⟨q, hq, hN⟩ := wrap_some hf
    rw [h.out, hq] at *
    rw [← ab_some hN, eqF_self, hN]; rfl
  | false =>
    have : ab r = none := by rw [h.out]; unfold wrapF; rw [if_neg (by rw [hf]; exact Bool.false_ne_true)]
    rw [this]; rfl
theorem below_chain {w w1 w2 : World} {o : Obj} {k l : Nat} (h1 : Below ((w.alloc o).drewN k).heap.size ((w.alloc o).drewN k) w1) (h2 : Below (w1.drewN l).heap.size (w1.drewN l) w2) : Below w.heap.size w w2 := by
  have s1 := h1.size
  have b1 : Below w.heap.size w w1 := (below_drewN ((Below.refl _ _).alloc (Nat.le_refl _) o) k).trans (h1.mono (by simp))
  exact b1.trans ((below_drewN (Below.refl _ _) l).trans (h2.mono (by simp at s1 ⊢; omega)))

end Go.Proofs.YtflngnnoibkkoaaGreat
/- Units; what the laws compare by. -/
namespace Go.Proofs.YtflngnnoibkkoaaGreat
open Go.ChangeShapes Go.WideShapes Go.ChangeAt Go.RowKit Go.Fl Ieee
set_option maxRecDepth 200000
set_option maxHeartbeats 8000000
attribute [local go_sem] run_store_float run_store_complex call34 call33 run_neg fold_eq fold_ne fold_lt fold_gt abs_eq

/-- Of what was there nothing has turned. -/
def Up (w w' : World) : Prop := Below w.heap.size w w'
theorem Up.refl (w : World) : Up w w := Below.refl _ _
theorem Up.trans {a b c : World} (h : Up a b) (k : Up b c) : Up a c := Below.trans h (Below.mono k h.size)
theorem Up.drewN (w : World) (n : Nat) : Up w (w.drewN n) := below_drewN (Below.refl _ _) n
/-- What a call leaves that hands back one float and has made memory. -/
def FU (w : World) (v : Option Nat) (e : Ending) (w' : World) : Prop := ∃ r, e = .returned (.float .f64 r) ∧ Hid (ab r = v) ∧ Up w w'
theorem FU.mk {w w' : World} {v : Option Nat} {r : Nat} (h : ab r = v) (hu : Up w w') : FU w v (.returned (.float .f64 r)) w' := ⟨r, rfl, h, hu⟩

/-- Which nth of a turn: the lesser way round. -/
def unitR (k n : Int) : Int :=
  let r := if k.tmod n < 0 then k.tmod n + n else k.tmod n
  if r > n - r then r - n else r
def unitX (k n : Int) : Option Nat := bin .quo (ab (floatOfInt .f64 (unitR k n))) (ab (floatOfInt .f64 n))
def unitC (k n : Int) : Option Nat := if n < 1 then ab 0 else turnC (unitX k n)
def unitS (k n : Int) : Option Nat := if n < 1 then ab 0 else turnS (unitX k n)
theorem unit_C {k n Q : Int} {r r' : Nat} (hr : Hid (ab r = turnC (ab r'))) (h0 : Hid (ab r' = bin .quo (ab (floatOfInt .f64 Q)) (ab (floatOfInt .f64 n)))) (hn : 1 ≤ n) (hQ : unitR k n = Q) : ab r = unitC k n := by
  unfold unitC unitX; rw [if_neg (by omega), hQ, ← h0.out]; exact hr
theorem unit_S {k n Q : Int} {r r' : Nat} (hr : Hid (ab r = turnS (ab r'))) (h0 : Hid (ab r' = bin .quo (ab (floatOfInt .f64 Q)) (ab (floatOfInt .f64 n)))) (hn : 1 ≤ n) (hQ : unitR k n = Q) : ab r = unitS k n := by
  unfold unitS unitX; rw [if_neg (by omega), hQ, ← h0.out]; exact hr
theorem t50 (k n : Int) (w : World) (hn : -9223372036854775808 ≤ n) (hn' : n ≤ 9223372036854775807) : Calls Tryz.prog 50 #[.int .i64 k, .int .i64 n] w (CR w (unitC k n) (unitS k n)) := by
  by_cases h1 : n < 1
  · go_enter Tryz.func50, Tryz.ntmps50
    go_wp2
    go_ret
    exact CR.mk (by simp [unitC, h1]) (by simp [unitS, h1]) (Below.refl _ _)
  · have b1 := Int.tmod_lt_of_pos k (show 0 < n by omega)
    have b2 : -n < k.tmod n := Int.lt_tmod_of_pos k (show 0 < n by omega)
    go_enter Tryz.func50, Tryz.ntmps50
    go_wp2_with (first
      | ((with_reducible refine upon_fl (by simp) ?_); intro r n hr)
      | (go_at_call 53; refine (t53 _ _).mono ?_; rintro e w1 ⟨r, s, rfl, hr, hs, hu⟩))
    all_goals (go_ret; go_tidy; refine CR.mk (unit_C (by assumption) (by assumption) (by omega) ?_) (unit_S (by assumption) (by assumption) (by omega) ?_) ((Up.drewN _ _).trans hu) <;> (simp only [unitR]; repeat' split) <;> omega)
end Go.Proofs.YtflngnnoibkkoaaGreat
/- Rows of numbers, as the program and as the reference keep them; what a call leaves that hands such a row back; Of, SameList, same. -/
namespace Go.Proofs.YtflngnnoibkkoaaGreat
open Go.ChangeShapes Go.WideShapes Go.ChangeAt Go.RowKit Go.Fl Ieee
set_option maxRecDepth 200000
set_option maxHeartbeats 8000000
attribute [local go_sem] run_store_float run_store_complex call34 call33 run_neg fold_eq fold_ne fold_lt fold_gt abs_eq

theorem Up.alloc (w : World) (o : Obj) : Up w (w.alloc o) := (Below.refl _ _).alloc (Nat.le_refl _) _
def ce (p : Nat × Nat) : Value := .complex .f64 p.1 p.2
def se (p : Nat × Nat) : List Value := [.float .f64 p.1, .float .f64 p.2]
/-- A number's two parts, all NaN being one. -/
def ab2 (p : Nat × Nat) : Option Nat × Option Nat := (ab p.1, ab p.2)
/-- A row of numbers of one's own: complex ones; structs of two. -/
def CRow (b : Nat) (w : World) (v : Value) (d : List (Nat × Nat)) : Prop := w.ownsRow b 65 1 v d.length (d.map ce)
def SRow (b : Nat) (w : World) (v : Value) (d : List (Nat × Nat)) : Prop := w.ownsRow b 82 2 v d.length (d.flatMap se)

theorem owns_below {w w' : World} {b m n : Nat} {t : TypeId} {s : Nat} {v : Value} {xs : List Value} (h : w.ownsRow b t s v n xs) (hu : Below m w w') (hm : ∀ k, v.ownBlock = some k → k < m) : w'.ownsRow b t s v n xs := by
  obtain ⟨h1, h2⟩ := h
  refine ⟨h1, ?_⟩
  rcases h2 with h2 | ⟨g, cap, cur, rfl, k2, k3, k4⟩
  · exact Or.inl h2
  · refine Or.inr ⟨g, cap, cur, rfl, k2, ?_, k4⟩
    rw [hu.block g (hm g rfl)]; exact k3
theorem owns_up {w w' : World} {b n : Nat} {t : TypeId} {s : Nat} {v : Value} {xs : List Value} (h : w.ownsRow b t s v n xs) (hu : Up w w') : w'.ownsRow b t s v n xs := owns_below h hu (fun k hk => (h.lt k hk).2)
theorem CRow.up {b : Nat} {w w' : World} {v : Value} {d : List (Nat × Nat)} (h : CRow b w v d) (hu : Up w w') : CRow b w' v d := owns_up h hu
/-- The form of a row's value. -/
theorem own_form {b n : Nat} {w : World} {t : TypeId} {s : Nat} {v : Value} {xs : List Value} (h : w.ownsRow b t s v n xs) : ∃ p cap, v = .slice p n cap ∧ (0 < n → ∃ g, p = some ⟨g, 0, none⟩) := by
  rcases h.2 with ⟨rfl, rfl⟩ | ⟨g, cap, cur, rfl, _⟩
  · exact ⟨none, 0, rfl, fun h => by omega⟩
  · exact ⟨_, cap, rfl, fun _ => ⟨g, rfl⟩⟩
theorem CRow.cell {b g n cap : Nat} {w : World} {d : List (Nat × Nat)} (h : CRow b w (.slice (some ⟨g, 0, none⟩) n cap) d) {i : Nat} (hi : i < d.length) : w.cell? ⟨g, i, none⟩ = some (.complex .f64 d[i]!.1 d[i]!.2) := by
  obtain ⟨p, cap', he, _⟩ := own_form h
  simp only [Value.slice.injEq] at he
  obtain ⟨rfl, rfl, rfl⟩ := he
  rw [World.ownsRow.cellAt h i (by omega)]
  rw [List.getElem?_map, List.getElem?_eq_getElem hi, getElem!_pos d i hi]
  rfl
/-- What a call leaves that hands back a row and a code. -/
def PL (w : World) (L : List (Option Nat × Option Nat)) (c : Int) (e : Ending) (w' : World) : Prop := ∃ v d, e = .returned (.tuple #[v, .int .i64 c]) ∧ Hid (CRow w.heap.size w' v d) ∧ Hid (Up w w') ∧ Hid (d.map ab2 = L)
def QL (w : World) (L : List (Option Nat × Option Nat)) (c : Int) (e : Ending) (w' : World) : Prop := ∃ v d, e = .returned (.tuple #[v, .int .i64 c]) ∧ Hid (SRow w.heap.size w' v d) ∧ Hid (Up w w') ∧ Hid (d.map ab2 = L)

theorem info41 : (Tryz.prog.info? 65).map (fun i => (i.zero, i.size, i.bytes)) = some (some (.complex .f64 0 0), 1, 16) := by kernel_rfl
/-- One more struct behind a row. -/
theorem srow_push {w wr w1 : World} {v v' : Value} {x y m : Nat} {O : List (Nat × Nat)} {wa : World}
    (hown : wr.ownsRow w.heap.size 82 2 v m (O.flatMap se)) (hu : Up w wr) (ha : Up wr wa)
    (hown' : w1.ownsRow w.heap.size 82 2 v' (m + 1) (O.flatMap se ++ [.float .f64 x, .float .f64 y])) (hg : wa.grownBy w1 v.ownBlock) :
    w1.ownsRow w.heap.size 82 2 v' (m + 1) ((O ++ [(x, y)]).flatMap se) ∧ Up w w1 := by
  refine ⟨by rw [List.flatMap_append]; exact hown', ?_⟩
  exact Below.grown (hu.trans ha) hg (Nat.le_trans hu.size ha.size) (fun j hj => (hown.lt j hj).1)
theorem cell_new2 (w : World) (x y : Nat) (t : TypeId) : ∀ (j : Nat) (u : Value), [Value.float .f64 x, .float .f64 y][j]? = some u → (w.alloc (.cells #[.float .f64 x, .float .f64 y] t)).cell? ((⟨w.heap.size, 0, none⟩ : Addr).add j) = some u := by
  intro j u hj
  match j, hj with
  | 0, hj => simp at hj; subst hj; exact World.cell?_alloc_at _ _ _ _ rfl
  | 1, hj => simp at hj; subst hj; exact World.cell?_alloc_at _ _ _ _ rfl
theorem two_cell (x y : Nat) : ∀ u ∈ [Value.float .f64 x, .float .f64 y], u.oneCell' = true := by
  intro u hu; simp at hu; rcases hu with rfl | rfl <;> rfl

end Go.Proofs.YtflngnnoibkkoaaGreat
/- Two rows held against each other. -/
namespace Go.Proofs.YtflngnnoibkkoaaGreat
open Go.ChangeShapes Go.WideShapes Go.ChangeAt Go.RowKit Go.Fl Ieee
set_option maxRecDepth 200000
set_option maxHeartbeats 8000000
attribute [local go_sem] run_store_float run_store_complex call34 call33 run_neg fold_eq fold_ne fold_lt fold_gt abs_eq

theorem cell_up {w w' : World} {b o : Nat} {v : Value} (h : w.cell? ⟨b, o, none⟩ = some v) (hu : Up w w') : w'.cell? ⟨b, o, none⟩ = some v := by
  rw [Below.cell hu (World.block_lt_of_cell? w _ h)]; exact h
end Go.Proofs.YtflngnnoibkkoaaGreat
/- A row that is filled in its order; Chirp, Frank and Steps of the program. -/
namespace Go.Proofs.YtflngnnoibkkoaaGreat
open Go.ChangeShapes Go.WideShapes Go.ChangeAt Go.RowKit Go.Fl Ieee
set_option maxRecDepth 200000
set_option maxHeartbeats 8000000
attribute [local go_sem] run_store_float run_store_complex call34 call33 run_neg fold_eq fold_ne fold_lt fold_gt abs_eq

/-- A row that is being filled. -/
structure Fill (w0 w : World) (g n : Nat) (F : Nat → Option Nat × Option Nat) (k : Nat) : Prop where
  row : ∃ d : List (Nat × Nat), d.length = n ∧ CRow w0.heap.size w (.slice (some ⟨g, 0, none⟩) n n) d ∧ ∀ j, j < k → ab2 d[j]! = F j
  below : Up w0 w
theorem Fill.new {w w' : World} {n : Nat} (F : Nat → Option Nat × Option Nat) (h : w'.ownsRow w.heap.size 65 1 (.slice (some ⟨w.heap.size, 0, none⟩) n n) n (madeCells (Value.complex .f64 0 0).cells (n * 1)).toList) (hg : w.grownBy w' none) : Fill w w' w.heap.size n F 0 := by
  refine ⟨⟨List.replicate n (0, 0), by simp, ?_, fun j hj => by omega⟩, Below.grown (Below.refl _ _) hg (Nat.le_refl _) (fun j hj => by cases hj)⟩
  unfold CRow
  have e : (madeCells (Value.complex .f64 0 0).cells (n * 1)).toList = List.replicate n (.complex .f64 0 0) := by
    rw [Nat.mul_one]; exact toList_madeCells_one _ _
  rw [e] at h
  simpa [ce] using h
theorem Fill.up {w0 w w' : World} {g n k : Nat} {F : Nat → Option Nat × Option Nat} (h : Fill w0 w g n F k) (hu : Up w w') : Fill w0 w' g n F k := by
  obtain ⟨⟨d, h1, h2, h3⟩, h4⟩ := h
  exact ⟨⟨d, h1, h2.up hu, h3⟩, h4.trans hu⟩
theorem Fill.cell {w0 w : World} {g n k : Nat} {F : Nat → Option Nat × Option Nat} (h : Fill w0 w g n F k) {i : Nat} (hi : i < n) : (∃ x y, w.cell? ⟨g, i, none⟩ = some (.complex .f64 x y)) ∧ w.frozen? ⟨g, i, none⟩ = false := by
  obtain ⟨⟨d, rfl, h2, h3⟩, h4⟩ := h
  exact ⟨⟨_, _, h2.cell hi⟩, World.ownsRow.frozenAt h2 i⟩
theorem Fill.stored {w0 w : World} {g n k r s : Nat} {F : Nat → Option Nat × Option Nat} (h : Fill w0 w g n F k) (hk : k < n) (hr : ab r = (F k).1) (hs : ab s = (F k).2) : Fill w0 (w.setCell ⟨g, k, none⟩ (.complex .f64 r s)) g n F (k + 1) := by
  obtain ⟨⟨d, rfl, h2, h3⟩, h4⟩ := h
  obtain ⟨s1, s2⟩ := World.ownsRow.stored h2 k (.complex .f64 r s)
  refine ⟨⟨d.set k (r, s), by simp, ?_, ?_⟩, Below.grown h4 s2 h4.size (fun j hj => (World.ownsRow.lt h2 j (by simpa [Value.ownBlock] using hj)).1)⟩
  · unfold CRow
    rw [List.length_set, List.map_set]
    exact s1
  · intro j hj
    rw [getElem!_pos _ j (by simp; omega), List.getElem_set]
    split
    · rename_i e; subst e; exact Prod.ext hr hs
    · rw [← getElem!_pos d j (by omega)]; exact h3 j (by omega)
theorem Fill.done {w0 w : World} {g n : Nat} {F : Nat → Option Nat × Option Nat} (h : Fill w0 w g n F n) : ∃ d, CRow w0.heap.size w (.slice (some ⟨g, 0, none⟩) n n) d ∧ d.map ab2 = (List.range n).map F := by
  obtain ⟨⟨d, rfl, h2, h3⟩, h4⟩ := h
  refine ⟨d, h2, List.ext_getElem (by simp) fun i hi _ => ?_⟩
  have hi' : i < d.length := by simpa using hi
  have := h3 i hi'
  rw [getElem!_pos d i hi'] at this
  simpa using this
theorem Fill.pl {w0 w : World} {g n : Nat} {F : Nat → Option Nat × Option Nat} (h : Fill w0 w g n F n) {L : List (Option Nat × Option Nat)} (hL : L = (List.range n).map F) : PL w0 L 0 (.returned (.tuple #[.slice (some ⟨g, 0, none⟩) n n, .int .i64 0])) w := by
  obtain ⟨d, h1, h2⟩ := h.done
  exact ⟨_, d, rfl, h1, h.below, h2.trans hL.symm⟩
theorem PL.none (w : World) (c : Int) : PL w [] c (.returned (.tuple #[.slice none 0 0, .int .i64 c])) w := ⟨_, [], rfl, World.ownsRow_nil _ _ _ _, Up.refl _, rfl⟩

def chirpX (n : Nat) (t : Option Nat) (k : Nat) : Option Nat := bin .mul t (bin .quo (ab (floatOfInt .f64 ((k : Int) * k))) (ab (floatOfInt .f64 (2 * (n : Int)))))
def chirpF (n : Nat) (t : Option Nat) (k : Nat) : Option Nat × Option Nat := (turnC (chirpX n t k), turnS (chirpX n t k))
def chirpL (n : Int) (t : Option Nat) : List (Option Nat × Option Nat) := if n < 1 then [] else if n > 16384 then [] else if fin t then (List.range n.toNat).map (chirpF n.toNat t) else []
def chirpE (n : Int) (t : Option Nat) : Int := if n < 1 then 2 else if n > 16384 then 3 else if fin t then 0 else 6

theorem t51k {x : Nat} {b : Bool} (h : eqF (ab x) (ab x) = !b) (w : World) : Calls Tryz.prog 51 #[.float .f64 x] w fun e w' => e = .returned (.bool b) ∧ w' = w := by
  have := t51 x w
  rw [h, Bool.not_not] at this; exact this
theorem t52k {x : Nat} {b : Bool} (h : gtF ((ab x).map abs) (ab 9218868437227405311) = b) (w : World) : Calls Tryz.prog 52 #[.float .f64 x, .int .i64 0] w fun e w' => e = .returned (.bool b) ∧ w' = w := by
  rw [← h]; exact t52 x w
theorem mul_le {k : Nat} (h : k < 16384) : (k : Int) * k ≤ 268435456 := by
  have : k * k ≤ 16384 * 16384 := Nat.mul_le_mul (by omega) (by omega)
  have e : ((k * k : Nat) : Int) = (k : Int) * k := Int.natCast_mul _ _
  omega
set_option maxHeartbeats 1000000 in
theorem t27ok (N x : Nat) (w : World) (h1 : 1 ≤ N) (h2 : N ≤ 16384) (hf : fin (ab x) = true) : Calls Tryz.prog 27 #[.int .i64 N, .float .f64 x] w (PL w ((List.range N).map (chirpF N (ab x))) 0) := by
  obtain ⟨i0, hi, hz0, hz1, hz2⟩ := info_parts info41
  have HE : Hid (eqF (ab x) (ab x) = !false) := by
    show _ = _
    unfold fin at hf
    rw [Bool.and_eq_true] at hf
    exact hf.1
  have HG : Hid (gtF ((ab x).map abs) (ab 9218868437227405311) = false) := by
    show _ = _
    unfold fin at hf
    rw [Bool.and_eq_true, Bool.not_eq_true'] at hf
    exact hf.2
  clear hf
  go_enter Tryz.func27, Tryz.ntmps27
  go_wp2_with (first
    | (go_at_call 51; refine (t51k HE.out _).mono ?_; rintro e w' ⟨rfl, rfl⟩)
    | (go_at_call 52; refine (t52k HG.out _).mono ?_; rintro e w' ⟨rfl, rfl⟩)
    | (refine wpList_make_full _ rfl _ _ 34 rfl w'.heap.size 65 i0 (.complex .f64 0 0) 1 Tryz.underlying34 hi hz0 hz1 .i64 .i64 _ _ N rfl rfl rfl rfl (by rw [hz2]; omega) (by unfold maxLen; omega) (Nat.le_refl _) ?_; intro w1 hown hgr; have HF : Hid (Fill _ w1 _ N (chirpF N (ab x)) 0) := Fill.new _ hown hgr; clear hown hgr))
  go_loopw [7, 8, 26] (fun _ _ i wr => ∃ k : Nat, k ≤ N ∧ i = .int .i64 k ∧ Hid (Fill w' wr w'.heap.size N (chirpF N (ab x)) k)) (fun _ _ i _ => N - (intOf i).toNat)
  case atStart => exact ⟨0, by omega, rfl, HF⟩
  case round =>
    clear HF
    obtain ⟨k, hk, rfl, HF⟩ := hrel
    by_cases hlt : k < N
    · have m1 := mul_le (show k < 16384 by omega)
      have m2 : (0 : Int) ≤ (k : Int) * k := Int.mul_nonneg (by omega) (by omega)
      have hkz : (k : Int) < (N : Int) := by omega
      go_wp2_with (first
        | ((with_reducible refine upon_fl (by simp) ?_); intro r n hr)
        | (go_at_call 53; refine (t53 _ _).mono ?_; rintro e w2 ⟨c, s, rfl, hc, hs, hu⟩; have HF2 : Hid (Fill w' w2 w'.heap.size N (chirpF N (ab x)) k) := HF.out.up (Up.trans (Up.drewN _ _) hu); obtain ⟨⟨x0, y0, hcell⟩, hfr⟩ := HF2.out.cell hlt; clear HF hu))
      go_roundw
      case rel =>
        refine ⟨k + 1, by omega, by go_num, HF2.out.stored hlt ?_ ?_⟩ <;> (clear hcell hfr HF2; simp_all [chirpF, chirpX, Hid])
      case measure => simp [intOf]; omega
    · obtain rfl : N = k := by omega
      go_wp2
      go_ret2
      exact HF.out.pl rfl
theorem t27 (n : Int) (x : Nat) (w : World) : Calls Tryz.prog 27 #[.int .i64 n, .float .f64 x] w (PL w (chirpL n (ab x)) (chirpE n (ab x))) := by
  by_cases h1 : n < 1
  · rw [chirpL, chirpE, if_pos h1, if_pos h1]
    go_enter Tryz.func27, Tryz.ntmps27
    go_wp2
    go_ret2
    exact PL.none _ _
  · by_cases h2 : n > 16384
    · rw [chirpL, chirpE, if_neg h1, if_neg h1, if_pos h2, if_pos h2]
      go_enter Tryz.func27, Tryz.ntmps27
      go_wp2
      go_ret2
      exact PL.none _ _
    · obtain ⟨N, rfl⟩ := Int.eq_ofNat_of_zero_le (show 0 ≤ n by omega)
      rw [chirpL, chirpE, if_neg h1, if_neg h1, if_neg h2, if_neg h2]
      cases hf : fin (ab x)
      · have hf' : ¬ (eqF (ab x) (ab x) = true ∧ gtF ((ab x).map abs) (ab 9218868437227405311) = false) := by
          intro h; simp [fin, h.1, h.2] at hf
        have HF' : Hid _ := hf'
        clear hf hf'
        cases he : eqF (ab x) (ab x)
        · have HE : Hid (eqF (ab x) (ab x) = !true) := he
          clear he
          go_enter Tryz.func27, Tryz.ntmps27
          go_wp2_with (go_at_call 51; refine (t51k HE.out _).mono ?_; rintro e w' ⟨rfl, rfl⟩)
          go_ret2
          exact PL.none _ _
        · have HE : Hid (eqF (ab x) (ab x) = !false) := he
          have HG : Hid (gtF ((ab x).map abs) (ab 9218868437227405311) = true) := by
            show _ = _
            cases hg : gtF ((ab x).map abs) (ab 9218868437227405311)
            · exact absurd ⟨he, hg⟩ HF'.out
            · rfl
          clear he
          go_enter Tryz.func27, Tryz.ntmps27
          go_wp2_with (first
            | (go_at_call 51; refine (t51k HE.out _).mono ?_; rintro e w' ⟨rfl, rfl⟩)
            | (go_at_call 52; refine (t52k HG.out _).mono ?_; rintro e w' ⟨rfl, rfl⟩))
          go_ret2
          exact PL.none _ _
      · exact t27ok N x w (by omega) (by omega) hf
end Go.Proofs.YtflngnnoibkkoaaGreat
/- Frank and Steps of the program. -/
namespace Go.Proofs.YtflngnnoibkkoaaGreat
open Go.ChangeShapes Go.WideShapes Go.ChangeAt Go.RowKit Go.Fl Ieee
set_option maxRecDepth 200000
set_option maxHeartbeats 8000000
attribute [local go_sem] run_store_float run_store_complex call34 call33 run_neg fold_eq fold_ne fold_lt fold_gt abs_eq

theorem t49 {s n : Int} {b : Bool} (h1 : 1 ≤ n) (h2 : n ≤ 9223372036854775807) (hb : decide (s > Int.tdiv 16384 n) = b) (w : World) : Calls Tryz.prog 49 #[.int .i64 s, .int .i64 n] w fun e w' => e = .returned (.bool b) ∧ w' = w := by
  have q1 : 0 ≤ Int.tdiv 16384 n := Int.tdiv_nonneg (by omega) (by omega)
  have q2 : Int.tdiv 16384 n ≤ 16384 := Int.tdiv_le_self _ (by omega)
  go_enter Tryz.func49, Tryz.ntmps49
  go_wp2
  go_ret
  refine ⟨?_, rfl⟩
  rw [← hb]
  rfl
theorem many_no {s n : Nat} (h1 : 1 ≤ n) (h : s * n ≤ 16384) : decide ((s : Int) > Int.tdiv 16384 n) = false := by
  rw [decide_eq_false_iff_not, Int.tdiv_eq_ediv_of_nonneg (by omega)]
  have : (s : Int) ≤ 16384 / (n : Int) := by
    rw [Int.le_ediv_iff_mul_le (by omega)]
    have : ((s * n : Nat) : Int) = (s : Int) * n := Int.natCast_mul _ _
    omega
  omega
theorem many_yes {s n : Nat} (h1 : 1 ≤ n) (h : 16384 < s * n) : decide ((s : Int) > Int.tdiv 16384 n) = true := by
  rw [decide_eq_true_iff, Int.tdiv_eq_ediv_of_nonneg (by omega)]
  have : 16384 / (n : Int) < (s : Int) := by
    rw [Int.ediv_lt_iff_lt_mul (by omega)]
    have : ((s * n : Nat) : Int) = (s : Int) * n := Int.natCast_mul _ _
    omega
  omega

def unitP (k n : Int) : Option Nat × Option Nat := (unitC k n, unitS k n)
def frankF (m p : Nat) : Option Nat × Option Nat := unitP (((p / m) * (p % m) : Nat) : Int) m
theorem frank_at {i j m : Nat} (hj : j < m) : frankF m (i * m + j) = unitP ((i * j : Nat) : Int) m := by
  unfold frankF
  have e1 : (i * m + j) / m = i := by
    rw [Nat.mul_comm, Nat.mul_add_div (by omega), Nat.div_eq_of_lt hj, Nat.add_zero]
  have e2 : (i * m + j) % m = j := by
    rw [Nat.mul_comm, Nat.mul_add_mod, Nat.mod_eq_of_lt hj]
  rw [e1, e2]
def frankL (m : Int) : List (Option Nat × Option Nat) := if m < 1 then [] else if m > 128 then [] else (List.range (m.toNat * m.toNat)).map (frankF m.toNat)
def frankE (m : Int) : Int := if m < 1 then 2 else if m > 128 then 3 else 0
set_option maxHeartbeats 1000000 in
theorem t26ok (m : Nat) (w : World) (h1 : 1 ≤ m) (h2 : m ≤ 128) : Calls Tryz.prog 26 #[.int .i64 m] w (PL w ((List.range (m * m)).map (frankF m)) 0) := by
  obtain ⟨i0, hi, hz0, hz1, hz2⟩ := info_parts info41
  have hmm : m * m ≤ 16384 := Nat.le_trans (Nat.mul_le_mul h2 h2) (by omega)
  have HM : Hid (decide ((m : Int) > Int.tdiv 16384 m) = false) := many_no h1 hmm
  obtain ⟨M, hM⟩ : ∃ M, M = m * m := ⟨_, rfl⟩
  have eM : (m : Int) * m = M := by rw [hM]; exact (Int.natCast_mul _ _).symm
  rw [← hM] at hmm ⊢
  have HMM : Hid (M = m * m) := hM
  clear hM
  go_enter Tryz.func26, Tryz.ntmps26
  go_wp2_with (first
    | (go_at_call 49; refine (t49 (by omega) (by omega) HM.out _).mono ?_; rintro e w' ⟨rfl, rfl⟩)
    | (refine wpList_make_full _ rfl _ _ 34 rfl w'.heap.size 65 i0 (.complex .f64 0 0) 1 Tryz.underlying34 hi hz0 hz1 .i64 .i64 _ _ M rfl rfl rfl rfl (by rw [hz2]; omega) (by unfold maxLen; omega) (Nat.le_refl _) ?_; intro w1 hown hgr; have HF : Hid (Fill _ w1 _ M (frankF m) 0) := Fill.new _ hown hgr; clear hown hgr))
  go_loopw [5, 6, 19] (fun _ _ vi wr => ∃ i : Nat, i ≤ m ∧ vi = .int .i64 i ∧ Hid (Fill w' wr w'.heap.size M (frankF m) (i * m))) (fun _ _ vi _ => m - (intOf vi).toNat)
  case atStart => exact ⟨0, by omega, rfl, by rw [Nat.zero_mul]; exact HF⟩
  case round =>
    clear HF
    obtain ⟨i, hi', rfl, HF⟩ := hrel
    by_cases hlt : i < m
    · have hiz : (i : Int) < (m : Int) := by omega
      obtain ⟨q, hq⟩ : ∃ q, q = i * m := ⟨_, rfl⟩
      have eq : (i : Int) * m = q := by rw [hq]; exact (Int.natCast_mul _ _).symm
      have hqm : q + m ≤ M := by
        rw [hq, HMM.out, ← Nat.succ_mul]; exact Nat.mul_le_mul_right _ hlt
      have HQ : Hid (q = i * m) := hq
      rw [← hq] at HF
      clear hq
      go_wp2
      go_loopw [6, 23] (fun _ vj wr => ∃ j : Nat, j ≤ m ∧ vj = .int .i64 j ∧ Hid (Fill w' wr w'.heap.size M (frankF m) (q + j))) (fun _ vj _ => m - (intOf vj).toNat)
      case atStart => exact ⟨0, by omega, rfl, HF⟩
      case round =>
        clear HF
        obtain ⟨j, hj', rfl, HF⟩ := hrel
        by_cases hlt2 : j < m
        · have hjz : (j : Int) < (m : Int) := by omega
          obtain ⟨p, hp⟩ : ∃ p, p = q + j := ⟨_, rfl⟩
          have ep : (q : Int) + j = p := by omega
          have hpM : p < M := by omega
          have hpz : (p : Int) < (M : Int) := by omega
          obtain ⟨r, hr⟩ : ∃ r, r = i * j := ⟨_, rfl⟩
          have er : (i : Int) * j = r := by rw [hr]; exact (Int.natCast_mul _ _).symm
          have hr2 : r ≤ 16384 := by rw [hr]; exact Nat.le_trans (Nat.mul_le_mul (Nat.le_of_lt hlt) (Nat.le_of_lt hlt2)) (by rw [← HMM.out]; omega)
          have HU : Hid (frankF m p = unitP r m) := by
            show _ = _
            rw [hp, HQ.out, hr]; exact frank_at hlt2
          have HP : Hid (p = q + j) := hp
          rw [← hp] at HF
          clear hp hr
          go_wp2_with (go_at_call 50; refine (t50 _ _ _ (by omega) (by omega)).mono ?_; rintro e w2 ⟨c, s, rfl, hc, hs, hu⟩; have HF2 : Hid (Fill w' w2 w'.heap.size M (frankF m) p) := HF.out.up hu; obtain ⟨⟨x0, y0, hcell⟩, hfr⟩ := HF2.out.cell hpM; clear HF hu)
          go_roundw
          case rel =>
            refine ⟨j + 1, by omega, by go_num, ?_⟩
            rw [← Nat.add_assoc, ← HP.out]
            exact HF2.out.stored hpM (by rw [HU.out]; exact hc.out) (by rw [HU.out]; exact hs.out)
          case measure => simp [intOf]; omega
        · obtain rfl : m = j := by omega
          go_wp2
          go_roundw
          case rel => exact ⟨i + 1, by omega, by go_num, by rw [Nat.succ_mul, ← HQ.out]; exact HF⟩
          case measure => simp [intOf]; omega
    · obtain rfl : m = i := by omega
      go_wp2
      go_ret2
      exact Fill.pl (by rw [← HMM.out] at HF; exact HF.out) rfl
theorem t26 (m : Int) (w : World) (hm : m ≤ 9223372036854775807) : Calls Tryz.prog 26 #[.int .i64 m] w (PL w (frankL m) (frankE m)) := by
  by_cases h1 : m < 1
  · rw [frankL, frankE, if_pos h1, if_pos h1]
    go_enter Tryz.func26, Tryz.ntmps26
    go_wp2
    go_ret2
    exact PL.none _ _
  · obtain ⟨N, rfl⟩ := Int.eq_ofNat_of_zero_le (show 0 ≤ m by omega)
    by_cases h2 : (N : Int) > 128
    · rw [frankL, frankE, if_neg h1, if_neg h1, if_pos h2, if_pos h2]
      have HM : Hid (decide ((N : Int) > Int.tdiv 16384 N) = true) := many_yes (by omega) (Nat.lt_of_lt_of_le (by omega) (Nat.mul_le_mul (show 129 ≤ N by omega) (show 129 ≤ N by omega)))
      go_enter Tryz.func26, Tryz.ntmps26
      go_wp2_with (go_at_call 49; refine (t49 (by omega) (by omega) HM.out _).mono ?_; rintro e w' ⟨rfl, rfl⟩)
      go_ret2
      exact PL.none _ _
    · rw [frankL, frankE, if_neg h1, if_neg h1, if_neg h2, if_neg h2]
      exact t26ok N w (by omega) (by omega)

/-- The cells of a slice hold these whole numbers. -/
def IRow (w : World) (v : Value) (o : List Int) : Prop := ∃ p cap, v = .slice p o.length cap ∧ ∀ i, i < o.length → ∃ blk off, p = some ⟨blk, off, none⟩ ∧ w.cell? ⟨blk, off + i, none⟩ = some (.int .i64 o[i]!)
def stepsF (o : List Int) (n p : Nat) : Option Nat × Option Nat := unitP (Int.tmod o[p / n]! n * ((p % n : Nat) : Int)) n
theorem steps_at {o : List Int} {i j n : Nat} (hj : j < n) : stepsF o n (i * n + j) = unitP (Int.tmod o[i]! n * (j : Int)) n := by
  unfold stepsF
  have e1 : (i * n + j) / n = i := by
    rw [Nat.mul_comm, Nat.mul_add_div (by omega), Nat.div_eq_of_lt hj, Nat.add_zero]
  have e2 : (i * n + j) % n = j := by
    rw [Nat.mul_comm, Nat.mul_add_mod, Nat.mod_eq_of_lt hj]
  rw [e1, e2]
def stepsL (o : List Int) (n : Int) : List (Option Nat × Option Nat) := if n < 1 then [] else if 16384 < o.length * n.toNat then [] else (List.range (o.length * n.toNat)).map (stepsF o n.toNat)
def stepsE (o : List Int) (n : Int) : Int := if n < 1 then 2 else if 16384 < o.length * n.toNat then 3 else 0
theorem rest_bounds {f : Int} {n j : Nat} (h1 : 1 ≤ n) (h2 : n ≤ 16384) (hj : j < n) : -268435456 ≤ Int.tmod f n * (j : Int) ∧ Int.tmod f n * (j : Int) ≤ 268435456 := by
  have b1 := Int.tmod_lt_of_pos f (show (0 : Int) < n by omega)
  have b2 : -(n : Int) < f.tmod n := Int.lt_tmod_of_pos f (show (0 : Int) < n by omega)
  generalize f.tmod n = r at *
  have k1 : r * (j : Int) ≤ 16384 * 16384 := by
    rcases Int.le_total r 0 with h | h
    · exact Int.le_trans (Int.mul_nonpos_of_nonpos_of_nonneg h (by omega)) (by omega)
    · exact Int.mul_le_mul (by omega) (by omega) (by omega) (by omega)
  have k2 : (-r) * (j : Int) ≤ 16384 * 16384 := by
    rcases Int.le_total 0 r with h | h
    · exact Int.le_trans (Int.mul_nonpos_of_nonpos_of_nonneg (by omega) (by omega)) (by omega)
    · exact Int.mul_le_mul (by omega) (by omega) (by omega) (by omega)
  rw [Int.neg_mul] at k2
  omega
set_option maxHeartbeats 1000000 in
theorem t28ok (o : List Int) (v : Value) (n : Nat) (w : World) (hR : IRow w v o) (h1 : 1 ≤ n) (hK : o.length < 1000000000) (h2 : o.length * n ≤ 16384) (h3 : n ≤ 9223372036854775807) : Calls Tryz.prog 28 #[v, .int .i64 n] w (PL w ((List.range (o.length * n)).map (stepsF o n)) 0) := by
  obtain ⟨i0, hi, hz0, hz1, hz2⟩ := info_parts info41
  have HR : Hid (IRow w v o) := hR
  obtain ⟨pp, cap, rfl, hpp⟩ := hR
  have HPP : Hid (∀ i, i < o.length → ∃ blk off, pp = some ⟨blk, off, none⟩ ∧ w.cell? ⟨blk, off + i, none⟩ = some (.int .i64 o[i]!)) := hpp
  clear hpp HR
  have HM : Hid (decide ((o.length : Int) > Int.tdiv 16384 n) = false) := many_no h1 h2
  obtain ⟨M, hM⟩ : ∃ M, M = o.length * n := ⟨_, rfl⟩
  have eM : (o.length : Int) * n = M := by rw [hM]; exact (Int.natCast_mul _ _).symm
  rw [← hM] at h2 ⊢
  have HMM : Hid (M = o.length * n) := hM
  clear hM
  generalize hN : o.length = K at *
  have HN : Hid (o.length = K) := hN
  clear hN
  go_enter Tryz.func28, Tryz.ntmps28
  go_wp2_with (first
    | (go_at_call 49; refine (t49 (by omega) (by omega) HM.out _).mono ?_; rintro e w' ⟨rfl, rfl⟩)
    | (refine wpList_make_full _ rfl _ _ 34 rfl w'.heap.size 65 i0 (.complex .f64 0 0) 1 Tryz.underlying34 hi hz0 hz1 .i64 .i64 _ _ M rfl rfl rfl rfl (by rw [hz2]; omega) (by unfold maxLen; omega) (Nat.le_refl _) ?_; intro w1 hown hgr; have HF : Hid (Fill _ w1 _ M (stepsF o n) 0) := Fill.new _ hown hgr; clear hown hgr))
  go_loopw [7, 8, 9, 10, 26] (fun _ _ _ _ vi wr => ∃ i : Nat, i ≤ K ∧ vi = .int .i64 i ∧ Hid (Fill w' wr w'.heap.size M (stepsF o n) (i * n))) (fun _ _ _ _ vi _ => K - (intOf vi).toNat)
  case atStart => exact ⟨0, by omega, rfl, by rw [Nat.zero_mul]; exact HF⟩
  case round =>
    clear HF
    obtain ⟨i, hi', rfl, HF⟩ := hrel
    by_cases hlt : i < K
    · have hiz : (i : Int) < (K : Int) := by omega
      obtain ⟨blk, off, hp, hc0⟩ := HPP.out i (by have := HN.out; omega)
      subst hp
      have hc1 := cell_up hc0 HF.out.below
      generalize hf : o[i]! = f at hc0 hc1
      have HFF : Hid (o[i]! = f) := hf
      clear hf hc0
      have hn2 : n ≤ 16384 := by
        have e := HMM.out
        have : 1 * n ≤ K * n := Nat.mul_le_mul_right _ (by omega)
        omega
      have b1 := Int.tmod_lt_of_pos f (show (0 : Int) < n by omega)
      have b2 : -(n : Int) < f.tmod n := Int.lt_tmod_of_pos f (show (0 : Int) < n by omega)
      obtain ⟨q, hq⟩ : ∃ q, q = i * n := ⟨_, rfl⟩
      have eq : (i : Int) * n = q := by rw [hq]; exact (Int.natCast_mul _ _).symm
      have hqm : q + n ≤ M := by
        rw [hq, HMM.out, ← Nat.succ_mul]; exact Nat.mul_le_mul_right _ hlt
      have HQ : Hid (q = i * n) := hq
      rw [← hq] at HF
      clear hq
      go_wp2
      go_loopw [10, 35] (fun _ vj wr => ∃ j : Nat, j ≤ n ∧ vj = .int .i64 j ∧ Hid (Fill w' wr w'.heap.size M (stepsF o n) (q + j))) (fun _ vj _ => n - (intOf vj).toNat)
      case atStart => exact ⟨0, by omega, rfl, HF⟩
      case round =>
        clear HF
        obtain ⟨j, hj', rfl, HF⟩ := hrel
        by_cases hlt2 : j < n
        · have hjz : (j : Int) < (n : Int) := by omega
          obtain ⟨p, hp⟩ : ∃ p, p = q + j := ⟨_, rfl⟩
          have ep : (q : Int) + j = p := by omega
          have hpM : p < M := by omega
          have hpz : (p : Int) < (M : Int) := by omega
          obtain ⟨r1, r2⟩ := rest_bounds (f := f) h1 hn2 hlt2
          have HU : Hid (stepsF o n p = unitP (f.tmod n * j) n) := by
            show _ = _
            rw [hp, HQ.out, steps_at hlt2, HFF.out]
          have HP : Hid (p = q + j) := hp
          rw [← hp] at HF
          clear hp
          go_wp2_with (go_at_call 50; refine (t50 _ _ _ (by omega) (by omega)).mono ?_; rintro e w2 ⟨c, s, rfl, hc, hs, hu⟩; have HF2 : Hid (Fill w' w2 w'.heap.size M (stepsF o n) p) := HF.out.up hu; obtain ⟨⟨x0, y0, hcell⟩, hfr⟩ := HF2.out.cell hpM; clear HF hu)
          go_roundw
          case rel =>
            refine ⟨j + 1, by omega, by go_num, ?_⟩
            rw [← Nat.add_assoc, ← HP.out]
            exact HF2.out.stored hpM (by rw [HU.out]; exact hc.out) (by rw [HU.out]; exact hs.out)
          case measure => simp [intOf]; omega
        · obtain rfl : n = j := by omega
          go_wp2
          go_roundw
          case rel => exact ⟨i + 1, by omega, by go_num, by rw [Nat.succ_mul, ← HQ.out]; exact HF⟩
          case measure => simp [intOf]; omega
    · obtain rfl : K = i := by omega
      go_wp2
      go_ret2
      exact Fill.pl (by rw [← HMM.out] at HF; exact HF.out) rfl
theorem t28 (o : List Int) (v : Value) (n : Int) (w : World) (hR : IRow w v o) (hK : o.length < 1000000000) (hn : n ≤ 9223372036854775807) : Calls Tryz.prog 28 #[v, .int .i64 n] w (PL w (stepsL o n) (stepsE o n)) := by
  by_cases h1 : n < 1
  · rw [stepsL, stepsE, if_pos h1, if_pos h1]
    obtain ⟨pp, cap, rfl, hpp⟩ := hR
    clear hpp
    go_enter Tryz.func28, Tryz.ntmps28
    go_wp2
    go_ret2
    exact PL.none _ _
  · obtain ⟨N, rfl⟩ := Int.eq_ofNat_of_zero_le (show 0 ≤ n by omega)
    by_cases h2 : 16384 < o.length * (N : Int).toNat
    · rw [stepsL, stepsE, if_neg h1, if_neg h1, if_pos h2, if_pos h2]
      obtain ⟨pp, cap, rfl, hpp⟩ := hR
      have HM : Hid (decide ((o.length : Int) > Int.tdiv 16384 N) = true) := many_yes (by omega) h2
      clear hpp h2
      go_enter Tryz.func28, Tryz.ntmps28
      go_wp2_with (go_at_call 49; refine (t49 (by omega) (by omega) HM.out _).mono ?_; rintro e w' ⟨rfl, rfl⟩)
      go_ret2
      exact PL.none _ _
    · rw [stepsL, stepsE, if_neg h1, if_neg h1, if_neg h2, if_neg h2]
      exact t28ok o v N w hR (by omega) hK (by simpa using h2) (by omega)
end Go.Proofs.YtflngnnoibkkoaaGreat
