/- A point of the circle: the program's and the reference's. -/
import Derived.Test.YtjnggbpifclpcabD
namespace Go.Proofs.Ytjnggbpifclpcab
open Go.ChangeShapes Go.WideShapes Go.ChangeAt Go.RowKit Go.Fl Ieee
attribute [local go_sem] run_store_float run_store_complex call20 call19 run_neg fold_eq fold_ne fold_lt fold_gt abs_eq

/-- Flipped? Swapped? And what is left of the turn then. -/
def flipped (w : Option Nat) : Bool := gtF (w.map abs) (ab 4598175219545276416)
def once (w : Option Nat) : Option Nat := if flipped w then bin .sub (ab 4602678819172646912) (w.map abs) else w.map abs
def swapped (w : Option Nat) : Bool := gtF (once w) (ab 4593671619917905920)
def twice (w : Option Nat) : Option Nat := if swapped w then bin .sub (ab 4598175219545276416) (once w) else once w
def pointC (w : Option Nat) : Option Nat :=
  let c := if swapped w then eastS (twice w) else eastC (twice w)
  cleanF (if flipped w then c.map neg else c)
def pointS (w : Option Nat) : Option Nat :=
  let s := if swapped w then eastC (twice w) else eastS (twice w)
  cleanF (if ltF w (ab 0) then s.map neg else s)
def turnC (x : Option Nat) : Option Nat := if fin x then pointC (wrapF x) else none
def turnS (x : Option Nat) : Option Nat := if fin x then pointS (wrapF x) else none

/-- What a call leaves that hands back a number of two parts. -/
def CR (w : World) (c s : Option Nat) (e : Ending) (w' : World) : Prop := ∃ r i, e = .returned (.complex .f64 r i) ∧ Hid (ab r = c) ∧ Hid (ab i = s) ∧ Below w.heap.size w w'

theorem CR.mk {w w' : World} {c s : Option Nat} {r i : Nat} (h1 : ab r = c) (h2 : ab i = s) (hb : Below w.heap.size w w') : CR w c s (.returned (.complex .f64 r i)) w' := ⟨r, i, rfl, h1, h2, hb⟩
theorem below_via {w w1 : World} {n : Nat} (hb : Below (w.drewN n).heap.size (w.drewN n) w1) (m : Nat) : Below w.heap.size w (w1.drewN m) :=
  below_drewN ((below_drewN (Below.refl _ _) n).trans hb) m

set_option maxHeartbeats 1000000 in
theorem t23 (x : Nat) (w : World) : Calls Try.prog 23 #[.float .f64 x] w (CR w (turnC (ab x)) (turnS (ab x))) := by
  go_enter Try.func23, Try.ntmps23
  go_wp2_with (first
    | ((with_reducible refine upon_fl (by simp) ?_); intro r n hr)
    | (go_at_call 40; refine (t40 _ _).mono ?_; rintro e w' ⟨rfl, rfl⟩)
    | (go_at_call 28; refine (t28 _).mono ?_; rintro e w' ⟨rfl, rfl⟩)
    | (go_at_call 9; refine (t9 _ _).mono ?_; rintro e w' ⟨rfl, rfl⟩)
    | (go_at_call 41; refine (t41 _ _).mono ?_; rintro e w' ⟨r, n, rfl, rfl, hr⟩)
    | (go_at_call 42; refine (t42 _ _).mono ?_; rintro e w1 ⟨c, s, rfl, hc, hs, hb⟩)
    | (go_at_call 25; refine (t25 _ _ _).mono ?_; rintro e w' ⟨rfl, rfl⟩)
    | (go_at_call 43; refine (t43 _ _).mono ?_; rintro e w' ⟨r, n, rfl, rfl, hr⟩))
  all_goals (go_ret; go_tidy; refine CR.mk ?_ ?_ (by first | exact Below.refl _ _ | exact below_via ‹_› _))
  all_goals simp_all [turnC, turnS, pointC, pointS, flipped, swapped, once, twice, ab_abs, ab_neg, Hid]
  all_goals rfl
/-- What a row's maker leaves, as the fold wants it. -/
def RowR (L : List Nat) (n : Nat) (w : World) (e : Ending) (w' : World) : Prop := ∃ g cap, e = .returned (.slice (some ⟨g, 0, none⟩) n cap) ∧ Hid (∀ i, i < n → w'.cell? ⟨g, 0 + i, none⟩ = some (.float .f64 (L.getD i 0))) ∧ Below w.heap.size w w'
theorem rowR_of {L : List Nat} {n : Nat} {w w' : World} {e : Ending} {b : Nat} (hn : L.length = n + 1) (h : ∃ v, e = .returned v ∧ w'.ownsRow b 33 1 v (n + 1) (L.map (Value.float .f64)) ∧ Below w.heap.size w w') : RowR L (n + 1) w e w' := by
  obtain ⟨v, rfl, ⟨_, h⟩, hb⟩ := h
  rcases h with ⟨_, h0⟩ | ⟨g, cap, cur, rfl, _, hg, _, _, _, ht⟩
  · omega
  · refine ⟨g, cap, rfl, fun i hi => ?_, hb⟩
    rw [cell_of_row _ _ _ _ _ _ hg]
    have e : (cur.toList.take ((n + 1) * 1))[i]? = (L.map (Value.float .f64))[i]? := by rw [ht]
    rw [List.getElem?_take, if_pos (by omega)] at e
    simp only [Nat.zero_add]
    rw [← Array.getElem?_toList, e]
    simp [List.getD, List.getElem?_eq_getElem (show i < L.length by omega)]
/-- What a call leaves that hands back a number of two parts as a struct. -/
def SR (w : World) (c s : Option Nat) (e : Ending) (w' : World) : Prop := ∃ r i, e = .returned (.agg #[.float .f64 r, .float .f64 i]) ∧ Hid (ab r = c) ∧ Hid (ab i = s) ∧ Below w.heap.size w w'
theorem SR.mk {w w' : World} {c s : Option Nat} {r i : Nat} (h1 : ab r = c) (h2 : ab i = s) (hb : Below w.heap.size w w') : SR w c s (.returned (.agg #[.float .f64 r, .float .f64 i])) w' := ⟨r, i, rfl, h1, h2, hb⟩
/-- A block of two cells, kept behind a call. -/
theorem kept2 {W w1 : World} {g : Nat} {o : Obj} (h : W.heap[g]? = some o) (hb : Below W.heap.size W w1) : w1.heap[g]? = some o := by
  rw [hb.block g (Array.getElem?_eq_some_iff.1 h).1]; exact h
theorem keptA {w w1 : World} {o : Obj} {k : Nat} (hb : Below ((w.alloc o).drewN k).heap.size ((w.alloc o).drewN k) w1) : w1.heap[w.heap.size]? = some o :=
  kept2 (W := (w.alloc o).drewN k) (heap_alloc_last w o) hb
theorem keptB {w1 w2 : World} {o : Obj} {k g : Nat} (h : Hid (w1.heap[g]? = some o)) (hb : Below (w1.drewN k).heap.size (w1.drewN k) w2) : w2.heap[g]? = some o :=
  kept2 (W := w1.drewN k) h hb
theorem facts2 {w : World} {g : Nat} {u v : Value} {t : TypeId} (h : w.heap[g]? = some (.cells #[u, v] t (0, 0))) :
    w.cell? ⟨g, 0, none⟩ = some u ∧ w.cell? ⟨g, 1, none⟩ = some v ∧ w.frozen? ⟨g, 0, none⟩ = false ∧ w.frozen? ⟨g, 1, none⟩ = false := by
  simp [World.cell?, World.frozen?, h]
theorem whole_ok {x : Nat} (h : isN x = false) : ∃ y, wholeF (some x) = some y ∧ isN y = false := by
  unfold wholeF
  split
  · exact ⟨neg (floor (neg x)), rfl, by rw [isN_neg]; exact floor_ok (by rw [isN_neg]; exact h)⟩
  · exact ⟨floor x, rfl, floor_ok h⟩
theorem wrap_some {x : Nat} (h : fin (ab x) = true) : ∃ r, wrapF (ab x) = some r ∧ isN r = false := by
  have hN := fin_isN h
  obtain ⟨y, hy, hyN⟩ := whole_ok hN
  obtain ⟨r, hr⟩ := sub_some (fin_num h) hyN
  have hrN := bits_ok hr
  have e1 : bin .sub (ab x) (wholeF (ab x)) = some r := by rw [ab_some hN, hy]; exact hr
  have one : ∃ s m e, double.read 4607182418800017408 = .number s m e := ⟨_, _, _, rfl⟩
  have hone : ab 4607182418800017408 = some 4607182418800017408 := rfl
  unfold wrapF
  rw [if_pos h, e1]
  simp only
  split
  · obtain ⟨q, hq⟩ := sub_some' hrN one
    exact ⟨q, by rw [hone]; exact hq, bits_ok hq⟩
  · split
    · obtain ⟨q, hq⟩ := add_some' hrN one
      exact ⟨q, by rw [hone]; exact hq, bits_ok hq⟩
    · exact ⟨r, rfl, hrN⟩
theorem wrap_fin {x r : Nat} (h : Hid (ab r = wrapF (ab x))) : eqF (ab r) (ab r) = fin (ab x) := by
  cases hf : fin (ab x) with
  | true =>
    obtain ⟨q, hq, hN⟩ := wrap_some hf
    rw [h.out, hq] at *
    rw [← ab_some hN, eqF_self, hN]; rfl
  | false =>
    have : ab r = none := by rw [h.out]; unfold wrapF; rw [if_neg (by rw [hf]; exact Bool.false_ne_true)]
    rw [this]; rfl
theorem below_chain {w w1 w2 : World} {o : Obj} {k l : Nat} (h1 : Below ((w.alloc o).drewN k).heap.size ((w.alloc o).drewN k) w1) (h2 : Below (w1.drewN l).heap.size (w1.drewN l) w2) : Below w.heap.size w w2 := by
  have s1 := h1.size
  have b1 : Below w.heap.size w w1 := (below_drewN ((Below.refl _ _).alloc (Nat.le_refl _) o) k).trans (h1.mono (by simp))
  exact b1.trans ((below_drewN (Below.refl _ _) l).trans (h2.mono (by simp at s1 ⊢; omega)))

end Go.Proofs.Ytjnggbpifclpcab
