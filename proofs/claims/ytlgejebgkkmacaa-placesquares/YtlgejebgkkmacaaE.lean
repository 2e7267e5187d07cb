/- A point of the circle: the program's and the reference's. -/
import Derived.Test.YtlgejebgkkmacaaD
namespace Go.Proofs.Ytlgejebgkkmacaa
open Go.ChangeShapes Go.WideShapes Go.ChangeAt Go.RowKit Go.Fl Ieee
attribute [local go_sem] run_store_float run_store_complex call39 call50 run_neg fold_eq fold_ne fold_lt fold_gt abs_eq

/-- Flipped? Swapped? And what is left of the turn then. -/
def flipped (w : Option Nat) : Bool := gtF (w.map abs) (ab 4598175219545276416)
def once (w : Option Nat) : Option Nat := if flipped w then bin .sub (ab 4602678819172646912) (w.map abs) else w.map abs
def swapped (w : Option Nat) : Bool := gtF (once w) (ab 4593671619917905920)
def twice (w : Option Nat) : Option Nat := if swapped w then bin .sub (ab 4598175219545276416) (once w) else once w
def pointC (w : Option Nat) : Option Nat :=
  let c := if swapped w then eastS (twice w) else eastC (twice w)
  cleanF (if flipped w then c.map neg else c)
def pointS (w : Option Nat) : Option Nat :=
  let s := if swapped w then eastC (twice w) else eastS (twice w)
  cleanF (if ltF w (ab 0) then s.map neg else s)
def turnC (x : Option Nat) : Option Nat := if fin x then pointC (wrapF x) else none
def turnS (x : Option Nat) : Option Nat := if fin x then pointS (wrapF x) else none

/-- What a call leaves that hands back a number of two parts. -/
def CR (w : World) (c s : Option Nat) (e : Ending) (w' : World) : Prop := ∃ r i, e = .returned (.complex .f64 r i) ∧ Hid (ab r = c) ∧ Hid (ab i = s) ∧ Below w.heap.size w w'

theorem CR.mk {w w' : World} {c s : Option Nat} {r i : Nat} (h1 : ab r = c) (h2 : ab i = s) (hb : Below w.heap.size w w') : CR w c s (.returned (.complex .f64 r i)) w' := ⟨r, i, rfl, h1, h2, hb⟩
theorem below_via {w w1 : World} {n : Nat} (hb : Below (w.drewN n).heap.size (w.drewN n) w1) (m : Nat) : Below w.heap.size w (w1.drewN m) :=
  below_drewN ((below_drewN (Below.refl _ _) n).trans hb) m

set_option maxHeartbeats 1000000 in
theorem t37 (x : Nat) (w : World) : Calls Try.prog 37 #[.float .f64 x] w (CR w (turnC (ab x)) (turnS (ab x))) := by
  go_enter Try.func37, Try.ntmps37
  go_wp2_with (first
    | ((with_reducible refine upon_fl (by simp) ?_); intro r n hr)
    | (go_at_call 51; refine (t51 _ _).mono ?_; rintro e w' ⟨rfl, rfl⟩)
    | (go_at_call 27; refine (t27 _).mono ?_; rintro e w' ⟨rfl, rfl⟩)
    | (go_at_call 25; refine (t25 _ _).mono ?_; rintro e w' ⟨rfl, rfl⟩)
    | (go_at_call 26; refine (t26 _ _).mono ?_; rintro e w' ⟨r, n, rfl, rfl, hr⟩)
    | (go_at_call 61; refine (t61 _ _).mono ?_; rintro e w1 ⟨c, s, rfl, hc, hs, hb⟩)
    | (go_at_call 47; refine (t47 _ _ _).mono ?_; rintro e w' ⟨rfl, rfl⟩)
    | (go_at_call 57; refine (t57 _ _).mono ?_; rintro e w' ⟨r, n, rfl, rfl, hr⟩))
  all_goals (go_ret; go_tidy; refine CR.mk ?_ ?_ (by first | exact Below.refl _ _ | exact below_via ‹_› _))
  all_goals simp_all [turnC, turnS, pointC, pointS, flipped, swapped, once, twice, ab_abs, ab_neg, Hid]
  all_goals rfl
/-- What a row's maker leaves, as the fold wants it. -/
def RowR (L : List Nat) (n : Nat) (w : World) (e : Ending) (w' : World) : Prop := ∃ g cap, e = .returned (.slice (some ⟨g, 0, none⟩) n cap) ∧ Hid (∀ i, i < n → w'.cell? ⟨g, 0 + i, none⟩ = some (.float .f64 (L.getD i 0))) ∧ Below w.heap.size w w'
theorem rowR_of {L : List Nat} {n : Nat} {w w' : World} {e : Ending} {b : Nat} (hn : L.length = n + 1) (h : ∃ v, e = .returned v ∧ w'.ownsRow b 22 1 v (n + 1) (L.map (Value.float .f64)) ∧ Below w.heap.size w w') : RowR L (n + 1) w e w' := by
  obtain ⟨v, rfl, ⟨_, h⟩, hb⟩ := h
  rcases h with ⟨_, h0⟩ | ⟨g, cap, cur, rfl, _, hg, _, _, _, ht⟩
  · omega
  · refine ⟨g, cap, rfl, fun i hi => ?_, hb⟩
    rw [cell_of_row _ _ _ _ _ _ hg]
    have e : (cur.toList.take ((n + 1) * 1))[i]? = (L.map (Value.float .f64))[i]? := by rw [ht]
    rw [List.getElem?_take, if_pos (by omega)] at e
    simp only [Nat.zero_add]
    rw [← Array.getElem?_toList, e]
    simp [List.getD, List.getElem?_eq_getElem (show i < L.length by omega)]
theorem t63s (w : World) : Calls Try.prog 63 #[.int .i64 0] w (RowR sineL 9 w) := (row_sines w).mono fun _ _ h => rowR_of (n := 8) rfl h
theorem t63c (w : World) : Calls Try.prog 63 #[.int .i64 1] w (RowR cosineL 9 w) := (row_cosines w).mono fun _ _ h => rowR_of (n := 8) rfl h
theorem t63t (w : World) : Calls Try.prog 63 #[.int .i64 2] w (RowR tangentL 24 w) := (row_tangents w).mono fun _ _ h => rowR_of (n := 23) rfl h

/-- What a call leaves that hands back a number of two parts as a struct. -/
def SR (w : World) (c s : Option Nat) (e : Ending) (w' : World) : Prop := ∃ r i, e = .returned (.agg #[.float .f64 r, .float .f64 i]) ∧ Hid (ab r = c) ∧ Hid (ab i = s) ∧ Below w.heap.size w w'
theorem SR.mk {w w' : World} {c s : Option Nat} {r i : Nat} (h1 : ab r = c) (h2 : ab i = s) (hb : Below w.heap.size w w') : SR w c s (.returned (.agg #[.float .f64 r, .float .f64 i])) w' := ⟨r, i, rfl, h1, h2, hb⟩
/-- A block of two cells, kept behind a call. -/
theorem kept2 {W w1 : World} {g : Nat} {o : Obj} (h : W.heap[g]? = some o) (hb : Below W.heap.size W w1) : w1.heap[g]? = some o := by
  rw [hb.block g (Array.getElem?_eq_some_iff.1 h).1]; exact h
theorem keptA {w w1 : World} {o : Obj} {k : Nat} (hb : Below ((w.alloc o).drewN k).heap.size ((w.alloc o).drewN k) w1) : w1.heap[w.heap.size]? = some o :=
  kept2 (W := (w.alloc o).drewN k) (heap_alloc_last w o) hb
theorem keptB {w1 w2 : World} {o : Obj} {k g : Nat} (h : Hid (w1.heap[g]? = some o)) (hb : Below (w1.drewN k).heap.size (w1.drewN k) w2) : w2.heap[g]? = some o :=
  kept2 (W := w1.drewN k) h hb
theorem facts2 {w : World} {g : Nat} {u v : Value} {t : TypeId} (h : w.heap[g]? = some (.cells #[u, v] t (0, 0))) :
    w.cell? ⟨g, 0, none⟩ = some u ∧ w.cell? ⟨g, 1, none⟩ = some v ∧ w.frozen? ⟨g, 0, none⟩ = false ∧ w.frozen? ⟨g, 1, none⟩ = false := by
  simp [World.cell?, World.frozen?, h]
theorem fold31s (g cap z : Nat) (w : World) (h : Hid (∀ i, i < 9 → w.cell? ⟨g, 0 + i, none⟩ = some (.float .f64 (sineL.getD i 0)))) : Calls Try.prog 62 #[.slice (some ⟨g, 0, none⟩) 9 cap, .float .f64 z] w (FR w (foldF sineL (ab z))) :=
  t62 sineL 8 g 0 cap z w rfl (by omega) h
theorem fold31c (g cap z : Nat) (w : World) (h : Hid (∀ i, i < 9 → w.cell? ⟨g, 0 + i, none⟩ = some (.float .f64 (cosineL.getD i 0)))) : Calls Try.prog 62 #[.slice (some ⟨g, 0, none⟩) 9 cap, .float .f64 z] w (FR w (foldF cosineL (ab z))) :=
  t62 cosineL 8 g 0 cap z w rfl (by omega) h

theorem whole_ok {x : Nat} (h : isN x = false) : ∃ y, wholeF (some x) = some y ∧ isN y = false := by
  unfold wholeF
  split
  · exact ⟨neg (floor (neg x)), rfl, by rw [isN_neg]; exact floor_ok (by rw [isN_neg]; exact h)⟩
  · exact ⟨floor x, rfl, floor_ok h⟩
theorem wrap_some {x : Nat} (h : fin (ab x) = true) : ∃ r, wrapF (ab x) = some r ∧ isN r = false := by
  have hN := fin_isN h
  obtain ⟨y, hy, hyN⟩ := whole_ok hN
  obtain ⟨r, hr⟩ := sub_some (fin_num h) hyN
  have hrN := bits_ok hr
  have e1 : bin .sub (ab x) (wholeF (ab x)) = some r := by rw [ab_some hN, hy]; exact hr
  have one : ∃ s m e, double.read 4607182418800017408 = .number s m e := ⟨_, _, _, rfl⟩
  have hone : ab 4607182418800017408 = some 4607182418800017408 := rfl
  unfold wrapF
  rw [if_pos h, e1]
  simp only
  split
  · obtain ⟨q, hq⟩ := sub_some' hrN one
    exact ⟨q, by rw [hone]; exact hq, bits_ok hq⟩
  · split
    · obtain ⟨q, hq⟩ := add_some' hrN one
      exact ⟨q, by rw [hone]; exact hq, bits_ok hq⟩
    · exact ⟨r, rfl, hrN⟩
theorem wrap_fin {x r : Nat} (h : Hid (ab r = wrapF (ab x))) : eqF (ab r) (ab r) = fin (ab x) := by
  cases hf : fin (ab x) with
  | true =>
    obtain ⟨q, hq, hN⟩ := wrap_some hf
    rw [h.out, hq] at *
    rw [← ab_some hN, eqF_self, hN]; rfl
  | false =>
    have : ab r = none := by rw [h.out]; unfold wrapF; rw [if_neg (by rw [hf]; exact Bool.false_ne_true)]
    rw [this]; rfl
/-- The way back with a struct of two floats that lies in memory. -/
theorem ret2 {fn : Func} {p : Tmp} (hres : fn.results = #[.cell p 53]) {w W : World} {c s : Option Nat} {tmps : Array Value} {r i n : Nat} {u v : Value} (hp : tmps.getD p undef = .pointer (some ⟨w.heap.size, 0, none⟩))
    (hk : W.heap[w.heap.size]? = some (.cells #[u, v] 53 (0, 0))) (hb : Below w.heap.size w W) (h1 : ab r = c) (h2 : ab i = s) :
    bodyPost Try.prog fn (SR w c s) .ret ⟨tmps, []⟩ (((W.drewN n).setCell ⟨w.heap.size, 0, none⟩ (.float .f64 r)).setCell ⟨w.heap.size, 1, none⟩ (.float .f64 i)) := by
  have e0 : (W.drewN n).heap[w.heap.size]? = some (.cells #[u, v] 53 (0, 0)) := hk
  have e1 := setCell_eq_setRow (W.drewN n) w.heap.size 0 #[u, v] 53 (0, 0) (.float .f64 r) e0
  have g1 := setRow_heap (W.drewN n) w.heap.size #[u, v] #[.float .f64 r, v] 53 (0, 0) e0
  have e2 := setCell_eq_setRow _ w.heap.size 1 #[.float .f64 r, v] 53 (0, 0) (.float .f64 i) g1
  have g2 := setRow_heap _ w.heap.size #[.float .f64 r, v] #[.float .f64 r, .float .f64 i] 53 (0, 0) g1
  refine bodyPost_ret (results_cell_row hres _ _ w.heap.size 53 #[.float .f64 r, .float .f64 i] (0, 0) _ hp ?_ Try.underlying53 rfl (by kernel_rfl)) rfl (SR.mk h1 h2 (((below_drewN hb n).setCell (Nat.le_refl _) _).setCell (Nat.le_refl _) _))
  rw [e1]
  show (((W.drewN n).setRow w.heap.size #[.float .f64 r, v]).setCell ⟨w.heap.size, 1, none⟩ (.float .f64 i)).heap[w.heap.size]? = _
  rw [e2]
  exact g2
theorem below_chain {w w1 w2 : World} {o : Obj} {k l : Nat} (h1 : Below ((w.alloc o).drewN k).heap.size ((w.alloc o).drewN k) w1) (h2 : Below (w1.drewN l).heap.size (w1.drewN l) w2) : Below w.heap.size w w2 := by
  have s1 := h1.size
  have b1 : Below w.heap.size w w1 := (below_drewN ((Below.refl _ _).alloc (Nat.le_refl _) o) k).trans (h1.mono (by simp))
  exact b1.trans ((below_drewN (Below.refl _ _) l).trans (h2.mono (by simp at s1 ⊢; omega)))

set_option maxHeartbeats 4000000 in
theorem t38 (x : Nat) (w : World) : Calls Try.prog 38 #[.float .f64 x] w (SR w (turnC (ab x)) (turnS (ab x))) := by
  go_enter Try.func38, Try.ntmps38
  go_wp2_with (first
    | ((with_reducible refine upon_fl (by simp) ?_); intro r n hr)
    | (go_at_call 40; refine (t40 _ _).mono ?_; rintro e w' ⟨rfl, rfl⟩)
    | (go_at_call 27; refine (t27 _).mono ?_; rintro e w' ⟨rfl, rfl⟩)
    | (go_at_call 25; refine (t25 _ _).mono ?_; rintro e w' ⟨rfl, rfl⟩)
    | (go_at_call 44; refine (t44 _ _).mono ?_; rintro e w' ⟨r, n, rfl, rfl, hr⟩)
    | (go_at_call 60; refine (t60 _ _).mono ?_; rintro e w' ⟨r, n, rfl, rfl, hr⟩)
    | (go_at_call 63; (with_reducible refine (t63s _).mono ?_); rintro e w1 ⟨g, cap, rfl, hS, hb1⟩; have HK := keptA hb1; replace HK : Hid _ := HK)
    | (go_at_call 63; (with_reducible refine (t63c _).mono ?_); rintro e w2 ⟨g, cap, rfl, hC, hb2⟩; have HK2 := keptB HK hb2; obtain ⟨hk1, hk2, hk3, hk4⟩ := facts2 HK2; replace HK2 : Hid _ := HK2)
    | (go_at_call 62; (with_reducible refine (fold31s _ _ _ _ hS).mono ?_); rintro e w' ⟨r, n, rfl, rfl, hr⟩)
    | (go_at_call 62; (with_reducible refine (fold31c _ _ _ _ hC).mono ?_); rintro e w' ⟨r, n, rfl, rfl, hr⟩))
  all_goals (have hfin := wrap_fin ‹Hid (ab _ = wrapF (ab x))›; go_tidy)
  all_goals first
    | refine ret2 rfl rfl (by exact heap_alloc_last w _) ((Below.refl _ _).alloc (Nat.le_refl _) _) ?_ ?_
    | refine ret2 rfl rfl (by exact HK2.out) (below_chain hb1 hb2) ?_ ?_
  all_goals try clear hk1 hk2 hk3 hk4 HK2 hb2 hC HK hb1 hS
  all_goals simp_all [turnC, turnS, pointC, pointS, flipped, swapped, once, twice, ab_abs, ab_neg, Hid, eastC, eastS]
  all_goals rfl
end Go.Proofs.Ytlgejebgkkmacaa
