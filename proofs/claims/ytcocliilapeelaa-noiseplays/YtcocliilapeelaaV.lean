/- One step of two sources, the program's and the reference's. -/
import Derived.Test.YtcocliilapeelaaU
namespace Go.Proofs.Ytcocliilapeelaa
open Go.ChangeShapes Go.WideShapes Go.ChangeAt Go.RowKit Go.Fl Ieee
attribute [local go_sem] run_store_float run_store_complex call38 call37 run_neg fold_eq fold_ne fold_lt fold_gt abs_eq

theorem t28 (x y : Nat) (w : World) : Calls Try.prog 28 #[.complex .f64 x y] w fun e w' => e = .returned (.agg #[.float .f64 x, .float .f64 y]) ∧ Hid (Up w w') := by
  go_enter Try.func28, Try.ntmps28
  go_wp2
  exact bodyPost_ret (results_cell_row rfl _ _ w.heap.size 53 #[.float .f64 x, .float .f64 y] (0, 0) _ rfl (heap_alloc_last _ _) Try.underlying53 rfl (by kernel_rfl)) rfl ⟨rfl, Up.alloc _ _⟩
/-- But for two blocks nothing has turned. -/
structure Two (a x : Nat) (w w' : World) : Prop where
  os : w'.os = w.os
  tape : w'.tape = w.tape
  output : w'.output = w.output
  size : w.heap.size ≤ w'.heap.size
  block : ∀ k, k < w.heap.size → k ≠ a → k ≠ x → w'.heap[k]? = w.heap[k]?
theorem Two.refl (a x : Nat) (w : World) : Two a x w w := ⟨rfl, rfl, rfl, Nat.le_refl _, fun _ _ _ _ => rfl⟩
theorem Two.trans {a x : Nat} {u v w : World} (h : Two a x u v) (k : Two a x v w) : Two a x u w :=
  ⟨k.os.trans h.os, k.tape.trans h.tape, k.output.trans h.output, Nat.le_trans h.size k.size, fun j hj h1 h2 => (k.block j (Nat.lt_of_lt_of_le hj h.size) h1 h2).trans (h.block j hj h1 h2)⟩
theorem Two.of_a {a x : Nat} {w w' : World} (h : But a w w') : Two a x w w' := ⟨h.1, h.2, h.3, h.4, fun k hk h1 _ => h.5 k hk (fun e => h1 (by cases e; rfl))⟩
theorem Two.of_x {a x : Nat} {w w' : World} (h : But x w w') : Two a x w w' := ⟨h.1, h.2, h.3, h.4, fun k hk _ h1 => h.5 k hk (fun e => h1 (by cases e; rfl))⟩
theorem Two.of_up {a x : Nat} {w w' : World} (h : Up w w') : Two a x w w' := Two.of_a (But.of_up h)
/-- A block that was made since may be written. -/
theorem Two.over {a x g : Nat} {w w1 w2 : World} (h : Two a x w w1) (k : But g w1 w2) (hg : w.heap.size ≤ g) : Two a x w w2 :=
  ⟨k.1.trans h.os, k.2.trans h.tape, k.3.trans h.output, Nat.le_trans h.size k.4, fun j hj h1 h2 => (k.5 j (Nat.lt_of_lt_of_le hj h.size) (fun e => by cases e; omega)).trans (h.block j hj h1 h2)⟩
theorem Two.up {a x : Nat} {w0 w w' : World} (h : Two a x w w') (hu : Up w0 w) (ha : w0.heap.size ≤ a) (hx : w0.heap.size ≤ x) : Up w0 w' :=
  ⟨h.os.trans hu.os, h.tape.trans hu.tape, h.output.trans hu.output, Nat.le_trans hu.size h.size, fun k hk => (h.block k (Nat.lt_of_lt_of_le hk hu.size) (by omega) (by omega)).trans (hu.block k hk)⟩
theorem Two.cell {a x : Nat} {w w' : World} {b o : Nat} {v : Value} (h : Two a x w w') (ha : b ≠ a) (hx : b ≠ x) (hc : w.cell? ⟨b, o, none⟩ = some v) : w'.cell? ⟨b, o, none⟩ = some v := by
  rw [World.cell?_of_block (w := w) (h.block b (World.block_lt_of_cell? w _ hc) ha hx)]; exact hc
theorem SC.two {a x : Nat} {w w' : World} {b : Nat} {s : Int} (h : SC w b s) (ht : Two a x w w') (ha : b ≠ a) (hx : b ≠ x) : SC w' b s :=
  ⟨ht.cell ha hx h.c, (World.frozen?_of_block (w := w) (a := ⟨b, 0, none⟩) (ht.block b h.lt ha hx)).trans h.f⟩
/-- A step under way: two sources, and what is asked, in a place of its own. -/
structure ST (w W : World) (a x : Nat) (s r K N S : Int) (X : Nat) : Prop where
  two : Two a x w W
  sa : SC W a s
  sx : SC W x r
  ne : a ≠ x
  la : a < w.heap.size
  lx : x < w.heap.size
  row : W.heap[w.heap.size]? = some (.cells #[.int .i64 K, .int .i64 N, .int .u64 S, .float .f64 X] 30 (0, 0))
theorem ST.new {w : World} {a x : Nat} {s r : Int} (ha : SC w a s) (hx : SC w x r) (ne : a ≠ x) (K N S : Int) (X : Nat) : ST w (w.alloc (.cells #[.int .i64 K, .int .i64 N, .int .u64 S, .float .f64 X] 30)) a x s r K N S X :=
  ⟨Two.of_up (Up.alloc _ _), ha.up (Up.alloc _ _), hx.up (Up.alloc _ _), ne, ha.lt, hx.lt, heap_alloc_last _ _⟩
theorem ST.glt {w W : World} {a x : Nat} {s r K N S : Int} {X : Nat} (h : ST w W a x s r K N S X) : w.heap.size < W.heap.size := by
  have := h.row
  rcases Nat.lt_or_ge w.heap.size W.heap.size with h1 | h1
  · exact h1
  · rw [Array.getElem?_eq_none h1] at this; cases this
theorem ST.cells {w W : World} {a x : Nat} {s r K N S : Int} {X : Nat} (h : ST w W a x s r K N S X) : W.cell? ⟨w.heap.size, 0, none⟩ = some (.int .i64 K) ∧ W.cell? ⟨w.heap.size, 1, none⟩ = some (.int .i64 N) ∧ W.cell? ⟨w.heap.size, 2, none⟩ = some (.int .u64 S) ∧ W.cell? ⟨w.heap.size, 3, none⟩ = some (.float .f64 X) := by
  have hh := h.row
  refine ⟨?_, ?_, ?_, ?_⟩ <;> (rw [cell_of_row _ _ _ _ _ _ hh]; rfl)
theorem ST.a {w W W' : World} {a x : Nat} {s r K N S : Int} {X : Nat} {s' : Int} (h : ST w W a x s r K N S X) (hs : SC W' a s') (hb : But a W W') : ST w W' a x s' r K N S X :=
  ⟨h.two.trans (Two.of_a hb), hs, h.sx.but hb (Ne.symm h.ne), h.ne, h.la, h.lx, (hb.block _ h.glt (fun e => by have := h.la; cases e; omega)).trans h.row⟩
theorem ST.x {w W W' : World} {a x : Nat} {s r K N S : Int} {X : Nat} {s' : Int} (h : ST w W a x s r K N S X) (hs : SC W' x s') (hb : But x W W') : ST w W' a x s s' K N S X :=
  ⟨h.two.trans (Two.of_x hb), h.sa.but hb h.ne, hs, h.ne, h.la, h.lx, (hb.block _ h.glt (fun e => by have := h.lx; cases e; omega)).trans h.row⟩
theorem ST.up {w W W' : World} {a x : Nat} {s r K N S : Int} {X : Nat} (h : ST w W a x s r K N S X) (hu : Up W W') : ST w W' a x s r K N S X :=
  ⟨h.two.trans (Two.of_up hu), h.sa.up hu, h.sx.up hu, h.ne, h.la, h.lx, (hu.block _ h.glt).trans h.row⟩
/-- What a step leaves. -/
def SD (w : World) (a x : Nat) (e : Ending) (W : World) : Prop := ∃ s, e = .returned (.bool true) ∧ Hid (SC W a s) ∧ Hid (SC W x s) ∧ Hid (Two a x w W)
theorem ST.done {w W : World} {a x : Nat} {s K N S : Int} {X : Nat} (h : ST w W a x s s K N S X) : SD w a x (.returned (.bool true)) W := ⟨s, rfl, h.sa, h.sx, h.two⟩
theorem t24t {x y : Nat} (h : ab x = ab y) (w : World) : Calls Try.prog 24 #[.float .f64 x, .float .f64 y] w fun e w' => e = .returned (.bool true) ∧ w' = w :=
  (t24 x y w).mono fun _ _ ⟨he, hw⟩ => ⟨by rw [he, h]; simp, hw⟩
def arg (K N S : Int) (X : Nat) : Value := .agg #[.int .i64 K, .int .i64 N, .int .u64 S, .float .f64 X]
theorem s0 {w : World} {a x : Nat} {s : Int} (ha : SC w a s) (hx : SC w x s) (ne : a ≠ x) (N S : Int) (X : Nat) : Calls Try.prog 10 #[.pointer (some ⟨a, 0, none⟩), .pointer (some ⟨x, 0, none⟩), .agg #[.int .i64 0, .int .i64 N, .int .u64 S, .float .f64 X]] w (SD w a x) := by
  have H := ST.new ha hx ne 0 N S X
  obtain ⟨c0, c1, c2, c3⟩ := H.cells
  have HS : Hid (ST w (w.alloc (.cells #[.int .i64 0, .int .i64 N, .int .u64 S, .float .f64 X] 30)) a x s s 0 N S X) := H
  clear ha hx H ne
  go_enter Try.func10, Try.ntmps10
  go_wp2_with (first
    | (go_at_call 13; (with_reducible refine (t13 HS.out.sa).mono ?_); rintro e w1 ⟨rfl, h1, hb1⟩; have H1 : Hid (ST w w1 a x (adv s 1) s 0 N S X) := HS.out.a h1.out hb1.out; clear HS h1 hb1)
    | (go_at_call 23; (with_reducible refine (t23 H1.out.sx).mono ?_); rintro e w2 ⟨rfl, h2, hb2⟩; have H2 : Hid (ST w w2 a x (adv s 1) (adv s 1) 0 N S X) := H1.out.x h2.out hb2.out; clear H1 h2 hb2))
  go_ret
  simpa using H2.out.done
theorem s1 {w : World} {a x : Nat} {s : Int} (ha : SC w a s) (hx : SC w x s) (ne : a ≠ x) (N S : Int) (X : Nat) : Calls Try.prog 10 #[.pointer (some ⟨a, 0, none⟩), .pointer (some ⟨x, 0, none⟩), .agg #[.int .i64 1, .int .i64 N, .int .u64 S, .float .f64 X]] w (SD w a x) := by
  have H := ST.new ha hx ne 1 N S X
  obtain ⟨c0, c1, c2, c3⟩ := H.cells
  have HS : Hid (ST w (w.alloc (.cells #[.int .i64 1, .int .i64 N, .int .u64 S, .float .f64 X] 30)) a x s s 1 N S X) := H
  clear ha hx H ne
  go_enter Try.func10, Try.ntmps10
  go_wp2_with (first
    | (go_at_call 18; (with_reducible refine (t18 HS.out.sa).mono ?_); rintro e w1 ⟨r1, rfl, hr1, h1, hb1⟩; have H1 : Hid (ST w w1 a x (adv s 1) s 1 N S X) := HS.out.a h1.out hb1.out; clear HS h1 hb1)
    | (go_at_call 25; (with_reducible refine (t25 H1.out.sx).mono ?_); rintro e w2 ⟨r2, rfl, hr2, h2, hb2⟩; have H2 : Hid (ST w w2 a x (adv s 1) (adv s 1) 1 N S X) := H1.out.x h2.out hb2.out; clear H1 h2 hb2)
    | (go_at_call 24; (with_reducible refine (t24t (hr1.out.trans hr2.out.symm) _).mono ?_); rintro e w' ⟨rfl, hw⟩; subst w'))
  go_ret
  exact H2.out.done
theorem s2 {w : World} {a x : Nat} {s : Int} (ha : SC w a s) (hx : SC w x s) (ne : a ≠ x) (N S : Int) (X : Nat) : Calls Try.prog 10 #[.pointer (some ⟨a, 0, none⟩), .pointer (some ⟨x, 0, none⟩), .agg #[.int .i64 2, .int .i64 N, .int .u64 S, .float .f64 X]] w (SD w a x) := by
  have H := ST.new ha hx ne 2 N S X
  obtain ⟨c0, c1, c2, c3⟩ := H.cells
  have HS : Hid (ST w (w.alloc (.cells #[.int .i64 2, .int .i64 N, .int .u64 S, .float .f64 X] 30)) a x s s 2 N S X) := H
  clear ha hx H ne
  go_enter Try.func10, Try.ntmps10
  go_wp2_with (first
    | (go_at_call 15; (with_reducible refine (t15 HS.out.sa).mono ?_); rintro e w1 ⟨r1, rfl, hr1, h1, hb1⟩; have H1 : Hid (ST w w1 a x (it s 12) s 2 N S X) := HS.out.a h1.out hb1.out; clear HS h1 hb1)
    | (go_at_call 26; (with_reducible refine (t26 H1.out.sx).mono ?_); rintro e w2 ⟨r2, rfl, hr2, h2, hb2⟩; have H2 : Hid (ST w w2 a x (it s 12) (it s 12) 2 N S X) := H1.out.x h2.out hb2.out; clear H1 h2 hb2)
    | (go_at_call 24; (with_reducible refine (t24t (hr1.out.trans hr2.out.symm) _).mono ?_); rintro e w' ⟨rfl, hw⟩; subst w'))
  go_ret
  exact H2.out.done
theorem s5 {w : World} {a x : Nat} {s : Int} (ha : SC w a s) (hx : SC w x s) (ne : a ≠ x) (N S : Int) (X : Nat) : Calls Try.prog 10 #[.pointer (some ⟨a, 0, none⟩), .pointer (some ⟨x, 0, none⟩), .agg #[.int .i64 5, .int .i64 N, .int .u64 S, .float .f64 X]] w (SD w a x) := by
  have H := ST.new ha hx ne 5 N S X
  obtain ⟨c0, c1, c2, c3⟩ := H.cells
  have HS : Hid (ST w (w.alloc (.cells #[.int .i64 5, .int .i64 N, .int .u64 S, .float .f64 X] 30)) a x s s 5 N S X) := H
  clear ha hx H ne
  go_enter Try.func10, Try.ntmps10
  go_wp2_with (first
    | (go_at_call 14; (with_reducible refine (t14 HS.out.sa _).mono ?_); rintro e w1 ⟨rfl, h1, hb1⟩; have H1 : Hid (ST w w1 a x (adv s S) s 5 N S X) := HS.out.a h1.out hb1.out; clear HS h1 hb1; obtain ⟨d0, d1, d2, d3⟩ := H1.out.cells)
    | (go_at_call 33; (with_reducible refine (t33 H1.out.sx _).mono ?_); rintro e w2 ⟨rfl, h2, hb2⟩; have H2 : Hid (ST w w2 a x (adv s S) (adv s S) 5 N S X) := H1.out.x h2.out hb2.out; clear H1 h2 hb2)
    | (go_at_call 11; (with_reducible refine (t11 H2.out.sa).mono ?_); rintro e w' ⟨rfl, hw⟩; subst w')
    | (go_at_call 12; (with_reducible refine (t12 H2.out.sx).mono ?_); rintro e w' ⟨rfl, hw⟩; subst w'))
  go_ret
  simpa using H2.out.done
theorem s6 {w : World} {a x : Nat} {s : Int} (ha : SC w a s) (hx : SC w x s) (ne : a ≠ x) (K N S : Int) (X : Nat) (h0 : (K == 0) = false) (h1 : (K == 1) = false) (h2 : (K == 2) = false) (h3 : (K == 3) = false) (h4 : (K == 4) = false) (h5 : (K == 5) = false) : Calls Try.prog 10 #[.pointer (some ⟨a, 0, none⟩), .pointer (some ⟨x, 0, none⟩), .agg #[.int .i64 K, .int .i64 N, .int .u64 S, .float .f64 X]] w (SD w a x) := by
  have H := ST.new ha hx ne K N S X
  obtain ⟨c0, c1, c2, c3⟩ := H.cells
  have HS : Hid (ST w (w.alloc (.cells #[.int .i64 K, .int .i64 N, .int .u64 S, .float .f64 X] 30)) a x s s K N S X) := H
  clear ha hx H ne
  go_enter Try.func10, Try.ntmps10
  go_wp2_with (first
    | (go_at_call 11; (with_reducible refine (t11 HS.out.sa).mono ?_); rintro e w' ⟨rfl, hw⟩; subst w')
    | (go_at_call 12; (with_reducible refine (t12 HS.out.sx).mono ?_); rintro e w' ⟨rfl, hw⟩; subst w'))
  go_ret
  simpa using HS.out.done
end Go.Proofs.Ytcocliilapeelaa
