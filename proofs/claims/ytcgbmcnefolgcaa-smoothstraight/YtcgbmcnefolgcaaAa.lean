/- Leaves of the chapter: above0, the greater of 0 and x, the lesser, finite, Inf; a state's five numbers; Start. -/
import Derived.Test.YtcgbmcnefolgcaaLa
import Derived.Test.YtcgbmcnefolgcaaLp
namespace Go.Proofs.Ytcgbmcnefolgcaa
open Go.ChangeShapes Go.WideShapes Go.ChangeAt Go.RowKit Go.Fl Ieee
attribute [local go_sem] run_store_float call22 call54 run_neg fold_eq fold_ne fold_lt fold_gt abs_eq

/-- The greater of 0 and x. -/
def posF (x : Option Nat) : Option Nat := if gtF x (ab 0) = true then x else ab 0
/-- The lesser of x and y. -/
def lesF (x y : Option Nat) : Option Nat := if ltF y x = true then y else x
theorem good_pos {o : Option Nat} (h : Good o) : Good (posF o) := by unfold posF; split; exact h; exact good_ab 0
theorem good_les {o p : Option Nat} (h : Good o) (k : Good p) : Good (lesF o p) := by unfold lesF; split; exact k; exact h
theorem enters {f : FuncId} {fn : Func} (hf : Try.prog.funcs[f]? = some fn) (hn : (fn.name == "runtime.NumGoroutine") = false) (hb : fn.body.isSome = true) (args : Array Value) (w : World) : (callFunc f args).run Try.prog w = .ok (.enter f args) w := by
  have h1 : fn.name ≠ "runtime.NumGoroutine" := by simpa using hn
  obtain ⟨c, hc⟩ := Option.isSome_iff_exists.1 hb
  simp [callFunc, hf, h1, hc]
theorem t51 (x : Nat) (w : World) : Calls Try.prog 51 #[.float .f64 x] w fun e w' => e = .returned (.bool (gtF (ab x) (ab 0))) ∧ w' = w := by
  go_enter Try.func51, Try.ntmps51
  go_wp2
  go_ret
  exact ⟨rfl, rfl⟩
theorem t52 (x : Nat) (w : World) : Calls Try.prog 52 #[.float .f64 x] w (FR w (posF (ab x))) := by
  go_enter Try.func52, Try.ntmps52
  go_wp2_with (go_at_call 51; refine (t51 _ _).mono ?_; rintro e w' ⟨rfl, rfl⟩)
  all_goals (go_ret; go_tidy; refine FR.mk0 ?_; simp_all [posF])
theorem t65 (x : Nat) (w : World) : Calls Try.prog 65 #[.float .f64 x] w (FR w (posF (ab x))) := by
  go_enter Try.func65, Try.ntmps65
  go_wp2
  all_goals (go_ret; go_tidy; refine FR.mk0 ?_; simp_all [posF])
theorem t53 (x y : Nat) (w : World) : Calls Try.prog 53 #[.float .f64 x, .float .f64 y] w (FR w (lesF (ab x) (ab y))) := by
  go_enter Try.func53, Try.ntmps53
  go_wp2
  all_goals (go_ret; go_tidy; refine FR.mk0 ?_; simp_all [lesF])
theorem t50 (x : Nat) (w : World) : Calls Try.prog 50 #[.float .f64 x] w fun e w' => e = .returned (.bool (fin (ab x))) ∧ w' = w := by
  go_enter Try.func50, Try.ntmps50
  go_wp2_with (first | (go_at_call 46; refine (t46 _ _).mono ?_; rintro e w' ⟨rfl, rfl⟩) | (go_at_call 64; refine (t64 _ _).mono ?_; rintro e w' ⟨rfl, rfl⟩))
  all_goals (go_ret; go_tidy; simp_all [fin])
theorem eg52 (args : Array Value) (w : World) : (callFunc 52 args).run Try.prog w = .ok (.enter 52 args) w := enters Try.func52 (by kernel_rfl) (by kernel_rfl) _ _
theorem eg53 (args : Array Value) (w : World) : (callFunc 53 args).run Try.prog w = .ok (.enter 53 args) w := enters Try.func53 (by kernel_rfl) (by kernel_rfl) _ _
/-- A state's five numbers, all NaN being one. -/
structure S5 where
  x : Option Nat
  v : Option Nat
  a : Option Nat
  b : Option Nat
  c : Option Nat
/-- What a call leaves that hands back a state. -/
def SR (w : World) (s : S5) (e : Ending) (w' : World) : Prop := ∃ x v a b c, e = .returned (.agg #[.float .f64 x, .float .f64 v, .float .f64 a, .float .f64 b, .float .f64 c]) ∧ Hid (ab x = s.x ∧ ab v = s.v ∧ ab a = s.a ∧ ab b = s.b ∧ ab c = s.c) ∧ Hid (Up w w')
/-- .. bit by bit. -/
def SE (w : World) (x v a b c : Nat) (e : Ending) (w' : World) : Prop := e = .returned (.agg #[.float .f64 x, .float .f64 v, .float .f64 a, .float .f64 b, .float .f64 c]) ∧ Hid (Up w w')
theorem t25 (x n s : Nat) (w : World) : Calls Try.prog 25 #[.float .f64 x, .float .f64 n, .float .f64 s] w (SE w x 0 n 0 s) := by
  go_enter Try.func25, Try.ntmps25
  go_wp2
  exact bodyPost_ret (results_cell_row Try.results25 _ _ _ 27 #[.float .f64 x, .float .f64 0, .float .f64 n, .float .f64 0, .float .f64 s] (0, 0) _ rfl (heap_alloc_last _ _) Try.underlying27 rfl (by kernel_rfl)) rfl ⟨rfl, Up.alloc _ _⟩
/-- A state's cells, as they lie in memory. -/
structure BC (w : World) (g x v a b c : Nat) : Prop where
  c0 : w.cell? ⟨g, 0, none⟩ = some (.float .f64 x)
  c1 : w.cell? ⟨g, 1, none⟩ = some (.float .f64 v)
  c2 : w.cell? ⟨g, 2, none⟩ = some (.float .f64 a)
  c3 : w.cell? ⟨g, 3, none⟩ = some (.float .f64 b)
  c4 : w.cell? ⟨g, 4, none⟩ = some (.float .f64 c)
theorem up_cell {w w' : World} (h : Up w w') {b o : Nat} {v : Value} (hc : w.cell? ⟨b, o, none⟩ = some v) : w'.cell? ⟨b, o, none⟩ = some v := by
  have hb : b < w.heap.size := by
    unfold World.cell? at hc
    rcases Nat.lt_or_ge b w.heap.size with h | h
    · exact h
    · rw [Array.getElem?_eq_none h] at hc; simp at hc
  rw [← hc]
  unfold World.cell?
  rw [h.block _ hb]
theorem BC.up {w w' : World} {g x v a b c : Nat} (h : BC w g x v a b c) (hu : Up w w') : BC w' g x v a b c :=
  ⟨up_cell hu h.c0, up_cell hu h.c1, up_cell hu h.c2, up_cell hu h.c3, up_cell hu h.c4⟩
theorem BC.new (w : World) (x v a b c : Nat) : BC (w.alloc (.cells #[.float .f64 x, .float .f64 v, .float .f64 a, .float .f64 b, .float .f64 c] 27)) w.heap.size x v a b c := by
  have e := heap_alloc_last w (.cells #[.float .f64 x, .float .f64 v, .float .f64 a, .float .f64 b, .float .f64 c] 27)
  constructor <;> (unfold World.cell?; simp only [e]; rfl)
/-- The five cells of a block, each written. -/
theorem set5 {W : World} {g : Nat} {c : Array Value} {t : TypeId} (hg : W.heap[g]? = some (.cells c t)) (h5 : c.size = 5) (x0 x1 x2 x3 x4 : Value) :
    (((((W.setCell ⟨g, 0, none⟩ x0).setCell ⟨g, 1, none⟩ x1).setCell ⟨g, 2, none⟩ x2).setCell ⟨g, 3, none⟩ x3).setCell ⟨g, 4, none⟩ x4).heap[g]? = some (.cells #[x0, x1, x2, x3, x4] t) := by
  obtain ⟨l⟩ := c
  match l, h5 with
  | [a, b, c, d, e], _ =>
    have h0 := heap_setCell_same W g 0 _ t x0 hg
    have h1 := heap_setCell_same _ g 1 _ t x1 h0
    have h2 := heap_setCell_same _ g 2 _ t x2 h1
    have h3 := heap_setCell_same _ g 3 _ t x3 h2
    have h4 := heap_setCell_same _ g 4 _ t x4 h3
    rw [h4]; rfl
theorem up_set5 {w W : World} {g : Nat} (h : Up w W) (hg : w.heap.size ≤ g) (x0 x1 x2 x3 x4 : Value) :
    Up w (((((W.setCell ⟨g, 0, none⟩ x0).setCell ⟨g, 1, none⟩ x1).setCell ⟨g, 2, none⟩ x2).setCell ⟨g, 3, none⟩ x3).setCell ⟨g, 4, none⟩ x4) :=
  ((((Below.setCell h hg _).setCell hg _).setCell hg _).setCell hg _).setCell hg _
theorem alloc2_last (w : World) (o o' : Obj) : ((w.alloc o).alloc o').heap[w.heap.size + 1]? = some o' := by
  have := heap_alloc_last (w.alloc o) o'
  simpa using this
theorem Up.alloc2 (w : World) (o o' : Obj) : Up w ((w.alloc o).alloc o') := (Up.alloc w o).trans (Up.alloc _ _)
theorem Up.three (w : World) (o o' : Obj) (n : Nat) : Up w (((w.alloc o).alloc o').drewN n) := (Up.alloc2 w o o').trans (Up.drewN _ n)
theorem Up.cell {w W : World} (h : Up w W) {g : Nat} (hg : w.heap.size ≤ g) (k : Nat) (v : Value) : Up w (W.setCell ⟨g, k, none⟩ v) := Below.setCell h hg _
theorem Up.dr {w W : World} (h : Up w W) (n : Nat) : Up w (W.drewN n) := h.trans (Up.drewN _ n)
theorem Up.al {w W : World} (h : Up w W) (o : Obj) : Up w (W.alloc o) := h.trans (Up.alloc _ o)
theorem size2 (w : World) (o o' : Obj) : ((w.alloc o).alloc o').heap.size = w.heap.size + 2 := by simp
theorem two_block {w W : World} {o o' : Obj} (h : Up ((w.alloc o).alloc o') W) : W.heap[w.heap.size + 1]? = some o' := by
  rw [RowKit.Below.block h _ (by rw [size2]; omega)]
  exact alloc2_last w o o'
end Go.Proofs.Ytcgbmcnefolgcaa
