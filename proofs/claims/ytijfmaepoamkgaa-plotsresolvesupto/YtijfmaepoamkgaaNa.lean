/- One: what it answers; the program's, the reference's. -/
import Derived.Test.YtijfmaepoamkgaaPg
import Derived.Test.YtijfmaepoamkgaaLi
namespace Go.Proofs.Ytijfmaepoamkgaa
open Go.ChangeShapes Go.WideShapes Go.ChangeAt Go.RowKit Go.Fl Go.Sort
attribute [local go_sem] run_store_float call53 run_neg fold_eq fold_ne fold_lt fold_gt abs_eq

theorem t27 (x : Nat) (w : World) : Calls Try.prog 27 #[.float .f64 x] w fun e w' => e = .returned (.bool (fin (ab x))) ∧ w' = w := by
  go_enter Try.func27, Try.ntmps27
  go_wp2_with (first | (go_at_call 49; refine (t49 _ _).mono ?_; rintro e w' ⟨rfl, rfl⟩) | (go_at_call 50; refine (t50 _ _).mono ?_; rintro e w' ⟨rfl, rfl⟩))
  all_goals (go_ret; go_tidy; simp_all [fin, eqF_self])
/-- A plot's numbers, all NaN being one. -/
structure Pl5 where
  r : Option Nat
  s : Option Nat
  p : Option Nat
  b : Option Nat
  t : Option Nat
def Plt.ab (x : Plt) : Pl5 := ⟨Go.Fl.ab x.r, Go.Fl.ab x.s, Go.Fl.ab x.p, Go.Fl.ab x.b, Go.Fl.ab x.t⟩
/-- What One answers. -/
def oneF (c v r : Nat) (E R : Int) (bi ga po tm : Nat) : Pl5 × Int :=
  if Gt.checkF (ab c) (ab v) (ab r) E R ≠ 0 then (Plt.zero.ab, Gt.checkF (ab c) (ab v) (ab r) E R)
  else if (fin (ab bi) && fin (ab ga) && fin (ab po) && fin (ab tm)) = false then (Plt.zero.ab, 6)
  else if (Gt.speedF (ab c) (ab v) (ab r) E R (ab bi)).2 ≠ 0 then (Plt.zero.ab, (Gt.speedF (ab c) (ab v) (ab r) E R (ab bi)).2)
  else (⟨bin .mul (bin .add (ab ga) (ab 4602678819172646912)) (ab c), (Gt.speedF (ab c) (ab v) (ab r) E R (ab bi)).1, ab po, ab 0, ab tm⟩, 0)
/-- What a call of One leaves. -/
def OneR (w : World) (a : Pl5 × Int) (e : Ending) (w' : World) : Prop := ∃ x : Plt, e = .returned (.tuple #[.agg (pC x), .int .i64 a.2]) ∧ Hid (x.ab = a.1) ∧ Hid (Up w w')
theorem results_plot {fn : Func} {p u : Tmp} (h : fn.results = #[.cell p 28, .tmp u]) (tmps : Array Value) (w : World) (g : Nat) (c0 c1 c2 c3 c4 : Value) (hp : tmps.getD p undef = .pointer (some ⟨g, 0, none⟩)) (hg : Bk w g 28 c0 c1 c2 c3 c4) :
    (results fn tmps).run Try.prog w = .ok (.tuple #[.agg #[c0, c1, c2, c3, c4], tmps.getD u undef]) w := by
  have hp' : tmps[p]?.getD undef = .pointer (some ⟨g, 0, none⟩) := by simpa using hp
  have hl := run_loadVar_row w g 28 28 #[c0, c1, c2, c3, c4] (0, 0) _ hg Try.underlying28 rfl (by kernel_rfl)
  simp [results, h, hp', asAddr, hl]
theorem run_index4 (w : World) (x y z t : Nat) (c : Nat) (hc : c < 4) : (Instr.index 57 (.agg #[.float .f64 x, .float .f64 y, .float .f64 z, .float .f64 t]) (.int .i64 c)).run Try.prog w = .ok (.float .f64 (if c = 0 then x else if c = 1 then y else if c = 2 then z else t)) w := by
  rcases (show c = 0 ∨ c = 1 ∨ c = 2 ∨ c = 3 by omega) with rfl | rfl | rfl | rfl <;> kernel_rfl
theorem wpList_index4 {ops : Array Oper} {rest : List Oper} {o : Oper} {a : Act} {Q : Exit → Act → World → Prop} {w : World} {x y z t : Nat} (c v : Nat) (hv : (if c = 0 then x else if c = 1 then y else if c = 2 then z else t) = v) (hgd : o.guard = none) (s i : Operand)
    (hop : o.op = Op.index 57 s i) (hs : a.eval s = .agg #[.float .f64 x, .float .f64 y, .float .f64 z, .float .f64 t]) (hx : a.eval i = .int .i64 c) (hc : c < 4)
    (hK : wpList Try.prog ops Q rest (a.put o.dst (.float .f64 v)) w) : wpList Try.prog ops Q (o :: rest) a w := by
  refine wpList_plain hgd fun K hK' => ?_
  unfold Oper.wp
  simp only [execOp, hop, hs, hx]
  have e := run_index4 w x y z t c hc
  rw [hv] at e
  simp [e, Result.andThen]
  exact hK' _ _ hK
/-- A beat in memory, a middle, and where the answer comes. -/
structure On (w : World) (x : Nat) (c v r : Nat) (E R : Int) (bi ga po : Nat) (sp : Int) (W : World) : Prop where
  up : Up w W
  bt : Bk W x 24 (.float .f64 c) (.float .f64 v) (.float .f64 r) (.int .i64 E) (.int .i64 R)
  g0 : W.cell? ⟨x + 1, 0, none⟩ = some (.float .f64 bi)
  g1 : W.cell? ⟨x + 1, 1, none⟩ = some (.float .f64 ga)
  g2 : W.cell? ⟨x + 1, 2, none⟩ = some (.float .f64 po)
  ans : Bk W (x + 1 + 1) 28 (.float .f64 0) (.float .f64 0) (.float .f64 0) (.float .f64 0) (.float .f64 0)
theorem On.upon {w : World} {x c v r : Nat} {E R : Int} {bi ga po : Nat} {sp : Int} {W W2 : World} (h : On w x c v r E R bi ga po sp W) (hu : Up W W2) : On w x c v r E R bi ga po sp W2 := ⟨h.up.trans hu, h.bt.up hu, cell_up h.g0 hu, cell_up h.g1 hu, cell_up h.g2 hu, h.ans.up hu⟩
def onW (w : World) (c v r : Nat) (E R : Int) (bi ga po : Nat) (sp : Int) : World := ((w.alloc (.cells #[.float .f64 c, .float .f64 v, .float .f64 r, .int .i64 E, .int .i64 R] 24)).alloc (.cells #[.float .f64 bi, .float .f64 ga, .float .f64 po, .int .i64 sp] 26)).alloc (.cells #[.float .f64 0, .float .f64 0, .float .f64 0, .float .f64 0, .float .f64 0] 28)
theorem on_new (w : World) (c v r : Nat) (E R : Int) (bi ga po : Nat) (sp : Int) : On w w.heap.size c v r E R bi ga po sp (onW w c v r E R bi ga po sp) := by
  have e1 : (w.alloc (.cells #[.float .f64 c, .float .f64 v, .float .f64 r, .int .i64 E, .int .i64 R] 24)).heap.size = w.heap.size + 1 := by simp
  have e2 : ((w.alloc (.cells #[.float .f64 c, .float .f64 v, .float .f64 r, .int .i64 E, .int .i64 R] 24)).alloc (.cells #[.float .f64 bi, .float .f64 ga, .float .f64 po, .int .i64 sp] 26)).heap.size = w.heap.size + 1 + 1 := by simp
  have k : ∀ j u, #[Value.float .f64 bi, .float .f64 ga, .float .f64 po, .int .i64 sp][j]? = some u → (onW w c v r E R bi ga po sp).cell? ⟨w.heap.size + 1, j, none⟩ = some u := fun j u hu => by
    have : ((w.alloc (.cells #[.float .f64 c, .float .f64 v, .float .f64 r, .int .i64 E, .int .i64 R] 24)).alloc (.cells #[.float .f64 bi, .float .f64 ga, .float .f64 po, .int .i64 sp] 26)).cell? ⟨(w.alloc (.cells #[.float .f64 c, .float .f64 v, .float .f64 r, .int .i64 E, .int .i64 R] 24)).heap.size, j, none⟩ = some u := (World.cell?_alloc_at _ _ _ _ rfl).trans hu
    rw [e1] at this
    exact cell_up this (Up.alloc _ _)
  refine ⟨((Up.alloc _ _).trans (Up.alloc _ _)).trans (Up.alloc _ _), (Bk.new _ _ _ _ _ _ _).up ((Up.alloc _ _).trans (Up.alloc _ _)), k 0 _ rfl, k 1 _ rfl, k 2 _ rfl, ?_⟩
  have := Bk.new ((w.alloc (.cells #[.float .f64 c, .float .f64 v, .float .f64 r, .int .i64 E, .int .i64 R] 24)).alloc (.cells #[.float .f64 bi, .float .f64 ga, .float .f64 po, .int .i64 sp] 26)) 28 (.float .f64 0) (.float .f64 0) (.float .f64 0) (.float .f64 0) (.float .f64 0)
  rw [e2] at this
  exact this
end Go.Proofs.Ytijfmaepoamkgaa
