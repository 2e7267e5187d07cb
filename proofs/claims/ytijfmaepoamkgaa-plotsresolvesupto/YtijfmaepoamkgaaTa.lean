/- Plots that are alike; PlotsOne. -/
import Derived.Test.YtijfmaepoamkgaaSa
namespace Go.Proofs.Ytijfmaepoamkgaa
open Go.ChangeShapes Go.WideShapes Go.ChangeAt Go.RowKit Go.Fl Go.Sort
attribute [local go_sem] run_store_float call53 run_neg fold_eq fold_ne fold_lt fold_gt abs_eq

theorem same32 {x y : Nat} (h : ab x = ab y) (w : World) : Calls Try.prog 32 #[.float .f64 x, .float .f64 y] w fun e w' => e = .returned (.bool true) ∧ w' = w :=
  (t32 x y w).mono fun _ _ ⟨h1, h2⟩ => ⟨by rw [h1, h]; simp, h2⟩
set_option maxRecDepth 20000 in
theorem t11 {x y : Plt} (h : x.ab = y.ab) (w : World) : Calls Try.prog 11 #[.agg (pC x), .agg (pC y)] w fun e w' => e = .returned (.bool true) ∧ Hid (Up w w') := by
  have e := h
  unfold Plt.ab at e
  simp only [Pl5.mk.injEq] at e
  obtain ⟨e1, e2, e3, e4, e5⟩ := e
  have D1 : Hid (∀ w, Calls Try.prog 32 #[.float .f64 x.r, .float .f64 y.r] w fun e w' => e = .returned (.bool true) ∧ w' = w) := same32 e1
  have D2 : Hid (∀ w, Calls Try.prog 32 #[.float .f64 x.s, .float .f64 y.s] w fun e w' => e = .returned (.bool true) ∧ w' = w) := same32 e2
  have D3 : Hid (∀ w, Calls Try.prog 32 #[.float .f64 x.p, .float .f64 y.p] w fun e w' => e = .returned (.bool true) ∧ w' = w) := same32 e3
  have D4 : Hid (∀ w, Calls Try.prog 32 #[.float .f64 x.b, .float .f64 y.b] w fun e w' => e = .returned (.bool true) ∧ w' = w) := same32 e4
  have D5 : Hid (∀ w, Calls Try.prog 32 #[.float .f64 x.t, .float .f64 y.t] w fun e w' => e = .returned (.bool true) ∧ w' = w) := same32 e5
  have HX := (Bk.new w 28 (.float .f64 x.r) (.float .f64 x.s) (.float .f64 x.p) (.float .f64 x.b) (.float .f64 x.t)).up (Up.alloc _ (.cells #[.float .f64 y.r, .float .f64 y.s, .float .f64 y.p, .float .f64 y.b, .float .f64 y.t] 28))
  have HY := Bk.new (w.alloc (.cells #[.float .f64 x.r, .float .f64 x.s, .float .f64 x.p, .float .f64 x.b, .float .f64 x.t] 28)) 28 (.float .f64 y.r) (.float .f64 y.s) (.float .f64 y.p) (.float .f64 y.b) (.float .f64 y.t)
  rw [show (w.alloc (.cells #[.float .f64 x.r, .float .f64 x.s, .float .f64 x.p, .float .f64 x.b, .float .f64 x.t] 28)).heap.size = w.heap.size + 1 by simp] at HY
  obtain ⟨a0, a1, a2, a3, a4⟩ := HX.cells
  obtain ⟨b0, b1, b2, b3, b4⟩ := HY.cells
  clear h e1 e2 e3 e4 e5 HX HY
  unfold pC
  go_enter Try.func11, Try.ntmps11
  go_wp2_with (first
    | (go_at_call 32; (with_reducible refine (D1.out _).mono ?_); rintro e w' ⟨rfl, hw⟩; subst w')
    | (go_at_call 32; (with_reducible refine (D2.out _).mono ?_); rintro e w' ⟨rfl, hw⟩; subst w')
    | (go_at_call 32; (with_reducible refine (D3.out _).mono ?_); rintro e w' ⟨rfl, hw⟩; subst w')
    | (go_at_call 32; (with_reducible refine (D4.out _).mono ?_); rintro e w' ⟨rfl, hw⟩; subst w')
    | (go_at_call 32; (with_reducible refine (D5.out _).mono ?_); rintro e w' ⟨rfl, hw⟩; subst w'))
  go_ret
  exact ⟨rfl, (Up.alloc _ _).trans (Up.alloc _ _)⟩
/-- A beat and a middle in memory. -/
structure BM (W : World) (x : Nat) (c v r : Nat) (E R : Int) (bi ga po : Nat) (sp : Int) : Prop where
  b0 : W.cell? ⟨x, 0, none⟩ = some (.float .f64 c)
  b1 : W.cell? ⟨x, 1, none⟩ = some (.float .f64 v)
  b2 : W.cell? ⟨x, 2, none⟩ = some (.float .f64 r)
  b3 : W.cell? ⟨x, 3, none⟩ = some (.int .i64 E)
  b4 : W.cell? ⟨x, 4, none⟩ = some (.int .i64 R)
  m0 : W.cell? ⟨x + 1, 0, none⟩ = some (.float .f64 bi)
  m1 : W.cell? ⟨x + 1, 1, none⟩ = some (.float .f64 ga)
  m2 : W.cell? ⟨x + 1, 2, none⟩ = some (.float .f64 po)
  m3 : W.cell? ⟨x + 1, 3, none⟩ = some (.int .i64 sp)
theorem BM.up {W W' : World} {x c v r : Nat} {E R : Int} {bi ga po : Nat} {sp : Int} (h : BM W x c v r E R bi ga po sp) (hu : Up W W') : BM W' x c v r E R bi ga po sp := ⟨cell_up h.b0 hu, cell_up h.b1 hu, cell_up h.b2 hu, cell_up h.b3 hu, cell_up h.b4 hu, cell_up h.m0 hu, cell_up h.m1 hu, cell_up h.m2 hu, cell_up h.m3 hu⟩
theorem BM.new (w : World) (c v r : Nat) (E R : Int) (bi ga po : Nat) (sp : Int) : BM ((w.alloc (.cells #[.float .f64 c, .float .f64 v, .float .f64 r, .int .i64 E, .int .i64 R] 24)).alloc (.cells #[.float .f64 bi, .float .f64 ga, .float .f64 po, .int .i64 sp] 26)) w.heap.size c v r E R bi ga po sp := by
  have e1 : (w.alloc (.cells #[.float .f64 c, .float .f64 v, .float .f64 r, .int .i64 E, .int .i64 R] 24)).heap.size = w.heap.size + 1 := by simp
  have k : ∀ j u, #[Value.float .f64 bi, .float .f64 ga, .float .f64 po, .int .i64 sp][j]? = some u → ((w.alloc (.cells #[.float .f64 c, .float .f64 v, .float .f64 r, .int .i64 E, .int .i64 R] 24)).alloc (.cells #[.float .f64 bi, .float .f64 ga, .float .f64 po, .int .i64 sp] 26)).cell? ⟨w.heap.size + 1, j, none⟩ = some u := fun j u hu => by
    have : ((w.alloc (.cells #[.float .f64 c, .float .f64 v, .float .f64 r, .int .i64 E, .int .i64 R] 24)).alloc (.cells #[.float .f64 bi, .float .f64 ga, .float .f64 po, .int .i64 sp] 26)).cell? ⟨(w.alloc (.cells #[.float .f64 c, .float .f64 v, .float .f64 r, .int .i64 E, .int .i64 R] 24)).heap.size, j, none⟩ = some u := (World.cell?_alloc_at _ _ _ _ rfl).trans hu
    rwa [e1] at this
  obtain ⟨k0, k1, k2, k3, k4⟩ := ((Bk.new w 24 (.float .f64 c) (.float .f64 v) (.float .f64 r) (.int .i64 E) (.int .i64 R)).up (Up.alloc _ (.cells #[.float .f64 bi, .float .f64 ga, .float .f64 po, .int .i64 sp] 26))).cells
  exact ⟨k0, k1, k2, k3, k4, k 0 _ rfl, k 1 _ rfl, k 2 _ rfl, k 3 _ rfl⟩
theorem int_same (a : Int) : (a == a) = true := by simp
set_option maxRecDepth 20000 in
set_option maxHeartbeats 2000000 in
theorem t3 (c v r : Nat) (E R : Int) (bi ga po : Nat) (sp : Int) (tm : Nat) (w : World) : Calls Try.prog 3 #[.agg #[.float .f64 c, .float .f64 v, .float .f64 r, .int .i64 E, .int .i64 R], .agg #[.float .f64 bi, .float .f64 ga, .float .f64 po, .int .i64 sp], .float .f64 tm] w fun e w' => e = .returned (.bool true) ∧ Hid (Up w w') := by
  have C9 : Hid (∀ w, Calls Try.prog 9 #[.agg #[.float .f64 c, .float .f64 v, .float .f64 r, .int .i64 E, .int .i64 R], .agg #[.float .f64 bi, .float .f64 ga, .float .f64 po, .int .i64 sp], .float .f64 tm] w fun e w' => ∃ x : Plt, e = .returned (.tuple #[.agg #[.float .f64 x.r, .float .f64 x.s, .float .f64 x.p, .float .f64 x.b, .float .f64 x.t], .int .i64 (oneF c v r E R bi ga po tm).2]) ∧ Hid (x.ab = (oneF c v r E R bi ga po tm).1) ∧ Hid (Up w w')) := fun w => t9 c v r E R bi ga po sp tm w
  have C10 : Hid (∀ w, Calls Try.prog 10 #[.agg #[.float .f64 c, .float .f64 v, .float .f64 r, .int .i64 E, .int .i64 R], .agg #[.float .f64 bi, .float .f64 ga, .float .f64 po, .int .i64 sp], .float .f64 tm] w fun e w' => ∃ x : Plt, e = .returned (.tuple #[.agg #[.float .f64 x.r, .float .f64 x.s, .float .f64 x.p, .float .f64 x.b, .float .f64 x.t], .int .i64 (oneF c v r E R bi ga po tm).2]) ∧ Hid (x.ab = (oneF c v r E R bi ga po tm).1) ∧ Hid (Up w w')) := fun w => t10 c v r E R bi ga po sp tm w
  generalize (oneF c v r E R bi ga po tm).1 = A1 at *
  generalize (oneF c v r E R bi ga po tm).2 = A2 at *
  have HN : Hid (BM ((w.alloc (.cells #[.float .f64 c, .float .f64 v, .float .f64 r, .int .i64 E, .int .i64 R] 24)).alloc (.cells #[.float .f64 bi, .float .f64 ga, .float .f64 po, .int .i64 sp] 26)) w.heap.size c v r E R bi ga po sp) := BM.new w c v r E R bi ga po sp
  have HU0 : Hid (Up w ((w.alloc (.cells #[.float .f64 c, .float .f64 v, .float .f64 r, .int .i64 E, .int .i64 R] 24)).alloc (.cells #[.float .f64 bi, .float .f64 ga, .float .f64 po, .int .i64 sp] 26))) := (Up.alloc _ _).trans (Up.alloc _ _)
  go_enter Try.func3, Try.ntmps3
  go_wp2_with (first
    | (go_at_call 9; (with_reducible refine (C9.out _).mono ?_); rintro e w1 ⟨x, rfl, HX1, HU1⟩; (obtain ⟨d0, d1, d2, d3, d4, d5, d6, d7, d8⟩ := HN.out.up (HU1.out.trans (Up.alloc w1 (.cells #[.float .f64 x.r, .float .f64 x.s, .float .f64 x.p, .float .f64 x.b, .float .f64 x.t] 28)))); (have HB1 : Hid (Bk (w1.alloc (.cells #[.float .f64 x.r, .float .f64 x.s, .float .f64 x.p, .float .f64 x.b, .float .f64 x.t] 28)) w1.heap.size 28 (.float .f64 x.r) (.float .f64 x.s) (.float .f64 x.p) (.float .f64 x.b) (.float .f64 x.t)) := Bk.new _ _ _ _ _ _ _); (have HU01 : Hid (Up w (w1.alloc (.cells #[.float .f64 x.r, .float .f64 x.s, .float .f64 x.p, .float .f64 x.b, .float .f64 x.t] 28))) := HU0.out.trans (HU1.out.trans (Up.alloc _ _))))
    | (go_at_call 10; (with_reducible refine (C10.out _).mono ?_); rintro e w2 ⟨y, rfl, HX2, HU2⟩; (obtain ⟨f0, f1, f2, f3, f4⟩ := (HB1.out.up (HU2.out.trans (Up.alloc w2 (.cells #[.float .f64 y.r, .float .f64 y.s, .float .f64 y.p, .float .f64 y.b, .float .f64 y.t] 28)))).cells); (have C11 : Hid (∀ w, Calls Try.prog 11 #[.agg #[.float .f64 x.r, .float .f64 x.s, .float .f64 x.p, .float .f64 x.b, .float .f64 x.t], .agg #[.float .f64 y.r, .float .f64 y.s, .float .f64 y.p, .float .f64 y.b, .float .f64 y.t]] w fun e w' => e = .returned (.bool true) ∧ Hid (Up w w')) := fun w => t11 (HX1.out.trans HX2.out.symm) w); (have HU02 : Hid (Up w (w2.alloc (.cells #[.float .f64 y.r, .float .f64 y.s, .float .f64 y.p, .float .f64 y.b, .float .f64 y.t] 28))) := HU01.out.trans (HU2.out.trans (Up.alloc _ _))))
    | (go_at_call 11; (with_reducible refine (C11.out _).mono ?_); rintro e w3 ⟨rfl, HU3⟩)
    | (go_at_call 12; (with_reducible refine (t12 _).mono ?_); rintro e w4 ⟨rfl, HU4⟩))
  go_ret
  exact ⟨rfl, HU02.out.trans (HU3.out.trans HU4.out)⟩
end Go.Proofs.Ytijfmaepoamkgaa
