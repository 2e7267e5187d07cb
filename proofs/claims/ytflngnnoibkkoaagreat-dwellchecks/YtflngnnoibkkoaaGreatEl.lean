/- Dwell: one spot, one plot. -/
import Derived.Test.YtflngnnoibkkoaaGreatEj
import Derived.Test.YtflngnnoibkkoaaGreatKSg
import Derived.Test.YtflngnnoibkkoaaGreatJLd
import Derived.Test.YtflngnnoibkkoaaGreatJPh
import Derived.StillTail
import Derived.Test.YtflngnnoibkkoaaGreatEd
import Derived.Test.YtflngnnoibkkoaaGreatBb
namespace Go.Proofs.YtflngnnoibkkoaaGreat
open Go.ChangeShapes Go.WideShapes Go.ChangeAt Go.RowKit Go.Fl Ieee
set_option maxRecDepth 200000
set_option maxHeartbeats 8000000
attribute [local go_sem] run_store_float run_store_complex run_store_fn call34 call33 run_neg fold_eq fold_ne fold_lt fold_gt abs_eq

abbrev spK : Array (Int × Int × Nat) := #[(0, 5, 4643211215818981376)]
/-- The one spot, as a list that can be read. -/
abbrev OneS (w : World) (p : Option Addr) (c : Nat) : Prop := Pk.SpV w p 1 c spK
theorem ck_grp : (Pk.grpN 4 (Pk.cntF (Pk.keptN spK 4 1)) (Pk.cntF (Pk.keptN spK 4 1)).length).1 = [[(0, 5, 4643211215818981376)]] := by decide +kernel
theorem k120 {w : World} {p : Option Addr} {c : Nat} (h : OneS w p c) : Calls Tryz.prog 120 #[.slice p 1 c, .int .i64 4] w (Pk.GL w [[(0, 5, 4643211215818981376)]]) :=
  (Pk.t15 (bins := 4) (fun m hm => Pk.sorts_few (by omega)) h (by decide)).mono fun e w' hR => by
    rw [ck_grp] at hR
    exact Pk.GRes.gl hR (by decide)
theorem ck_cen : Pk.centF spK 1 4 = (some 0, some 4617315517961601024, some 4643211215818981376) := by decide +kernel
theorem k122 {w : World} {p : Option Addr} {c : Nat} (h : OneS w p c) : Calls Tryz.prog 122 #[.slice p 1 c, .int .i64 4] w (fun e w' => e = .returned (.agg #[.float .f64 0, .float .f64 4617315517961601024, .float .f64 4643211215818981376, .int .i64 1]) ∧ Hid (Up w w')) :=
  (Pk.t18 4 h).mono fun e w' hR => by
    obtain ⟨x, y, z, rfl, hx, hu⟩ := hR
    obtain ⟨h1, h2, h3⟩ := hx.out
    rw [ck_cen] at h1 h2 h3
    obtain rfl := of_ab h1
    obtain rfl := of_ab h2
    obtain rfl := of_ab h3
    exact ⟨rfl, hu⟩
theorem k121 {tm : Nat} (ht : ab tm = some tm) (hf : fin (ab tm) = true) (w : World) : Calls Tryz.prog 121 #[.agg #[.float .f64 4621819117588971520, .float .f64 4602678819172646912, .float .f64 4652007308841189376, .int .i64 16, .int .i64 4], .agg #[.float .f64 0, .float .f64 4617315517961601024, .float .f64 4643211215818981376, .int .i64 1], .float .f64 tm] w (fun e w' => e = .returned (.tuple #[.agg #[.float .f64 4632937379169042432, .float .f64 9223372036854775808, .float .f64 4643211215818981376, .float .f64 0, .float .f64 tm], .int .i64 0]) ∧ Hid (Up w w')) :=
  (Pl.t121 4621819117588971520 4602678819172646912 4652007308841189376 16 4 0 4617315517961601024 4643211215818981376 1 tm w).mono fun e w' hR => by
    obtain ⟨x, rfl, hx, hu⟩ := hR
    have e1 : Pl.oneF 4621819117588971520 4602678819172646912 4652007308841189376 16 4 0 4617315517961601024 4643211215818981376 tm = (⟨some 4632937379169042432, some 9223372036854775808, some 4643211215818981376, some 0, ab tm⟩, 0) := by
      unfold Pl.oneF
      rw [if_neg (by decide +kernel), hf, if_neg (by decide +kernel), if_neg (by decide +kernel)]
      have a1 : bin .mul (bin .add (ab 4617315517961601024) (ab 4602678819172646912)) (ab 4621819117588971520) = some 4632937379169042432 := by decide +kernel
      have a2 : (Pl.Gt.speedF (ab 4621819117588971520) (ab 4602678819172646912) (ab 4652007308841189376) 16 4 (ab 0)).1 = some 9223372036854775808 := by decide +kernel
      have a3 : ab 4643211215818981376 = some 4643211215818981376 := by decide +kernel
      rw [a1, a2, a3]
      rfl
    rw [e1] at hx
    have hx' := hx.out
    obtain ⟨xr, xs, xp, xb, xt⟩ := x
    simp only [Pl.Plt.ab, Pl.Pl5.mk.injEq] at hx'
    obtain ⟨h1, h2, h3, h4, h5⟩ := hx'
    obtain rfl := of_ab h1
    obtain rfl := of_ab h2
    obtain rfl := of_ab h3
    obtain rfl := of_ab h4
    obtain rfl := of_ab (h5.trans ht)
    rw [e1]
    exact ⟨rfl, hu⟩
theorem t77 (c v r : Nat) (E R cd win can way gu tr nth : Int) (ti no : Nat) (w : World) (hR : 1 ≤ R ∧ R ≤ 256) (hc : can = 0) : Calls Tryz.prog 77 #[.agg #[.float .f64 c, .float .f64 v, .float .f64 r, .int .i64 E, .int .i64 R, .int .i64 cd, .int .i8 win, .int .i64 can, .int .i8 way, .int .i64 gu, .int .i64 tr, .int .i64 nth, .float .f64 ti, .float .f64 no]] w (fun e w' => e = .returned (.agg #[.float .f64 c, .float .f64 v, .float .f64 r, .int .i64 E, .int .i64 R]) ∧ Hid (Up w w')) := by
  subst hc
  obtain ⟨r1, r2⟩ := hR
  go_enter Tryz.func77, Tryz.ntmps77
  go_wp2
  refine bodyPost_ret (results_cell_row Tryz.results77 _ _ (w.heap.size + 1) 24 #[.float .f64 c, .float .f64 v, .float .f64 r, .int .i64 E, .int .i64 R] (0, 0) _ rfl ?_ Tryz.underlying24 rfl (by kernel_rfl)) rfl ⟨rfl, ((Up.alloc _ _).trans (Up.alloc _ _)).trans (Up.alloc _ _)⟩
  have h1 := heap_last (w.alloc (.cells #[.float .f64 c, .float .f64 v, .float .f64 r, .int .i64 E, .int .i64 R, .int .i64 cd, .int .i8 win, .int .i64 0, .int .i8 way, .int .i64 gu, .int .i64 tr, .int .i64 nth, .float .f64 ti, .float .f64 no] 27)) (.cells #[.float .f64 c, .float .f64 v, .float .f64 r, .int .i64 E, .int .i64 R] 24)
  rw [show (w.alloc (.cells #[.float .f64 c, .float .f64 v, .float .f64 r, .int .i64 E, .int .i64 R, .int .i64 cd, .int .i8 win, .int .i64 0, .int .i8 way, .int .i64 gu, .int .i64 tr, .int .i64 nth, .float .f64 ti, .float .f64 no] 27)).heap.size = w.heap.size + 1 by simp] at h1
  refine Eq.trans ?_ h1
  have hu := Up.alloc ((w.alloc (.cells #[.float .f64 c, .float .f64 v, .float .f64 r, .int .i64 E, .int .i64 R, .int .i64 cd, .int .i8 win, .int .i64 0, .int .i8 way, .int .i64 gu, .int .i64 tr, .int .i64 nth, .float .f64 ti, .float .f64 no] 27)).alloc (.cells #[.float .f64 c, .float .f64 v, .float .f64 r, .int .i64 E, .int .i64 R] 24)) (.cells #[.float .f64 c, .float .f64 v, .float .f64 r, .int .i64 E, .int .i64 R] 24)
  exact hu.block _ (by simp)
theorem row_cell {w : World} {g : Nat} {cs : Array Value} {t : TypeId} (h : w.heap[g]? = some (.cells cs t (0, 0))) (k : Nat) : w.cell? ⟨g, k, none⟩ = cs[k]? ∧ w.frozen? ⟨g, k, none⟩ = false := by
  constructor
  · simp only [World.cell?, h]; rfl
  · simp [World.frozen?, h]
theorem cell_ne {w : World} {g i j : Nat} {x y : Value} (h : w.cell? ⟨g, i, none⟩ = some x) (hn : i ≠ j) : (w.setCell ⟨g, j, none⟩ y).cell? ⟨g, i, none⟩ = some x := by
  rw [World.cell?_setCell_other _ _ _ _ (by intro e; injection e with e1 e2; exact hn e2.symm)]
  exact h
/-- A new block of five zeros. -/
structure Zr (V : World) (b : Nat) : Prop where
  c0 : V.cell? ⟨b, 0, none⟩ = some (.float .f64 0)
  c1 : V.cell? ⟨b, 1, none⟩ = some (.float .f64 0)
  c2 : V.cell? ⟨b, 2, none⟩ = some (.float .f64 0)
  c3 : V.cell? ⟨b, 3, none⟩ = some (.float .f64 0)
  c4 : V.cell? ⟨b, 4, none⟩ = some (.float .f64 0)
  f0 : V.frozen? ⟨b, 0, none⟩ = false
  f1 : V.frozen? ⟨b, 1, none⟩ = false
  f2 : V.frozen? ⟨b, 2, none⟩ = false
  f3 : V.frozen? ⟨b, 3, none⟩ = false
  f4 : V.frozen? ⟨b, 4, none⟩ = false
theorem Zr.new (V : World) : Zr (V.alloc (.cells #[.float .f64 0, .float .f64 0, .float .f64 0, .float .f64 0, .float .f64 0] 64)) V.heap.size := by
  have h := heap_last V (.cells #[.float .f64 0, .float .f64 0, .float .f64 0, .float .f64 0, .float .f64 0] 64)
  exact ⟨(row_cell h 0).1, (row_cell h 1).1, (row_cell h 2).1, (row_cell h 3).1, (row_cell h 4).1, (row_cell h 0).2, (row_cell h 1).2, (row_cell h 2).2, (row_cell h 3).2, (row_cell h 4).2⟩
theorem Zr.up {V V' : World} {b : Nat} (h : Zr V b) (hu : Up V V') : Zr V' b := by
  have hb := World.block_lt_of_cell? V _ h.c0
  have f : ∀ k, V.frozen? ⟨b, k, none⟩ = false → V'.frozen? ⟨b, k, none⟩ = false := fun k hk => (World.frozen?_of_block (hu.block b hb)).trans hk
  exact ⟨cell_up h.c0 hu, cell_up h.c1 hu, cell_up h.c2 hu, cell_up h.c3 hu, cell_up h.c4 hu, f _ h.f0, f _ h.f1, f _ h.f2, f _ h.f3, f _ h.f4⟩
structure Zw (W V : World) (b : Nat) : Prop where
  z : Zr V b
  le : W.heap.size ≤ b
  up : Up W V
theorem Zw.new {W V : World} (h : Up W V) : Zw W (V.alloc (.cells #[.float .f64 0, .float .f64 0, .float .f64 0, .float .f64 0, .float .f64 0] 64)) V.heap.size := ⟨Zr.new V, h.size, h.trans (Up.alloc _ _)⟩
theorem Zw.next {W V V' : World} {b : Nat} (h : Zw W V b) (hu : Up V V') : Zw W V' b := ⟨h.z.up hu, h.le, h.up.trans hu⟩
theorem Zw.new2 {W V V' : World} (h : Up W V) (hu : Up (V.alloc (.cells #[.float .f64 0, .float .f64 0, .float .f64 0, .float .f64 0, .float .f64 0] 64)) V') : Hid (Zw W V' V.heap.size) := (Zw.new h).next hu
theorem Zw.new4 {W V' : World} (hu : Up (W.alloc (.cells #[.float .f64 0, .float .f64 0, .float .f64 0, .float .f64 0, .float .f64 0] 64)).drew V') : Hid (Zw W V' W.heap.size) := ((Zw.new (Up.refl W)).next (Up.drew _)).next hu
theorem Zw.nx {W V V' : World} {b : Nat} (h : Hid (Zw W V b)) (hu : Up V V') : Hid (Zw W V' b) := Zw.next h.out hu
theorem kB6 {W w1 w2 : World} {g : Nat} {x0 x1 x2 x3 x4 : Value} (h : Hid (Up W w1) ∧ w1.cell? ⟨g, 0, none⟩ = some x0 ∧ w1.cell? ⟨g, 1, none⟩ = some x1 ∧ w1.cell? ⟨g, 2, none⟩ = some x2 ∧ w1.cell? ⟨g, 3, none⟩ = some x3 ∧ w1.cell? ⟨g, 4, none⟩ = some x4) (hu : Up w1 w2) : Hid (Up W w2) ∧ w2.cell? ⟨g, 0, none⟩ = some x0 ∧ w2.cell? ⟨g, 1, none⟩ = some x1 ∧ w2.cell? ⟨g, 2, none⟩ = some x2 ∧ w2.cell? ⟨g, 3, none⟩ = some x3 ∧ w2.cell? ⟨g, 4, none⟩ = some x4 :=
  ⟨h.1.out.trans hu, cell_up h.2.1 hu, cell_up h.2.2.1 hu, cell_up h.2.2.2.1 hu, cell_up h.2.2.2.2.1 hu, cell_up h.2.2.2.2.2 hu⟩
theorem kB7 {W V : World} {g b : Nat} {x0 x1 x2 x3 x4 y0 y1 y2 y3 y4 : Value} (hz : Zw W V b) (hg : g < W.heap.size) (h : Hid (Up W V) ∧ (V).cell? ⟨g, 0, none⟩ = some x0 ∧ (V).cell? ⟨g, 1, none⟩ = some x1 ∧ (V).cell? ⟨g, 2, none⟩ = some x2 ∧ (V).cell? ⟨g, 3, none⟩ = some x3 ∧ (V).cell? ⟨g, 4, none⟩ = some x4) : Hid (Up W (((((V.setCell ⟨b, 0, none⟩ y0).setCell ⟨b, 1, none⟩ y1).setCell ⟨b, 2, none⟩ y2).setCell ⟨b, 3, none⟩ y3).setCell ⟨b, 4, none⟩ y4)) ∧ ((((((V.setCell ⟨b, 0, none⟩ y0).setCell ⟨b, 1, none⟩ y1).setCell ⟨b, 2, none⟩ y2).setCell ⟨b, 3, none⟩ y3).setCell ⟨b, 4, none⟩ y4)).cell? ⟨g, 0, none⟩ = some x0 ∧ ((((((V.setCell ⟨b, 0, none⟩ y0).setCell ⟨b, 1, none⟩ y1).setCell ⟨b, 2, none⟩ y2).setCell ⟨b, 3, none⟩ y3).setCell ⟨b, 4, none⟩ y4)).cell? ⟨g, 1, none⟩ = some x1 ∧ ((((((V.setCell ⟨b, 0, none⟩ y0).setCell ⟨b, 1, none⟩ y1).setCell ⟨b, 2, none⟩ y2).setCell ⟨b, 3, none⟩ y3).setCell ⟨b, 4, none⟩ y4)).cell? ⟨g, 2, none⟩ = some x2 ∧ ((((((V.setCell ⟨b, 0, none⟩ y0).setCell ⟨b, 1, none⟩ y1).setCell ⟨b, 2, none⟩ y2).setCell ⟨b, 3, none⟩ y3).setCell ⟨b, 4, none⟩ y4)).cell? ⟨g, 3, none⟩ = some x3 ∧ ((((((V.setCell ⟨b, 0, none⟩ y0).setCell ⟨b, 1, none⟩ y1).setCell ⟨b, 2, none⟩ y2).setCell ⟨b, 3, none⟩ y3).setCell ⟨b, 4, none⟩ y4)).cell? ⟨g, 4, none⟩ = some x4 := by
  obtain ⟨hu, h0, h1, h2, h3, h4⟩ := h
  have hb := hz.le
  have k : ∀ (U : World) (i j : Nat) (x y : Value), U.cell? ⟨g, i, none⟩ = some x → (U.setCell ⟨b, j, none⟩ y).cell? ⟨g, i, none⟩ = some x := fun U i j x y hx => by
    rw [World.cell?_setCell_other _ _ _ _ (by intro e; injection e with e1 e2; omega)]
    exact hx
  refine ⟨RowKit.Below.setCell (RowKit.Below.setCell (RowKit.Below.setCell (RowKit.Below.setCell (RowKit.Below.setCell hu.out hb _) hb _) hb _) hb _) hb _, ?_, ?_, ?_, ?_, ?_⟩ <;>
    exact k _ _ _ _ _ (k _ _ _ _ _ (k _ _ _ _ _ (k _ _ _ _ _ (k _ _ _ _ _ (by assumption)))))
/-- A plot in a block that may be written. -/
structure Pw (V : World) (b : Nat) (p : Pl.Plt) : Prop where
  c0 : V.cell? ⟨b, 0, none⟩ = some (.float .f64 p.r)
  c1 : V.cell? ⟨b, 1, none⟩ = some (.float .f64 p.s)
  c2 : V.cell? ⟨b, 2, none⟩ = some (.float .f64 p.p)
  c3 : V.cell? ⟨b, 3, none⟩ = some (.float .f64 p.b)
  c4 : V.cell? ⟨b, 4, none⟩ = some (.float .f64 p.t)
  f3 : V.frozen? ⟨b, 3, none⟩ = false
theorem Pw.new (V : World) (tm : Nat) : Pw (V.alloc (.cells #[.float .f64 4632937379169042432, .float .f64 9223372036854775808, .float .f64 4643211215818981376, .float .f64 0, .float .f64 tm] 64)) V.heap.size ⟨4632937379169042432, 9223372036854775808, 4643211215818981376, 0, tm⟩ := by
  have h := heap_last V (.cells #[.float .f64 4632937379169042432, .float .f64 9223372036854775808, .float .f64 4643211215818981376, .float .f64 0, .float .f64 tm] 64)
  exact ⟨(row_cell h 0).1, (row_cell h 1).1, (row_cell h 2).1, (row_cell h 3).1, (row_cell h 4).1, (row_cell h 3).2⟩
theorem Zr.put {V : World} {b tm : Nat} (h : Zr V b) : Pw (((((V.setCell ⟨b, 0, none⟩ (.float .f64 4632937379169042432)).setCell ⟨b, 1, none⟩ (.float .f64 9223372036854775808)).setCell ⟨b, 2, none⟩ (.float .f64 4643211215818981376)).setCell ⟨b, 3, none⟩ (.float .f64 0)).setCell ⟨b, 4, none⟩ (.float .f64 tm)) b ⟨4632937379169042432, 9223372036854775808, 4643211215818981376, 0, tm⟩ := by
  refine ⟨?_, ?_, ?_, ?_, ?_, by simp only [World.frozen?_setCell]; exact h.f3⟩
  · exact cell_ne (cell_ne (cell_ne (cell_ne (World.cell?_setCell_same _ _ _ h.c0) (by decide)) (by decide)) (by decide)) (by decide)
  · exact cell_ne (cell_ne (cell_ne (World.cell?_setCell_same _ _ _ (cell_ne h.c1 (by decide))) (by decide)) (by decide)) (by decide)
  · exact cell_ne (cell_ne (World.cell?_setCell_same _ _ _ (cell_ne (cell_ne h.c2 (by decide)) (by decide))) (by decide)) (by decide)
  · exact cell_ne (World.cell?_setCell_same _ _ _ (cell_ne (cell_ne (cell_ne h.c3 (by decide)) (by decide)) (by decide))) (by decide)
  · exact World.cell?_setCell_same _ _ _ (cell_ne (cell_ne (cell_ne (cell_ne h.c4 (by decide)) (by decide)) (by decide)) (by decide))
theorem five_up {w V : World} {b : Nat} {x0 x1 x2 x3 x4 : Value} (h : Up w V) (hb : w.heap.size ≤ b) : Up w (((((V.setCell ⟨b, 0, none⟩ x0).setCell ⟨b, 1, none⟩ x1).setCell ⟨b, 2, none⟩ x2).setCell ⟨b, 3, none⟩ x3).setCell ⟨b, 4, none⟩ x4) :=
  RowKit.Below.setCell (RowKit.Below.setCell (RowKit.Below.setCell (RowKit.Below.setCell (RowKit.Below.setCell h hb _) hb _) hb _) hb _) hb _
theorem Pw.br {V : World} {b : Nat} {p : Pl.Plt} {br : Nat} (h : Pw V b p) : Pl.P5 (V.setCell ⟨b, 3, none⟩ (.float .f64 br)) b 0 ⟨p.r, p.s, p.p, br, p.t⟩ :=
  ⟨cell_ne h.c0 (by decide), cell_ne h.c1 (by decide), cell_ne h.c2 (by decide), World.cell?_setCell_same _ _ _ h.c3, cell_ne h.c4 (by decide)⟩
abbrev oneK (br tm : Nat) : Pl.Plt := ⟨4632937379169042432, 9223372036854775808, 4643211215818981376, br, tm⟩
end Go.Proofs.YtflngnnoibkkoaaGreat
