/- Points: To and From of both sides. -/
import Derived.Test.YtlgejebgkkmacaaPa
namespace Go.Proofs.Ytlgejebgkkmacaa
open Go.ChangeShapes Go.WideShapes Go.ChangeAt Go.RowKit Go.Fl Ieee
attribute [local go_sem] run_store_float run_store_complex call39 call50 run_neg fold_eq fold_ne fold_lt fold_gt abs_eq

theorem ret24 {fn : Func} {p : Tmp} (hres : fn.results = #[.cell p 24]) {w W : World} {b : Nat} {c s : Option Nat} {tmps : Array Value} {r i n : Nat} {u v : Value} (hp : tmps.getD p undef = .pointer (some ⟨b, 0, none⟩))
    (hk : W.heap[b]? = some (.cells #[u, v] 24 (0, 0))) (hb : Below w.heap.size w W) (hw : w.heap.size ≤ b) (h1 : ab r = c) (h2 : ab i = s) :
    bodyPost Try.prog fn (SR w c s) .ret ⟨tmps, []⟩ (((W.drewN n).setCell ⟨b, 0, none⟩ (.float .f64 r)).setCell ⟨b, 1, none⟩ (.float .f64 i)) := by
  have e0 : (W.drewN n).heap[b]? = some (.cells #[u, v] 24 (0, 0)) := hk
  have e1 := setCell_eq_setRow (W.drewN n) b 0 #[u, v] 24 (0, 0) (.float .f64 r) e0
  have g1 := setRow_heap (W.drewN n) b #[u, v] #[.float .f64 r, v] 24 (0, 0) e0
  have e2 := setCell_eq_setRow _ b 1 #[.float .f64 r, v] 24 (0, 0) (.float .f64 i) g1
  have g2 := setRow_heap _ b #[.float .f64 r, v] #[.float .f64 r, .float .f64 i] 24 (0, 0) g1
  refine bodyPost_ret (results_cell_row hres _ _ b 24 #[.float .f64 r, .float .f64 i] (0, 0) _ hp ?_ Try.underlying24 rfl (by kernel_rfl)) rfl (SR.mk h1 h2 (((below_drewN hb n).setCell hw _).setCell hw _))
  rw [e1]
  show (((W.drewN n).setRow b #[.float .f64 r, v]).setCell ⟨b, 1, none⟩ (.float .f64 i)).heap[b]? = _
  rw [e2]
  exact g2
def toX (m b : Option Nat) : Option Nat := bin .mul m (turnS b)
def toY (m b : Option Nat) : Option Nat := bin .mul m (turnC b)
set_option maxHeartbeats 2000000 in
theorem t12 (m b : Nat) (w : World) : Calls Try.prog 12 #[.float .f64 m, .float .f64 b] w (SR w (toX (ab m) (ab b)) (toY (ab m) (ab b))) := by
  go_enter Try.func12, Try.ntmps12
  go_wp2_with (first
    | ((with_reducible refine upon_fl (by simp) ?_); intro r n hr)
    | (go_at_call 37; (with_reducible refine (t37 _ _).mono ?_); rintro e w1 ⟨c, s, rfl, hc, hs, hb⟩; have HK := keptA (k := 0) hb; obtain ⟨k1, k2, k3, k4⟩ := facts2 HK; replace HK : Hid _ := HK))
  rename_i r1 n1 hr1
  refine ret24 rfl rfl HK.out ((Up.alloc _ _).trans hb) (Nat.le_refl _) ?_ ?_
  · rw [hr1.out, hs.out]; rfl
  · rw [hr.out, hc.out]; rfl
/-- What a call leaves that hands back two floats and may make memory. -/
def F2 (w : World) (x y : Option Nat) (e : Ending) (w' : World) : Prop := ∃ r s, e = .returned (.tuple #[.float .f64 r, .float .f64 s]) ∧ Hid (ab r = x) ∧ Hid (ab s = y) ∧ Up w w'
set_option maxHeartbeats 2000000 in
theorem t9 (x y : Nat) (w : World) : Calls Try.prog 9 #[.agg #[.float .f64 x, .float .f64 y]] w (F2 w (absF (ab y) (ab x)) (upF (angleF (ab y) (ab x)))) := by
  go_enter Try.func9, Try.ntmps9
  go_wp2_with (first
    | (go_at_call 29; (with_reducible refine (t29 _ _ _).mono ?_); rintro e w1 ⟨rfl, u1⟩)
    | (go_at_call 30; (with_reducible refine (t30 _ _ _).mono ?_); rintro e w2 ⟨r2, n2, rfl, rfl, h2⟩)
    | (go_at_call 32; (with_reducible refine (t32 _ _ _).mono ?_); rintro e w3 ⟨r3, rfl, h3, u3⟩)
    | (go_at_call 31; (with_reducible refine (t31 _ _).mono ?_); rintro e w4 ⟨r4, n4, rfl, rfl, h4⟩))
  exact bodyPost_ret (results_tmp2 Try.results9 _ _ _) rfl ⟨_, _, rfl, h2, by show _ = _; rw [h4.out, h3.out], ((((Up.alloc _ _).trans u1).trans (Up.drewN _ _)).trans u3).trans (Up.drewN _ _)⟩
set_option maxHeartbeats 2000000 in
theorem t33 (x y : Nat) (w : World) : Calls Try.prog 33 #[.float .f64 x, .float .f64 y] w (SR w (ab y) (ab x)) := by
  go_enter Try.func33, Try.ntmps33
  go_wp2
  exact bodyPost_ret (results_cell_row rfl _ _ w.heap.size 53 #[.float .f64 y, .float .f64 x] (0, 0) _ rfl (heap_alloc_last w _) Try.underlying53 rfl (by kernel_rfl)) rfl (SR.mk rfl rfl (Up.alloc _ _))
set_option maxHeartbeats 2000000 in
theorem t13 (m b : Nat) (w : World) : Calls Try.prog 13 #[.float .f64 m, .float .f64 b] w (SR w (toX (ab m) (ab b)) (toY (ab m) (ab b))) := by
  go_enter Try.func13, Try.ntmps13
  go_wp2_with (first
    | ((with_reducible refine upon_fl (by simp) ?_); intro r n hr)
    | (go_at_call 38; (with_reducible refine (t38 _ _).mono ?_); rintro e w1 ⟨c, s, rfl, hc, hs, hb⟩; have HK := keptA (k := 0) hb; have HK' := kept2 HK (Up.alloc w1 (.cells #[.float .f64 c, .float .f64 s] 53)); obtain ⟨k1, k2, k3, k4⟩ := facts2 HK'; replace HK' : Hid _ := HK'; clear HK))
  rename_i r1 n1 hr1
  refine ret24 rfl rfl HK'.out (((Up.alloc _ _).trans hb).trans (Up.alloc _ _)) (Nat.le_refl _) ?_ ?_
  · rw [hr1.out, hs.out]; rfl
  · rw [hr.out, hc.out]; rfl
end Go.Proofs.Ytlgejebgkkmacaa
