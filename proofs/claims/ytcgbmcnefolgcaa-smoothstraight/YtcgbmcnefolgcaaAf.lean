/- Far, May and Same. -/
import Derived.Test.YtcgbmcnefolgcaaAd
namespace Go.Proofs.Ytcgbmcnefolgcaa
open Go.ChangeShapes Go.WideShapes Go.ChangeAt Go.RowKit Go.Fl Ieee
attribute [local go_sem] run_store_float call22 call54 run_neg fold_eq fold_ne fold_lt fold_gt abs_eq

def farF (s : S5) (p n : Option Nat) : Option Nat :=
  if gtF (widF s n) (ab 0) = true then bin .quo (bin .mul (bin .sub p s.x) (bin .sub p s.x)) (widF s n) else ab 9218868437227405312
def geF (x y : Option Nat) : Bool := gtF x y || eqF x y
def mayF (s : S5) : Bool := fin s.x && fin s.v && fin s.b && (fin s.a && fin s.c) && geF s.a (ab 0) && geF s.c (ab 0)
def BU (w : World) (b : Bool) (e : Ending) (w' : World) : Prop := e = .returned (.bool b) ∧ Hid (Up w w')
theorem run_index5 (w : World) (x v a b c : Nat) (k : Nat) (hk : k < 5) : (Instr.index 69 (.agg #[.float .f64 x, .float .f64 v, .float .f64 a, .float .f64 b, .float .f64 c]) (.int .i64 k)).run Try.prog w = .ok (.float .f64 (if k = 0 then x else if k = 1 then v else if k = 2 then a else if k = 3 then b else c)) w := by
  rcases (show k = 0 ∨ k = 1 ∨ k = 2 ∨ k = 3 ∨ k = 4 by omega) with rfl | rfl | rfl | rfl | rfl <;> kernel_rfl
theorem wpList_index5 {ops : Array Oper} {rest : List Oper} {o : Oper} {f : Act} {Q : Exit → Act → World → Prop} {w : World} {x v a b c : Nat} (k u : Nat) (hv : (if k = 0 then x else if k = 1 then v else if k = 2 then a else if k = 3 then b else c) = u) (hgd : o.guard = none) (s i : Operand)
    (hop : o.op = Op.index 69 s i) (hs : f.eval s = .agg #[.float .f64 x, .float .f64 v, .float .f64 a, .float .f64 b, .float .f64 c]) (hx : f.eval i = .int .i64 k) (hc : k < 5)
    (hK : wpList Try.prog ops Q rest (f.put o.dst (.float .f64 u)) w) : wpList Try.prog ops Q (o :: rest) f w := by
  refine wpList_plain hgd fun K hK' => ?_
  unfold Oper.wp
  simp only [execOp, hop, hs, hx]
  have e := run_index5 w x v a b c k hc
  rw [hv] at e
  simp [e, Result.andThen]
  exact hK' _ _ hK
def F5 (z : Int) (x v a b c : Nat) : Prop := (1 ≤ z → fin (ab x) = true) ∧ (2 ≤ z → fin (ab v) = true) ∧ (3 ≤ z → fin (ab a) = true) ∧ (4 ≤ z → fin (ab b) = true) ∧ (5 ≤ z → fin (ab c) = true)
set_option maxHeartbeats 1000000 in
theorem t23 (x v a b c : Nat) (w : World) : Calls Try.prog 23 #[.agg #[.float .f64 x, .float .f64 v, .float .f64 a, .float .f64 b, .float .f64 c]] w (BU w (mayF ⟨ab x, ab v, ab a, ab b, ab c⟩)) := by
  have HB := BC.new w x v a b c
  have HU : Hid (Up w (w.alloc (.cells #[.float .f64 x, .float .f64 v, .float .f64 a, .float .f64 b, .float .f64 c] 27))) := Up.alloc _ _
  obtain ⟨b0, b1, b2, b3, b4⟩ := HB
  go_enter Try.func23, Try.ntmps23
  go_wp2
  generalize w.alloc (.cells #[.float .f64 x, .float .f64 v, .float .f64 a, .float .f64 b, .float .f64 c] 27) = w1 at *
  generalize w.heap.size = s0 at *
  go_loopw [4, 16] (fun _ vi wr => ∃ z : Int, (z = 0 ∨ z = 1 ∨ z = 2 ∨ z = 3 ∨ z = 4 ∨ z = 5) ∧ vi = .int .i64 z ∧ w1 = wr ∧ Hid (F5 z x v a b c)) (fun _ vi _ => 5 - (intOf vi).toNat)
  case atStart => exact ⟨0, by omega, rfl, rfl, ⟨fun h => by omega, fun h => by omega, fun h => by omega, fun h => by omega, fun h => by omega⟩⟩
  case round =>
    obtain ⟨z, hz, rfl, hw, HG⟩ := hrel
    subst hw
    rcases hz with rfl | rfl | rfl | rfl | rfl | rfl
    · cases hb : fin (ab x)
      · go_wp2_with (first
          | (refine wpList_index5 0 x rfl rfl _ _ rfl rfl rfl (by omega) ?_)
          | (go_at_call 50; (with_reducible refine (t50 x _).mono ?_); rintro e w' ⟨rfl, rfl⟩; rw [hb]))
        go_ret
        exact ⟨by simp [mayF, hb], HU⟩
      · go_wp2_with (first
          | (refine wpList_index5 0 x rfl rfl _ _ rfl rfl rfl (by omega) ?_)
          | (go_at_call 50; (with_reducible refine (t50 x _).mono ?_); rintro e w' ⟨rfl, rfl⟩; rw [hb]))
        go_roundw
        case rel => exact ⟨1, by omega, rfl, by simp, ⟨fun _ => hb, fun h => by omega, fun h => by omega, fun h => by omega, fun h => by omega⟩⟩
        case measure => simp [intOf]
    · cases hb : fin (ab v)
      · go_wp2_with (first
          | (refine wpList_index5 1 v rfl rfl _ _ rfl rfl rfl (by omega) ?_)
          | (go_at_call 50; (with_reducible refine (t50 v _).mono ?_); rintro e w' ⟨rfl, rfl⟩; rw [hb]))
        go_ret
        exact ⟨by simp [mayF, hb], HU⟩
      · go_wp2_with (first
          | (refine wpList_index5 1 v rfl rfl _ _ rfl rfl rfl (by omega) ?_)
          | (go_at_call 50; (with_reducible refine (t50 v _).mono ?_); rintro e w' ⟨rfl, rfl⟩; rw [hb]))
        go_roundw
        case rel => exact ⟨2, by omega, rfl, by simp, ⟨fun _ => HG.out.1 (by omega), fun _ => hb, fun h => by omega, fun h => by omega, fun h => by omega⟩⟩
        case measure => simp [intOf]
    · cases hb : fin (ab a)
      · go_wp2_with (first
          | (refine wpList_index5 2 a rfl rfl _ _ rfl rfl rfl (by omega) ?_)
          | (go_at_call 50; (with_reducible refine (t50 a _).mono ?_); rintro e w' ⟨rfl, rfl⟩; rw [hb]))
        go_ret
        exact ⟨by simp [mayF, hb], HU⟩
      · go_wp2_with (first
          | (refine wpList_index5 2 a rfl rfl _ _ rfl rfl rfl (by omega) ?_)
          | (go_at_call 50; (with_reducible refine (t50 a _).mono ?_); rintro e w' ⟨rfl, rfl⟩; rw [hb]))
        go_roundw
        case rel => exact ⟨3, by omega, rfl, by simp, ⟨fun _ => HG.out.1 (by omega), fun _ => HG.out.2.1 (by omega), fun _ => hb, fun h => by omega, fun h => by omega⟩⟩
        case measure => simp [intOf]
    · cases hb : fin (ab b)
      · go_wp2_with (first
          | (refine wpList_index5 3 b rfl rfl _ _ rfl rfl rfl (by omega) ?_)
          | (go_at_call 50; (with_reducible refine (t50 b _).mono ?_); rintro e w' ⟨rfl, rfl⟩; rw [hb]))
        go_ret
        exact ⟨by simp [mayF, hb], HU⟩
      · go_wp2_with (first
          | (refine wpList_index5 3 b rfl rfl _ _ rfl rfl rfl (by omega) ?_)
          | (go_at_call 50; (with_reducible refine (t50 b _).mono ?_); rintro e w' ⟨rfl, rfl⟩; rw [hb]))
        go_roundw
        case rel => exact ⟨4, by omega, rfl, by simp, ⟨fun _ => HG.out.1 (by omega), fun _ => HG.out.2.1 (by omega), fun _ => HG.out.2.2.1 (by omega), fun _ => hb, fun h => by omega⟩⟩
        case measure => simp [intOf]
    · cases hb : fin (ab c)
      · go_wp2_with (first
          | (refine wpList_index5 4 c rfl rfl _ _ rfl rfl rfl (by omega) ?_)
          | (go_at_call 50; (with_reducible refine (t50 c _).mono ?_); rintro e w' ⟨rfl, rfl⟩; rw [hb]))
        go_ret
        exact ⟨by simp [mayF, hb], HU⟩
      · go_wp2_with (first
          | (refine wpList_index5 4 c rfl rfl _ _ rfl rfl rfl (by omega) ?_)
          | (go_at_call 50; (with_reducible refine (t50 c _).mono ?_); rintro e w' ⟨rfl, rfl⟩; rw [hb]))
        go_roundw
        case rel => exact ⟨5, by omega, rfl, by simp, ⟨fun _ => HG.out.1 (by omega), fun _ => HG.out.2.1 (by omega), fun _ => HG.out.2.2.1 (by omega), fun _ => HG.out.2.2.2.1 (by omega), fun _ => hb⟩⟩
        case measure => simp [intOf]
    · obtain ⟨g1, g2, g3, g4, g5⟩ := HG.out
      have k1 := g1 (by omega)
      have k2 := g2 (by omega)
      have k3 := g3 (by omega)
      have k4 := g4 (by omega)
      have k5 := g5 (by omega)
      clear g1 g2 g3 g4 g5 HG
      go_wp2
      all_goals go_ret
      all_goals exact ⟨by simp_all [mayF, geF], HU⟩
set_option maxHeartbeats 1000000 in
theorem t31 (x v a b c : Nat) (w : World) : Calls Try.prog 31 #[.agg #[.float .f64 x, .float .f64 v, .float .f64 a, .float .f64 b, .float .f64 c]] w (BU w (mayF ⟨ab x, ab v, ab a, ab b, ab c⟩)) := by
  have HB := BC.new w x v a b c
  have HU : Hid (Up w (w.alloc (.cells #[.float .f64 x, .float .f64 v, .float .f64 a, .float .f64 b, .float .f64 c] 27))) := Up.alloc _ _
  obtain ⟨b0, b1, b2, b3, b4⟩ := HB
  go_enter Try.func31, Try.ntmps31
  go_wp2_with (go_at_call 32; (with_reducible refine (t32 _ _).mono ?_); rintro e w' ⟨rfl, rfl⟩)
  all_goals go_ret
  all_goals exact ⟨by simp_all [mayF, geF], HU⟩
def sameF (s t : S5) : Bool := (s.x == t.x && s.v == t.v) && (s.a == t.a && s.b == t.b && s.c == t.c)
set_option maxHeartbeats 1000000 in
theorem t34 (x v a b c x' v' a' b' c' : Nat) (w : World) : Calls Try.prog 34 #[.agg #[.float .f64 x, .float .f64 v, .float .f64 a, .float .f64 b, .float .f64 c], .agg #[.float .f64 x', .float .f64 v', .float .f64 a', .float .f64 b', .float .f64 c']] w (BU w (sameF ⟨ab x, ab v, ab a, ab b, ab c⟩ ⟨ab x', ab v', ab a', ab b', ab c'⟩)) := by
  have HB := BC.new w x v a b c
  have HB2 := BC.new (w.alloc (.cells #[.float .f64 x, .float .f64 v, .float .f64 a, .float .f64 b, .float .f64 c] 27)) x' v' a' b' c'
  obtain ⟨b0, b1, b2, b3, b4⟩ := HB
  obtain ⟨d0, d1, d2, d3, d4⟩ := HB2
  have HU : Hid (Up w ((w.alloc (.cells #[.float .f64 x, .float .f64 v, .float .f64 a, .float .f64 b, .float .f64 c] 27)).alloc (.cells #[.float .f64 x', .float .f64 v', .float .f64 a', .float .f64 b', .float .f64 c'] 27))) := Up.alloc2 _ _ _
  go_enter Try.func34, Try.ntmps34
  go_wp2_with (go_at_call 17; (with_reducible refine (t17 _ _ _).mono ?_); rintro e w' ⟨rfl, rfl⟩)
  all_goals go_ret
  all_goals exact ⟨by simp_all [sameF], HU⟩
end Go.Proofs.Ytcgbmcnefolgcaa
