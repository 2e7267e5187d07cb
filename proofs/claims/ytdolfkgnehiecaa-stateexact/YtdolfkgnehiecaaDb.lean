/- Ahead of whole numbers: nothing is rounded. -/
import Derived.Test.YtdolfkgnehiecaaDa
import Derived.Test.YtdolfkgnehiecaaFv
namespace Go.Proofs.Ytdolfkgnehiecaa
open Go.Fl Ieee Go.RowKit

theorem mul_nought {t : Nat} (ft : Fnt t) (t0 : 0 < val t) : bin .mul (some 0) (some t) = some 0 := by
  obtain ⟨s, n, j, ey⟩ := fin_read ft
  have hs : s = false := by
    cases s
    · rfl
    · rw [val_read ey, dv_true] at t0
      have : 0 ≤ (n : Rat) * pw j := Rat.mul_nonneg Rat.natCast_nonneg (Rat.le_of_lt (pw_pos j))
      grind
  subst hs
  show double.mul 0 t = _
  unfold Format.mul
  rw [read0, ey]
  simp only [Datum.product, Option.map_some, Nat.zero_mul]
  show some (double.nearest _ 0 _) = _
  unfold Format.nearest
  rw [if_pos rfl]
  rfl
/-- A state of whole numbers. -/
structure WS (s : S5) (z0 z1 z2 z3 z4 : Int) : Prop where
  x : WH s.x z0
  v : WH s.v z1
  a : WH s.a z2
  b : WH s.b z3
  c : WH s.c z4
theorem pos_wh {o : Option Nat} {z : Int} (h : WH o z) (h0 : 0 ≤ z) : WH (posF o) z := by
  unfold posF
  rw [WH.gt h WH.zero]
  by_cases q : 0 < z
  · simp only [q, decide_true, if_true]; exact h
  · simp only [q, decide_false, Bool.false_eq_true, if_false]
    exact WH.zero.cast (by omega)
theorem sq_le {z T B C : Int} (h1 : 0 ≤ z) (h2 : z ≤ B) (h3 : 0 ≤ T) (h4 : T ≤ C) : 0 ≤ z * T ∧ z * T ≤ B * C := ⟨Int.mul_nonneg h1 h3, Int.mul_le_mul h2 h4 h3 (by omega)⟩
theorem ab_le {z T B : Int} (h1 : -B ≤ z) (h2 : z ≤ B) (h3 : 0 ≤ T) (h4 : T ≤ 32) (hB : 0 ≤ B) : -(B * 32) ≤ z * T ∧ z * T ≤ B * 32 := by
  have e1 := Int.mul_le_mul_of_nonneg_right h1 h3
  have e2 := Int.mul_le_mul_of_nonneg_right h2 h3
  have e3 := Int.mul_le_mul_of_nonneg_left h4 hB
  rw [Int.neg_mul] at e1
  omega
theorem ahead_ws {s : S5} {t : Nat} {z0 z1 z2 z3 z4 T : Int} (h : WS s z0 z1 z2 z3 z4) (ht : WH (ab t) T) (hT : 1 ≤ T) (hT2 : T ≤ 32) (hx : -67108864 ≤ z0) (hx2 : z0 ≤ 67108864) (hv : -1048576 ≤ z1) (hv2 : z1 ≤ 1048576) (ha : 0 ≤ z2) (ha2 : z2 ≤ 1073741824) (hb : 0 ≤ z3) (hb2 : z3 ≤ 67108864) (hc : 0 ≤ z4) (hc2 : z4 ≤ 1048576) :
    WS (aheadF s (ab t) (ab 0)) (z0 + z1 * T) z1 (z2 + z3 * T + z3 * T + z4 * T * T) (z3 + z4 * T) z4 := by
  obtain ⟨tb, e1, ft, vt⟩ := ht
  have hp : P53 = 9007199254740992 := rfl
  have t0 : 0 < val tb := by
    rw [vt]
    have : (0 : Rat) < (T : Rat) := by
      have := Rat.intCast_lt_intCast.2 (show (0 : Int) < T by omega)
      simpa using this
    exact this
  have ht : WH (ab t) T := ⟨tb, e1, ft, vt⟩
  have z0' : ab 0 = some 0 := by decide +kernel
  have k0 : bin .mul (ab 0) (ab t) = ab 0 := by rw [e1, z0', mul_nought ft t0]
  have three : Fnt 4613937818241073152 ∧ 0 < val 4613937818241073152 := ⟨by unfold Fnt; decide, by decide +kernel⟩
  have two : Fnt 4611686018427387904 ∧ 0 < val 4611686018427387904 := ⟨by unfold Fnt; decide, by decide +kernel⟩
  have q3 : bin .quo (ab 0) (ab 4613937818241073152) = ab 0 := by rw [Fnt.ab three.1, z0', quo_zero three.1 three.2]
  have q2 : bin .quo (ab 0) (ab 4611686018427387904) = ab 0 := by rw [Fnt.ab two.1, z0', quo_zero two.1 two.2]
  unfold aheadF
  rw [WH.gt ht WH.zero, if_pos (by simp; omega)]
  simp only [k0, q3, q2]
  have p1 := ab_le hv hv2 (show 0 ≤ T by omega) hT2 (by omega)
  have p2 := sq_le hb hb2 (show 0 ≤ T by omega) hT2
  have p3 := sq_le hc hc2 (show 0 ≤ T by omega) hT2
  have p4 := sq_le p3.1 p3.2 (show 0 ≤ T by omega) hT2
  have b1 := WH.mul h.v ht (by omega) (by omega)
  have b2 := WH.mul h.b ht (by omega) (by omega)
  have b3 := WH.mul h.c ht (by omega) (by omega)
  have b4 := WH.mul b3 ht (by omega) (by omega)
  have c1 := WH.add h.a b2 (by omega) (by omega)
  have c2 := WH.add c1 b2 (by omega) (by omega)
  have c3 := WH.add c2 b4 (by omega) (by omega)
  have c4 := WH.add c3 WH.zero (by omega) (by omega)
  have d1 := WH.add h.b b3 (by omega) (by omega)
  have d2 := WH.add d1 WH.zero (by omega) (by omega)
  exact ⟨WH.add h.x b1 (by omega) (by omega), h.v, pos_wh (c4.cast (by omega)) (by omega), d2.cast (by omega), (WH.add h.c WH.zero (by omega) (by omega)).cast (by omega)⟩
/-- By t and by u is by both. -/
theorem ahead_two {s : S5} {t u v : Nat} {z0 z1 z2 z3 z4 T U : Int} (h : WS s z0 z1 z2 z3 z4) (ht : WH (ab t) T) (hu : WH (ab u) U) (hv : WH (ab v) (T + U)) (hT : 1 ≤ T) (hT2 : T ≤ 16) (hU : 1 ≤ U) (hU2 : U ≤ 16) (hx : -1048576 ≤ z0) (hx2 : z0 ≤ 1048576) (hv1 : -1048576 ≤ z1) (hv2 : z1 ≤ 1048576) (ha : 0 ≤ z2) (ha2 : z2 ≤ 1048576) (hb : 0 ≤ z3) (hb2 : z3 ≤ 1048576) (hc : 0 ≤ z4) (hc2 : z4 ≤ 1048576) :
    ∃ w0 w1 w2 w3 w4, WS (aheadF s (ab t) (ab 0)) w0 w1 w2 w3 w4 ∧ ∃ y0 y1 y2 y3 y4, WS (aheadF (aheadF s (ab t) (ab 0)) (ab u) (ab 0)) y0 y1 y2 y3 y4 ∧ WS (aheadF s (ab v) (ab 0)) y0 y1 y2 y3 y4 := by
  have p1 := ab_le hv1 hv2 (show 0 ≤ T by omega) (by omega) (by omega)
  have p2 := sq_le hb hb2 (show 0 ≤ T by omega) hT2
  have p3 := sq_le hc hc2 (show 0 ≤ T by omega) hT2
  have p4 := sq_le p3.1 p3.2 (show 0 ≤ T by omega) hT2
  have A1 := ahead_ws h ht hT (by omega) (by omega) (by omega) hv1 hv2 ha (by omega) hb (by omega) hc hc2
  have A2 := ahead_ws A1 hu hU (by omega) (by omega) (by omega) hv1 hv2 (by omega) (by omega) (by omega) (by omega) hc hc2
  have A3 := ahead_ws h hv (by omega) (by omega) (by omega) (by omega) hv1 hv2 ha (by omega) hb (by omega) hc hc2
  refine ⟨_, _, _, _, _, A1, _, _, _, _, _, A2, ⟨A3.x.cast ?_, A3.v, A3.a.cast ?_, A3.b.cast ?_, A3.c⟩⟩
  · grind
  · grind
  · grind
end Go.Proofs.Ytdolfkgnehiecaa
