/- Turn of a number and of that number with its sign turned. No program but for the definitions of Turn. -/
import Derived.Test.YtlgejebgkkmacaaSb
import Derived.Test.YtlgejebgkkmacaaFz
namespace Go.Proofs.Ytlgejebgkkmacaa
open Go.Fl Ieee Go.RowKit


/-- As numbers, the one is the other with its sign turned. -/
def Ov (s s' : Nat) : Prop := s' = Go.Fl.neg s ∨ (Zr s ∧ Zr s')
theorem zr_abs {u : Nat} (h : Zr u) : Go.Fl.abs u = 0 := by
  unfold Zr lin sgn at h
  unfold Go.Fl.abs
  split at h <;> omega
theorem abs_neg (u : Nat) : Go.Fl.abs (Go.Fl.neg u) = Go.Fl.abs u := (neg_parts u).1
theorem point_same {u u' : Nat} (h : Go.Fl.abs u' = Go.Fl.abs u) : pointC (some u') = pointC (some u) ∧ swapped (some u') = swapped (some u) ∧ twice (some u') = twice (some u) := by
  have e : (some u').map Go.Fl.abs = (some u).map Go.Fl.abs := by show some _ = some _; rw [h]
  have f : flipped (some u') = flipped (some u) := by unfold flipped; rw [e]
  have o : once (some u') = once (some u) := by unfold once; rw [f, e]
  have s : swapped (some u') = swapped (some u) := by unfold swapped; rw [o]
  have t : twice (some u') = twice (some u) := by unfold twice; rw [s, o]
  refine ⟨?_, s, t⟩
  unfold pointC
  rw [s, t, f]
theorem point_zero {u : Nat} (h : Zr u) : pointC (some u) = some 4607182418800017408 ∧ pointS (some u) = some 0 := by
  obtain ⟨a, b, c⟩ := point_same (u' := u) (u := 0) (by rw [zr_abs h]; rfl)
  have k1 : pointC (some 0) = some 4607182418800017408 := by decide +kernel
  have k2 : swapped (some 0) = false := by decide +kernel
  have k3 : eastS (twice (some 0)) = some 0 := by decide +kernel
  refine ⟨a.trans k1, ?_⟩
  unfold pointS
  rw [b, c, k2]
  simp only [Bool.false_eq_true, if_false, k3]
  split <;> decide +kernel
theorem clean_ov {s : Nat} (hs : isN s = false) : ∃ p q, cleanF (some s) = some p ∧ cleanF (some (Go.Fl.neg s)) = some q ∧ Ov p q ∧ Ov q p := by
  unfold cleanF
  rw [ab0, eqF_lin hs isN0, eqF_lin (isN_n hs) isN0, lin_neg, lin0]
  by_cases h : lin s = 0
  · rw [if_pos (by simpa using h), if_pos (by simp [h])]
    exact ⟨0, 0, rfl, rfl, Or.inr ⟨lin0, lin0⟩, Or.inr ⟨lin0, lin0⟩⟩
  · rw [if_neg (by simpa using h), if_neg (by simpa using h)]
    exact ⟨s, _, rfl, rfl, Or.inl rfl, Or.inl (neg_neg' s).symm⟩
theorem point_neg {u : Nat} (fu : Fnt u) (h1 : -1 / 2 ≤ val u) (h2 : val u ≤ 1 / 2) : pointC (some (Go.Fl.neg u)) = pointC (some u) ∧ ∃ s s', pointS (some u) = some s ∧ pointS (some (Go.Fl.neg u)) = some s' ∧ Ov s s' := by
  obtain ⟨a, b, c⟩ := point_same (abs_neg u)
  refine ⟨a, ?_⟩
  by_cases hz : Zr u
  · exact ⟨0, 0, (point_zero hz).2, (point_zero hz.neg).2, Or.inr ⟨lin0, lin0⟩⟩
  obtain ⟨t, t1, t2, t99399, t99499⟩ := twice_val fu h1 h2
  obtain ⟨ec, es, c1, s1, hg⟩ := east_good t2 t99399 t99499
  obtain ⟨s, hs, ns⟩ : ∃ s, (if swapped (some u) = true then eastC (twice (some u)) else eastS (twice (some u))) = some s ∧ isN s = false := by
    rw [t1, c1, s1]
    split
    · exact ⟨ec, rfl, hg.fc.num⟩
    · exact ⟨es, rfl, hg.fs.num⟩
  obtain ⟨p, q, k1, k2, k3, k4⟩ := clean_ov ns
  unfold pointS
  rw [b, c]
  simp only [hs]
  rw [neg_lt0 fu.num, neg_lt0 (isN_n fu.num), lin_neg]
  have hz' : lin u ≠ 0 := hz
  by_cases hl : lin u < 0
  · have h2 : ¬ -lin u < 0 := by omega
    simp only [hl, h2, decide_true, decide_false, if_true, Bool.false_eq_true, if_false, Option.map_some]
    exact ⟨q, p, k2, k1, k4⟩
  · have h2 : -lin u < 0 := by omega
    simp only [hl, h2, decide_true, decide_false, if_true, Bool.false_eq_true, if_false, Option.map_some]
    exact ⟨p, q, k1, k2, k3⟩
theorem wrap_zero {a : Nat} (h : Zr a) (fa : Fnt a) : ∃ u, wrapF (some a) = some u ∧ Zr u := by
  have f1 := fin_of fa
  rw [Fnt.ab fa] at f1
  rw [wrapF_left f1]
  have hw : wholeF (some a) = some (floor a) := by
    unfold wholeF
    rw [neg_lt0 fa.num]
    have h' : lin a = 0 := h
    rw [h']
    rfl
  rw [hw]
  obtain ⟨r, r1, r2⟩ := h.sub h.floor
  rw [r1, left_lin r2.num]
  have h' : lin r = 0 := r2
  rw [h', if_neg (by omega), if_neg (by omega)]
  exact ⟨r, rfl, r2⟩
theorem turn_zero {a : Nat} (h : Zr a) (fa : Fnt a) : turnC (some a) = some 4607182418800017408 ∧ turnS (some a) = some 0 := by
  obtain ⟨u, h1, h2⟩ := wrap_zero h fa
  have f1 := fin_of fa
  rw [Fnt.ab fa] at f1
  unfold turnC turnS
  rw [if_pos f1, if_pos f1, h1]
  exact point_zero h2
theorem turn_neg {x : Nat} (hx : Fnt x) (hB : val x ≤ pw 1000) (hB' : -pw 1000 ≤ val x) : turnC (some (Go.Fl.neg x)) = turnC (some x) ∧ ∃ s s', turnS (some x) = some s ∧ turnS (some (Go.Fl.neg x)) = some s' ∧ Ov s s' := by
  obtain ⟨u, u', e1, e2, hop⟩ := wrap_neg hx
  obtain ⟨w, w1, fu, l1, l2⟩ := wrap_val hx hB hB'
  rw [e1, Option.some.injEq] at w1
  subst w1
  have f1 := fin_of hx
  rw [Fnt.ab hx] at f1
  have f2 := fin_of (fin_neg hx)
  rw [Fnt.ab (fin_neg hx)] at f2
  unfold turnC turnS
  rw [if_pos f1, if_pos f1, if_pos f2, if_pos f2, e1, e2]
  rcases hop with rfl | ⟨z1, z2⟩ | ⟨rfl, rfl⟩
  · exact point_neg fu l1 l2
  · rw [(point_zero z1).1, (point_zero z2).1]
    exact ⟨rfl, 0, 0, (point_zero z1).2, (point_zero z2).2, Or.inr ⟨lin0, lin0⟩⟩
  · have k : pointS (some 13826050856027422720) = some 0 := by decide +kernel
    exact ⟨rfl, 0, 0, k, k, Or.inr ⟨lin0, lin0⟩⟩
theorem turn_ov {a a' : Nat} (fa : Fnt a) (fa' : Fnt a') (hB : val a ≤ pw 1000) (hB' : -pw 1000 ≤ val a) (h : Ov a a') : turnC (some a') = turnC (some a) ∧ ∃ s s', turnS (some a) = some s ∧ turnS (some a') = some s' ∧ Ov s s' := by
  rcases h with rfl | ⟨z1, z2⟩
  · exact turn_neg fa hB hB'
  · rw [(turn_zero z1 fa).1, (turn_zero z2 fa').1]
    exact ⟨rfl, 0, 0, (turn_zero z1 fa).2, (turn_zero z2 fa').2, Or.inr ⟨lin0, lin0⟩⟩
theorem Zr.mul_r {x y : Nat} (hx : Fnt x) (hy : Zr y) : ∃ r, bin .mul (some x) (some y) = some r ∧ Zr r := by
  obtain ⟨s, i, ex⟩ := hy.read
  obtain ⟨t, n, j, ey⟩ := fin_read hx
  show ∃ r, double.mul x y = some r ∧ _
  unfold Format.mul
  rw [ex, ey]
  simp only [Datum.product, Option.map_some, Option.some.injEq, Nat.mul_zero]
  exact ⟨_, rfl, write_zero _ _⟩
theorem cl_some {x : Nat} (h : isN x = false) : Cl (some x) := fun y hy => by cases hy; exact h
theorem mul_ov {x s s' : Nat} (fx : Fnt x) (fs : Fnt s) (h : Ov s s') : ∃ r r', bin .mul (some x) (some s) = some r ∧ bin .mul (some x) (some s') = some r' ∧ Ov r r' := by
  rcases h with rfl | ⟨z1, z2⟩
  · obtain ⟨r, hr⟩ := bin_some_mul fx fs
    have h := mul_neg_r (o := some x) (cl_some fs.num)
    rw [hr] at h
    exact ⟨r, _, hr, h, Or.inl rfl⟩
  · obtain ⟨r, a1, a2⟩ := Zr.mul_r fx z1
    obtain ⟨r', b1, b2⟩ := Zr.mul_r fx z2
    exact ⟨r, r', a1, b1, Or.inr ⟨a2, b2⟩⟩
/-- Finite, and at most a power of two. -/
def PB (o : Option Nat) (k : Int) : Prop := ∃ x, o = some x ∧ Fnt x ∧ val x ≤ pw k ∧ -pw k ≤ val x
theorem PB.mul {a b : Option Nat} {k l : Int} (ha : PB a k) (hb : PB b l) {z : Nat} (vz : val z = pw (k + l)) (h2 : k + l ≤ 1000) : PB (bin .mul a b) (k + l) := by
  obtain ⟨x, rfl, fx, x1, x2⟩ := ha
  obtain ⟨y, rfl, fy, y1, y2⟩ := hb
  obtain ⟨r, hr⟩ := bin_some_mul fx fy
  obtain ⟨m1, m2⟩ := mul_bd x1 x2 y1 y2
  rw [← pw_add] at m1 m2
  have hp := pw_mono h2
  obtain ⟨fr, _⟩ := mul_near fx fy hr (B := pw (k + l)) m1 m2 hp
  have k1 := (mul_mono fx fy hr (by grind) (by grind) (z := z)).1 (by rw [vz]; exact m1)
  have k2 := (mul_mono fx fy hr (by grind) (by grind) (z := neg z)).2 (by rw [vneg, vz]; exact m2)
  rw [vz] at k1
  rw [vneg, vz] at k2
  exact ⟨r, hr, fr, k1, k2⟩
theorem Good.le {c s : Nat} (h : Good c s) : val s ≤ 2 ∧ -2 ≤ val s := by
  have h1 := h.near
  have hc : 0 ≤ val c * val c := by
    rcases Rat.le_total (a := 0) (b := val c) with h | h
    · exact Rat.mul_nonneg h h
    · have := Rat.mul_nonneg (a := -val c) (b := -val c) (by grind) (by grind)
      grind
  have hu : 11 * u53 ≤ 1 := by decide +kernel
  unfold Near at h1
  have h4 : val s * val s ≤ 2 * 2 := by grind
  constructor
  · rcases Rat.le_total (a := 0) (b := val s) with h | h
    · exact sq_le h (by decide) h4
    · grind
  · rcases Rat.le_total (a := 0) (b := val s) with h | h
    · grind
    · have := sq_le (a := -val s) (b := 2) (by grind) (by decide) (by grind)
      grind
end Go.Proofs.Ytlgejebgkkmacaa
