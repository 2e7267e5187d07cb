/- Turn of any finite number of turns, however great. -/
import Derived.Test.YtlgejebgkkmacaaEb
namespace Go.Proofs.Ytlgejebgkkmacaa
open Go.Fl Ieee Go.RowKit

theorem floor_big {x : Nat} (hx : Fnt x) (hB : pw 53 ≤ val x) : Fnt (floor x) ∧ val (floor x) = val x := by
  obtain ⟨s, m, i, ex⟩ := fin_read hx
  have vx := val_read ex
  have hp := pw_pos i
  have h53 := pw_pos 53
  have hm0 : 0 ≤ (m : Rat) * pw i := Rat.mul_nonneg Rat.natCast_nonneg (Rat.le_of_lt hp)
  have hs : s = false := by
    cases s
    · rfl
    · rw [dv_true] at vx; grind
  subst hs
  rw [dv_false] at vx
  have hi : 0 ≤ i := by
    rcases Int.lt_or_le i 0 with h | h
    · exfalso
      have h1 : pw i ≤ pw 0 := pw_mono (by omega)
      have e0 : pw 0 = 1 := by decide +kernel
      rw [e0] at h1
      have h2 := Rat.mul_le_mul_of_nonneg_left h1 (Rat.natCast_nonneg (a := m))
      have h3 := read_lt ex
      have h4 : (m : Rat) < ((2 ^ 53 : Nat) : Rat) := Rat.natCast_lt_natCast.2 h3
      rw [← pw_nat] at h4
      have e5 : pw ((53 : Nat) : Int) = pw 53 := rfl
      rw [e5] at h4
      grind
    · exact h
  obtain ⟨K, hK⟩ : ∃ K, K = Toward.down.cut false (m <<< i.toNat) (-i).toNat := ⟨_, rfl⟩
  have hf : floor x = double.write (.number false K 0) := by
    unfold floor
    rw [ex]
    simp only [Datum.integral, ← hK]
  have e1 : (-i).toNat = 0 := by omega
  have hKd : K = m * 2 ^ i.toNat := by
    rw [hK, e1]
    unfold Toward.cut
    simp [Nat.shiftLeft_eq]
  have hKx : (K : Rat) = val x := by
    rw [hKd, Rat.natCast_mul, ← pw_nat, show ((i.toNat : Nat) : Int) = i by omega, vx]
  have e0 : pw 0 = 1 := by decide +kernel
  have hd : dv false K 0 = val x := by rw [dv_false, e0, Rat.mul_one, hKx]
  have fin := small_fin false (m := K) (e := 0) hx (by rw [e0, Rat.mul_one, hKx]; exact Rat.le_refl)
  have mo := write_fmono false K 0 fin (y := x)
  rw [hf]
  refine ⟨fin, ?_⟩
  have a := mo.1 (by rw [hd]; exact Rat.le_refl)
  have b := mo.2 (by rw [hd]; exact Rat.le_refl)
  grind
theorem zr_of_val {x y r : Nat} (hx : Fnt x) (hy : Fnt y) (h : val x = val y) (hr : bin .sub (some x) (some y) = some r) : Zr r := by
  have e := eqF_val hx hy
  rw [Fnt.ab hx, Fnt.ab hy] at e
  rcases sub_self hx.num hy.num (by rw [e]; simp [h]) with h1 | ⟨r', h1, h2⟩
  · rw [hr] at h1; cases h1
  · rw [hr, Option.some.injEq] at h1
    rw [h1]; exact h2
theorem whole_big {x : Nat} (hx : Fnt x) (h : pw 53 ≤ val x ∨ val x ≤ -pw 53) : ∃ t, wholeF (some x) = some t ∧ Fnt t ∧ val t = val x := by
  unfold wholeF
  have h0 := ltF_val hx fzero.1
  rw [Fnt.ab hx, fzero.2] at h0
  rw [h0]
  have hp := pw_pos 53
  rcases h with h | h
  · rw [if_neg (by simp; grind)]
    obtain ⟨f1, f2⟩ := floor_big hx h
    exact ⟨floor x, rfl, f1, f2⟩
  · rw [if_pos (by simp; grind)]
    have hv := vneg x
    obtain ⟨f1, f2⟩ := floor_big (fin_neg hx) (by grind)
    refine ⟨neg (floor (neg x)), rfl, fin_neg f1, ?_⟩
    rw [vneg, f2, hv]
    grind
theorem wrap_big {x : Nat} (hx : Fnt x) (h : pw 53 ≤ val x ∨ val x ≤ -pw 53) : ∃ u, wrapF (some x) = some u ∧ Zr u := by
  have f1 := fin_of hx
  rw [Fnt.ab hx] at f1
  rw [wrapF_left f1]
  obtain ⟨t, t1, t2, t99399⟩ := whole_big hx h
  rw [t1]
  obtain ⟨r, hr⟩ := bin_some_sub hx t2
  have hz := zr_of_val hx t2 t99399.symm hr
  rw [hr, left_lin hz.num]
  have h' : lin r = 0 := hz
  rw [h', if_neg (by omega), if_neg (by omega)]
  exact ⟨r, rfl, hz⟩
theorem turn_big {x : Nat} (hx : Fnt x) (h : pw 53 ≤ val x ∨ val x ≤ -pw 53) : turnC (some x) = some 4607182418800017408 ∧ turnS (some x) = some 0 := by
  obtain ⟨u, h1, h2⟩ := wrap_big hx h
  have f1 := fin_of hx
  rw [Fnt.ab hx] at f1
  unfold turnC turnS
  rw [if_pos f1, if_pos f1, h1]
  exact point_zero h2
theorem good_one : Good 4607182418800017408 0 := by
  refine ⟨fone.1, fzero.1, ?_⟩
  rw [fone.2, fzero.2]
  have : 0 ≤ u53 := by decide +kernel
  unfold Near
  constructor <;> grind
theorem size_cases (x : Nat) : (val x ≤ pw 1000 ∧ -pw 1000 ≤ val x) ∨ (pw 53 ≤ val x ∨ val x ≤ -pw 53) := by
  have h := pw_mono (show (53 : Int) ≤ 1000 by omega)
  have h2 := pw_pos 53
  by_cases a : val x ≤ pw 1000
  · by_cases b : -pw 1000 ≤ val x
    · exact Or.inl ⟨a, b⟩
    · right; right; grind
  · right; left; grind
theorem turn_any {x : Nat} (hx : Fnt x) : ∃ c s, turnC (some x) = some c ∧ turnS (some x) = some s ∧ Good c s := by
  rcases size_cases x with h | h
  · exact turn_good hx h.1 h.2
  · exact ⟨_, _, (turn_big hx h).1, (turn_big hx h).2, good_one⟩
theorem turn_neg_any {x : Nat} (hx : Fnt x) : turnC (some (Go.Fl.neg x)) = turnC (some x) ∧ ∃ s s', turnS (some x) = some s ∧ turnS (some (Go.Fl.neg x)) = some s' ∧ Ov s s' := by
  rcases size_cases x with h | h
  · exact turn_neg hx h.1 h.2
  · have h' : pw 53 ≤ val (neg x) ∨ val (neg x) ≤ -pw 53 := by rw [vneg]; rcases h with h | h; (right; grind); (left; grind)
    obtain ⟨a1, a2⟩ := turn_big hx h
    obtain ⟨b1, b2⟩ := turn_big (fin_neg hx) h'
    exact ⟨b1.trans a1.symm, 0, 0, a2, b2, Or.inr ⟨lin0, lin0⟩⟩
end Go.Proofs.Ytlgejebgkkmacaa
