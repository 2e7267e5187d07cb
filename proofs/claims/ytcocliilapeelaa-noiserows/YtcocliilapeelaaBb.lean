/- What Float and Bell tell, as numbers. -/
import Derived.Test.YtcocliilapeelaaBa
import Derived.Test.YtcocliilapeelaaLm
namespace Go.Proofs.Ytcocliilapeelaa
open Go.Fl Ieee Go.RowKit

theorem pw1000 : (13 : Rat) ≤ pw 1000 := by
  have h := pw_mono (show (4 : Int) ≤ 1000 by omega)
  have e : pw 4 = 16 := by decide +kernel
  rw [e] at h
  grind
/-- A Float is a whole number of 2^-53, from 0 to below 1. -/
theorem flt_val (s : Int) : ∃ (r K : Nat), fltF s = some r ∧ K < 2 ^ 53 ∧ Fnt r ∧ val r = (K : Rat) * pw (-53) ∧ ab r = some r := by
  obtain ⟨h1, h2⟩ := stir_range (adv s 1)
  obtain ⟨K, hK⟩ : ∃ K : Nat, stir (adv s 1) / 2048 = (K : Int) := ⟨(stir (adv s 1) / 2048).toNat, by omega⟩
  have hlt : K < 2 ^ 53 := by omega
  obtain ⟨f1, v1⟩ := int_val hlt
  have hp := pw_pos (-53)
  have e53 : pw (-53) = 1 / 9007199254740992 := pw53
  have hK1 : (K : Rat) < 9007199254740992 := by
    have : (K : Rat) < ((2 ^ 53 : Nat) : Rat) := Rat.natCast_lt_natCast.2 hlt
    exact this
  have hK0 : (0 : Rat) ≤ (K : Rat) := Rat.natCast_nonneg
  have hm : (K : Rat) * pw (-53) ≤ 1 := by rw [e53]; grind
  have h1000 := pw1000
  obtain ⟨fy, vy⟩ := exact_write false (e := -53) hlt (by omega) (by grind)
  rw [dv_false] at vy
  obtain ⟨r, hr, fr, vr⟩ := quo53 (x := floatOfInt .f64 (K : Int)) (y := double.write (.number false K (-53))) f1
    (by rw [vy]; have : 0 ≤ (K : Rat) * pw (-53) := Rat.mul_nonneg hK0 (Rat.le_of_lt hp); grind) (by rw [vy, v1])
  refine ⟨r, K, ?_, hlt, fr, by rw [vr, vy], Fnt.ab fr⟩
  unfold fltF
  rw [hK, Fnt.ab f1]
  exact hr
theorem flt_range {r K : Nat} (hK : K < 2 ^ 53) (h : val r = (K : Rat) * pw (-53)) : 0 ≤ val r ∧ val r < 1 := by
  have e53 : pw (-53) = 1 / 9007199254740992 := pw53
  have hK1 : (K : Rat) < 9007199254740992 := by
    have : (K : Rat) < ((2 ^ 53 : Nat) : Rat) := Rat.natCast_lt_natCast.2 hK
    exact this
  have hK0 : (0 : Rat) ≤ (K : Rat) := Rat.natCast_nonneg
  rw [h, e53]
  grind
theorem sum_range (s : Int) : ∀ k : Nat, k ≤ 11 → ∃ r, sumF s k = some r ∧ Fnt r ∧ 0 ≤ val r ∧ val r ≤ (k : Rat) + 1
  | 0, _ => by
    obtain ⟨r, K, h1, hK, fr, vr, _⟩ := flt_val s
    obtain ⟨h2, h3⟩ := flt_range hK vr
    exact ⟨r, h1, fr, h2, by simp; grind⟩
  | k + 1, hk => by
    obtain ⟨x, hx, fx, x0, x1⟩ := sum_range s k (by omega)
    obtain ⟨y, K, hy, hK, fy, vy, _⟩ := flt_val (it s (k + 1))
    obtain ⟨y0, y1⟩ := flt_range hK vy
    obtain ⟨r, hr⟩ := bin_some_add fx fy
    have h1000 := pw1000
    have hk2 : (k : Rat) ≤ 11 := by
      have : (k : Rat) ≤ ((11 : Nat) : Rat) := Rat.natCast_le_natCast.2 (by omega)
      exact this
    obtain ⟨fr, _⟩ := add_near fx fy hr (B := pw 1000) (by grind) (by grind) Rat.le_refl
    obtain ⟨fz, vz⟩ := int_val (K := k + 2) (by omega)
    have ev : (((k + 2 : Nat) : Rat)) = (k : Rat) + 2 := by rw [Rat.natCast_add]; rfl
    have m1 := (add_mono fx fy hr (by grind) (by grind) (z := floatOfInt .f64 ((k + 2 : Nat) : Int))).1 (by rw [vz, ev]; grind)
    have m2 := (add_mono fx fy hr (by grind) (by grind) (z := 0)).2 (by rw [val0]; grind)
    refine ⟨r, ?_, fr, by rw [val0] at m2; exact m2, ?_⟩
    · show bin .add (sumF s k) (fltF (it s (k + 1))) = _
      rw [hx, hy]; exact hr
    · rw [vz, ev] at m1
      rw [Rat.natCast_add]
      have : ((1 : Nat) : Rat) = 1 := rfl
      grind
theorem fsix : Fnt 4618441417868443648 ∧ val 4618441417868443648 = 6 := ⟨by unfold Fnt; decide, by decide +kernel⟩
theorem fmsix : Fnt 13841813454723219456 ∧ val 13841813454723219456 = -6 := ⟨by unfold Fnt; decide, by decide +kernel⟩
/-- The least that a Bell may be, but for 0. -/
theorem fleast : Fnt 4382002437431492608 ∧ val 4382002437431492608 = pw (-50) := ⟨by unfold Fnt; decide, by decide +kernel⟩
theorem fmleast : Fnt 13605374474286268416 ∧ val 13605374474286268416 = -pw (-50) := ⟨by unfold Fnt; decide, by decide +kernel⟩
/-- A Bell is from -6 to 6, and 0 or not near to it. -/
def BL (o : Option Nat) : Prop := ∃ r, o = some r ∧ Fnt r ∧ -6 ≤ val r ∧ val r ≤ 6 ∧ (val r = 0 ∨ pw (-50) ≤ val r ∨ val r ≤ -pw (-50)) ∧ ab r = some r
theorem bell_val (s : Int) : BL (bellF s) := by
  obtain ⟨x, hx, fx, x0, x1⟩ := sum_range s 11 (by omega)
  obtain ⟨f6, v6⟩ := fsix
  have h1000 := pw1000
  have e11 : ((11 : Nat) : Rat) = 11 := rfl
  rw [e11] at x1
  obtain ⟨r, hr⟩ := bin_some_sub fx f6
  have b1 : val x - val 4618441417868443648 ≤ pw 1000 := by rw [v6]; grind
  have b2 : -pw 1000 ≤ val x - val 4618441417868443648 := by rw [v6]; grind
  obtain ⟨fr, _⟩ := sub_near fx f6 hr (B := pw 1000) b1 b2 Rat.le_refl
  have mono := fun z => sub_mono fx f6 hr b1 b2 (z := z)
  have u1 := (mono 4618441417868443648).1 (by rw [v6]; grind)
  have u2 := (mono 13841813454723219456).2 (by rw [v6, fmsix.2]; grind)
  rw [v6] at u1
  rw [fmsix.2] at u2
  have p50 : pw (-50) = 1 / 1125899906842624 := by decide +kernel
  have key : val x = 6 ∨ val x - 6 ≥ pw (-50) ∨ val x - 6 ≤ -pw (-50) := by
    by_cases h4 : (4 : Rat) ≤ val x
    · have e4 : pw (-50 + 52) = 4 := by decide +kernel
      obtain ⟨c, hc⟩ := whole_units (y := x) (last := -50) (Y := val x) (by omega) (Or.inl rfl) x0 (Or.inr (by rw [e4]; exact h4))
      rw [p50] at hc ⊢
      rcases Nat.lt_trichotomy c 6755399441055744 with h | h | h
      · right; right
        have : (c : Rat) + 1 ≤ 6755399441055744 := by
          have h2 : ((c + 1 : Nat) : Rat) ≤ ((6755399441055744 : Nat) : Rat) := Rat.natCast_le_natCast.2 (by omega)
          rw [Rat.natCast_add] at h2
          exact h2
        grind
      · left
        subst h
        rw [hc]
        decide +kernel
      · right; left
        have : (6755399441055744 : Rat) + 1 ≤ (c : Rat) := by
          have h2 : ((6755399441055744 + 1 : Nat) : Rat) ≤ (c : Rat) := Rat.natCast_le_natCast.2 (by omega)
          rw [Rat.natCast_add] at h2
          exact h2
        grind
    · right; right
      rw [p50]
      grind
  refine ⟨r, ?_, fr, u2, u1, ?_, Fnt.ab fr⟩
  · show bin .sub (sumF s 11) (ab 4618441417868443648) = _
    rw [hx, Fnt.ab f6]; exact hr
  · rcases key with h | h | h
    · left
      have a1 := (mono 0).1 (by rw [v6, val0, h]; decide +kernel)
      have a2 := (mono 0).2 (by rw [v6, val0, h]; decide +kernel)
      rw [val0] at a1 a2
      exact Rat.le_antisymm a1 a2
    · right; left
      have a2 := (mono 4382002437431492608).2 (by rw [v6, fleast.2]; exact h)
      rw [fleast.2] at a2
      exact a2
    · right; right
      have a1 := (mono 13605374474286268416).1 (by rw [v6, fmleast.2]; exact h)
      rw [fmleast.2] at a1
      exact a1
theorem bell_eq {s : Int} {r r' : Nat} (h : ab r = bellF s) (h' : ab r' = bellF s) : eqF (ab r) (ab r') = true := by
  obtain ⟨x, hx, _, _, _, _, hab⟩ := bell_val s
  rw [h, h', hx, ← hab, eqF_self]
  have : isN x = false := by
    unfold ab at hab
    split at hab
    · cases hab
    · simp_all
  rw [this]; rfl
end Go.Proofs.Ytcocliilapeelaa
