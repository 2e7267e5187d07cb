/- Rounding keeps an order; quotients and roots. No program is spoken of here. -/
import Derived.Test.YtlgejebgkkmacaaFs
namespace Go.Fl
open Ieee Go.RowKit

theorem mag_dvd {r L : Nat} (h : 2 ^ (52 + L) ≤ mag r) : ∃ c, mag r = c * 2 ^ L := by
  unfold mag at *
  split at h
  · rename_i h1
    have h2 : 2 ^ 52 ≤ 2 ^ (52 + L) := Nat.pow_le_pow_right (by omega) (by omega)
    omega
  · rename_i h1
    rw [if_neg h1]
    have hlt : 2 ^ 52 + r % 2 ^ 52 < 2 ^ 53 := by
      have := Nat.mod_lt r (show 0 < 2 ^ 52 by omega)
      omega
    generalize r / 2 ^ 52 - 1 = k at *
    rcases Nat.lt_or_ge k L with hk | hk
    · exfalso
      have a1 := Nat.mul_lt_mul_of_pos_right hlt (Nat.two_pow_pos k)
      rw [← Nat.pow_add] at a1
      have a2 : 2 ^ (53 + k) ≤ 2 ^ (52 + L) := Nat.pow_le_pow_right (by omega) (by omega)
      omega
    · refine ⟨(2 ^ 52 + r % 2 ^ 52) * 2 ^ (k - L), ?_⟩
      rw [Nat.mul_assoc, ← Nat.pow_add]
      congr 2
      omega
/-- A float's magnitude as a number. -/
theorem val_cases (x : Nat) : val x = (mag (x % 2 ^ 63) : Rat) * pw (-1074) ∨ val x = -((mag (x % 2 ^ 63) : Rat) * pw (-1074)) := by
  unfold val
  cases (x / 2 ^ 63 % 2 == 1)
  · left; rfl
  · right
    show ((-(mag (x % 2 ^ 63) : Int) : Int) : Rat) * pw (-1074) = _
    rw [Rat.intCast_neg, Rat.neg_mul]; rfl
/-- A float that is not below a binade's least one is a whole number of its units. -/
theorem whole_units {y : Nat} {last : Int} {Y : Rat} (hl : -1074 ≤ last) (hY : val y = Y ∨ val y = -Y) (h0 : 0 ≤ Y) (hb : last = -1074 ∨ pw (last + 52) ≤ Y) : ∃ c : Nat, Y = (c : Rat) * pw last := by
  have hp := pw_pos (-1074)
  have hm : Y = (mag (y % 2 ^ 63) : Rat) * pw (-1074) := by
    have h1 : 0 ≤ (mag (y % 2 ^ 63) : Rat) * pw (-1074) := Rat.mul_nonneg Rat.natCast_nonneg (Rat.le_of_lt hp)
    rcases val_cases y with h | h <;> rcases hY with h2 | h2 <;> grind
  rcases hb with h | h
  · rw [h]; exact ⟨_, hm⟩
  · obtain ⟨L, hL⟩ := Int.eq_ofNat_of_zero_le (show 0 ≤ last + 1074 by omega)
    have hpl : pw last = ((2 ^ L : Nat) : Rat) * pw (-1074) := by
      rw [pw_split hl, show (last - -1074).toNat = L by omega]
    have h2 : pw (last + 52) = ((2 ^ (52 + L) : Nat) : Rat) * pw (-1074) := by
      rw [pw_split (show (-1074 : Int) ≤ last + 52 by omega), show (last + 52 - -1074).toNat = 52 + L by omega]
    have h3 : 2 ^ (52 + L) ≤ mag (y % 2 ^ 63) := by
      rcases Nat.lt_or_ge (mag (y % 2 ^ 63)) (2 ^ (52 + L)) with h4 | h4
      · exfalso
        have := Rat.mul_lt_mul_of_pos_right (Rat.natCast_lt_natCast.2 h4) hp
        grind
      · exact h4
    obtain ⟨c, hc⟩ := mag_dvd h3
    refine ⟨c, ?_⟩
    rw [hm, hc, hpl, Rat.natCast_mul, Rat.mul_assoc]
theorem nat_step {a b : Nat} {p : Rat} (hp : 0 < p) (h : (a : Rat) * p < (b : Rat) * p) : (a : Rat) * p + p ≤ (b : Rat) * p := by
  have h1 : a < b := by
    rcases Nat.lt_or_ge a b with h1 | h1
    · exact h1
    · exfalso
      have := Rat.mul_le_mul_of_nonneg_right (Rat.natCast_le_natCast.2 h1) (Rat.le_of_lt hp)
      grind
  have h2 : ((a + 1 : Nat) : Rat) ≤ (b : Rat) := Rat.natCast_le_natCast.2 h1
  have h3 := Rat.mul_le_mul_of_nonneg_right h2 (Rat.le_of_lt hp)
  rw [Rat.natCast_add, Rat.add_mul] at h3
  have e : ((1 : Nat) : Rat) * p = p := Rat.one_mul p
  grind
theorem Rounds.mono {s : Bool} {m : Nat} {e : Int} {r : Nat} {last : Int} {kept : Nat} (h : Rounds s m e r last kept) {y : Nat} : (dv s m e ≤ val y → val r ≤ val y) ∧ (val y ≤ dv s m e → val y ≤ val r) := by
  have hp := pw_pos last
  have hup := h.up
  have hdn := h.down
  have hk0 : 0 ≤ (kept : Rat) * pw last := Rat.mul_nonneg Rat.natCast_nonneg (Rat.le_of_lt hp)
  have hm0 : 0 ≤ (m : Rat) * pw e := Rat.mul_nonneg Rat.natCast_nonneg (Rat.le_of_lt (pw_pos e))
  have hk52 : last = -1074 ∨ pw (last + 52) ≤ (kept : Rat) * pw last := by
    rcases h.low with h1 | h1
    · exact Or.inl h1
    · right
      have := Rat.mul_le_mul_of_nonneg_right (Rat.natCast_le_natCast.2 h1) (Rat.le_of_lt hp)
      have e1 : pw (last + 52) = ((2 ^ 52 : Nat) : Rat) * pw last := by
        rw [pw_split (show last ≤ last + 52 by omega), show (last + 52 - last).toNat = 52 by omega]
      rw [e1]; exact this
  -- a float from v on, or from the rounded number on, is a whole number of units
  have up_units : ∀ Y : Rat, (val y = Y ∨ val y = -Y) → 0 ≤ Y → ((m : Rat) * pw e ≤ Y ∨ (kept : Rat) * pw last ≤ Y) → ∃ c : Nat, Y = (c : Rat) * pw last := by
    intro Y hY h0 hb
    refine whole_units h.least hY h0 ?_
    rcases hb with hb | hb
    · rcases h.rel with h1 | h1
      · exact Or.inl h1
      · exact Or.inr (Rat.le_trans h1 hb)
    · rcases hk52 with h1 | h1
      · exact Or.inl h1
      · exact Or.inr (Rat.le_trans h1 hb)
  -- above: v ≤ Y < kept: impossible; below: kept < Y ≤ v: impossible
  have no_up : ∀ Y : Rat, (val y = Y ∨ val y = -Y) → 0 ≤ Y → (m : Rat) * pw e ≤ Y → (kept : Rat) * pw last ≤ Y := by
    intro Y hY h0 hb
    obtain ⟨c, hc⟩ := up_units Y hY h0 (Or.inl hb)
    rcases Rat.le_total (a := (kept : Rat) * pw last) (b := Y) with h1 | h1
    · exact h1
    · by_cases heq : Y = (kept : Rat) * pw last
      · grind
      · have hlt : Y < (kept : Rat) * pw last := by grind
        rw [hc] at hlt
        have := nat_step hp hlt
        grind
  have no_dn : ∀ Y : Rat, (val y = Y ∨ val y = -Y) → 0 ≤ Y → Y ≤ (m : Rat) * pw e → Y ≤ (kept : Rat) * pw last := by
    intro Y hY h0 hb
    rcases Rat.le_total (a := Y) (b := (kept : Rat) * pw last) with h1 | h1
    · exact h1
    · by_cases heq : Y = (kept : Rat) * pw last
      · grind
      · have hlt : (kept : Rat) * pw last < Y := by grind
        obtain ⟨c, hc⟩ := up_units Y hY h0 (Or.inr h1)
        rw [hc] at hlt
        have := nat_step hp hlt
        grind
  rw [h.value]
  cases s
  · rw [dv_false, dv_false]
    constructor
    · intro hv
      exact no_up (val y) (Or.inl rfl) (by grind) hv
    · intro hv
      rcases Rat.le_total (a := val y) (b := 0) with h1 | h1
      · grind
      · exact no_dn (val y) (Or.inl rfl) h1 hv
  · rw [dv_true, dv_true]
    constructor
    · intro hv
      rcases Rat.le_total (a := val y) (b := 0) with h1 | h1
      · have := no_dn (-val y) (Or.inr (by grind)) (by grind) (by grind)
        grind
      · grind
    · intro hv
      have := no_up (-val y) (Or.inr (by grind)) (by grind) (by grind)
      grind
theorem write_mono (s : Bool) (m : Nat) (e : Int) (hB : (m : Rat) * pw e ≤ pw 1000) {y : Nat} : (dv s m e ≤ val y → val (double.write (.number s m e)) ≤ val y) ∧ (val y ≤ dv s m e → val y ≤ val (double.write (.number s m e))) := by
  show (_ → val (double.nearest s m e) ≤ _) ∧ (_ → _ ≤ val (double.nearest s m e))
  rcases Nat.eq_zero_or_pos m with h0 | h0
  · subst h0
    have e1 : double.nearest s 0 e = double.word s 0 := by simp [Format.nearest]
    have e2 : dv s 0 e = 0 := by cases s <;> simp [dv, sgn]
    rw [e1, val_zero, e2]
    exact ⟨id, id⟩
  · have hlog : e + m.log2 ≤ 1000 := log_le h0 hB
    obtain ⟨last, kept, hr⟩ := rounds s (e := e) h0 (by omega)
    exact hr.mono
end Go.Fl
