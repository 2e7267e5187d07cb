/- Means of whole numbers keep their order. No program. -/
import Derived.Test.YtfggdaebahdnfaaYb
namespace Go.Proofs.Ytfggdaebahdnfaa
open Go.ChangeShapes Go.WideShapes Go.ChangeAt Go.RowKit Go.Fl Ieee

/-- No quotient of whole numbers that are so small stands just between two floats. -/
theorem no_tie {a n N : Nat} {E : Int} (ha : a < 2 ^ 52) (hn : 0 < n) (hE : E ≤ 52) (hN : 2 ^ 52 ≤ 2 * N - 1) (h : ((2 * N - 1 : Nat) : Rat) * pw (E - 53) * (n : Rat) = (a : Rat)) : False := by
  obtain ⟨k, hk⟩ : ∃ k : Nat, E - 53 = -((k + 1 : Nat) : Int) := ⟨(53 - E - 1).toNat, by omega⟩
  have hp := pw_pos ((k + 1 : Nat) : Int)
  have e1 : pw (E - 53) * pw ((k + 1 : Nat) : Int) = 1 := by
    rw [← pw_add, hk, show -((k + 1 : Nat) : Int) + ((k + 1 : Nat) : Int) = 0 by omega]; rfl
  have h2 : (((2 * N - 1) * n : Nat) : Rat) = ((a * 2 ^ (k + 1) : Nat) : Rat) := by
    rw [Rat.natCast_mul, Rat.natCast_mul, ← h, ← pw_nat]
    have : ((2 * N - 1 : Nat) : Rat) * pw (E - 53) * (n : Rat) * pw ((k + 1 : Nat) : Int) = ((2 * N - 1 : Nat) : Rat) * (n : Rat) * (pw (E - 53) * pw ((k + 1 : Nat) : Int)) := by grind
    rw [this, e1, Rat.mul_one]
  have h3 : (2 * N - 1) * n = a * 2 ^ (k + 1) := by exact_mod_cast h2
  have hd : 2 ^ (k + 1) ∣ (2 * N - 1) * n := ⟨a, by rw [h3, Nat.mul_comm]⟩
  have hc : Nat.Coprime (2 ^ (k + 1)) (2 * N - 1) := Nat.Coprime.pow_left _ (by
    rw [Nat.coprime_iff_gcd_eq_one]
    have h5 : (2 * N - 1) % 2 = 1 := by omega
    rw [Nat.gcd_rec, h5]; rfl)
  obtain ⟨c, hc2⟩ := hc.dvd_of_dvd_mul_left hd
  have hc0 : 0 < c := by
    rcases Nat.eq_zero_or_pos c with g | g
    · subst g; simp at hc2; omega
    · exact g
  have h6 : (2 * N - 1) * c = a := by
    have hpos : 0 < 2 ^ (k + 1) := Nat.pos_of_ne_zero (by simp)
    refine Nat.eq_of_mul_eq_mul_right hpos ?_
    rw [← h3, hc2, Nat.mul_assoc, Nat.mul_comm c]
  have h7 : 2 * N - 1 ≤ (2 * N - 1) * c := Nat.le_mul_of_pos_right _ hc0
  omega
/-- A quotient of whole numbers has its place. -/
theorem place_quo {a n : Nat} (ha : 0 < a) (ha2 : a < 2 ^ 52) (hn : 0 < n) (hn2 : n < 2 ^ 20) {κ : Rat} (hκ : κ * (n : Rat) = (a : Rat)) : ∃ E : Int, -60 ≤ E ∧ E ≤ 52 ∧ pw E ≤ κ ∧ κ < pw (E + 1) := by
  have hn' : 0 < (n : Rat) := Rat.natCast_pos.2 hn
  obtain ⟨M, hM⟩ : ∃ M, M = a * 2 ^ 40 / n := ⟨_, rfl⟩
  have hM0 : 0 < M := by
    rw [hM]
    refine Nat.div_pos ?_ hn
    have : 2 ^ 40 ≤ a * 2 ^ 40 := Nat.le_mul_of_pos_left _ ha
    have : n < 2 ^ 40 := Nat.lt_trans hn2 (by decide)
    omega
  have m1 : M * n ≤ a * 2 ^ 40 := by rw [hM]; exact Nat.div_mul_le_self _ _
  have m2 : a * 2 ^ 40 < (M + 1) * n := by
    have := Nat.div_add_mod (a * 2 ^ 40) n
    have := Nat.mod_lt (a * 2 ^ 40) hn
    rw [← hM] at *
    rw [Nat.add_mul, Nat.mul_comm M n]; omega
  have l1 : 2 ^ M.log2 ≤ M := Nat.log2_self_le (by omega)
  have l2 : M + 1 ≤ 2 ^ (M.log2 + 1) := Nat.lt_log2_self
  have p40 : κ * pw ((40 : Nat) : Int) * (n : Rat) = ((a * 2 ^ 40 : Nat) : Rat) := by
    rw [Rat.natCast_mul, ← pw_nat, ← hκ]; grind
  have a1 : pw (M.log2 : Int) ≤ κ * pw ((40 : Nat) : Int) := by
    refine le_of_mul hn' ?_
    rw [p40, pw_nat, ← Rat.natCast_mul]
    exact Rat.natCast_le_natCast.2 (Nat.le_trans (Nat.mul_le_mul_right n l1) m1)
  have a2 : κ * pw ((40 : Nat) : Int) < pw ((M.log2 + 1 : Nat) : Int) := by
    rcases rat_lt_or_le (κ * pw ((40 : Nat) : Int)) (pw ((M.log2 + 1 : Nat) : Int)) with g | g
    · exact g
    · exfalso
      have b := Rat.mul_le_mul_of_nonneg_right g (Rat.le_of_lt hn')
      rw [p40, pw_nat, ← Rat.natCast_mul] at b
      have c := Rat.natCast_le_natCast.1 b
      have d := Nat.mul_le_mul_right n l2
      omega
  have h40 := pw_pos ((40 : Nat) : Int)
  have s1 : pw ((M.log2 : Int) - 40) * pw ((40 : Nat) : Int) = pw (M.log2 : Int) := by rw [← pw_add]; exact congrArg pw (by omega)
  have s2 : pw ((M.log2 : Int) - 40 + 1) * pw ((40 : Nat) : Int) = pw ((M.log2 + 1 : Nat) : Int) := by rw [← pw_add]; exact congrArg pw (by omega)
  have lo : pw ((M.log2 : Int) - 40) ≤ κ := le_of_mul h40 (by rw [s1]; exact a1)
  have hi : κ < pw ((M.log2 : Int) - 40 + 1) := by
    rcases rat_lt_or_le κ (pw ((M.log2 : Int) - 40 + 1)) with g | g
    · exact g
    · exfalso
      have b := Rat.mul_le_mul_of_nonneg_right g (Rat.le_of_lt h40)
      rw [s2] at b
      exact not_le_lt b a2
  refine ⟨(M.log2 : Int) - 40, by omega, ?_, lo, hi⟩
  rcases Int.lt_or_le 52 ((M.log2 : Int) - 40) with g | g
  · exfalso
    have k1 := pw_lt g
    have k2 : κ ≤ (a : Rat) := by
      have : κ * 1 ≤ κ * (n : Rat) := by
        have h0 : 0 ≤ κ := Rat.le_trans (Rat.le_of_lt (pw_pos _)) lo
        have h1 : (1 : Rat) ≤ (n : Rat) := by
          have := Rat.natCast_le_natCast.2 (show 1 ≤ n by omega); exact this
        exact Rat.mul_le_mul_of_nonneg_left h1 h0
      rw [Rat.mul_one, hκ] at this; exact this
    have k3 : (a : Rat) ≤ pw ((52 : Nat) : Int) := by rw [pw_nat]; exact Rat.natCast_le_natCast.2 (Nat.le_of_lt ha2)
    have k4 : pw ((52 : Nat) : Int) = pw 52 := rfl
    exact not_le_lt (Rat.le_trans lo (Rat.le_trans k2 k3)) (by rw [k4]; exact k1)
  · exact g
/-- Of two quotients of whole numbers the greater one stays so. -/
theorem quo_two {x y x' y' r q a n b m : Nat} (fx : Fnt x) (fy : Fnt y) (fx' : Fnt x') (fy' : Fnt y') (vx : val x = (a : Rat)) (vy : val y = (n : Rat)) (vx' : val x' = (b : Rat)) (vy' : val y' = (m : Rat)) (ha : a < 2 ^ 52) (hn : 0 < n) (hn2 : n < 2 ^ 20) (hb : b < 2 ^ 52) (hm : 0 < m) (hm2 : m < 2 ^ 20) (hle : a * m ≤ b * n)
    (h1 : bin .quo (some x) (some y) = some r) (h2 : bin .quo (some x') (some y') = some q) : val r ≤ val q := by
  have hn' : 0 < (n : Rat) := Rat.natCast_pos.2 hn
  have hm' : 0 < (m : Rat) := Rat.natCast_pos.2 hm
  obtain ⟨κ, hκ⟩ : ∃ κ : Rat, κ * (n : Rat) = (a : Rat) := ⟨(a : Rat) / (n : Rat), Rat.div_mul_cancel (by grind)⟩
  obtain ⟨η, hη⟩ : ∃ κ : Rat, κ * (m : Rat) = (b : Rat) := ⟨(b : Rat) / (m : Rat), Rat.div_mul_cancel (by grind)⟩
  have a0 : (0 : Rat) ≤ (a : Rat) := Rat.natCast_nonneg
  have b0 : (0 : Rat) ≤ (b : Rat) := Rat.natCast_nonneg
  have κ0 : 0 ≤ κ := le_of_mul (a := 0) hn' (by rw [hκ, Rat.zero_mul]; exact a0)
  have η0 : 0 ≤ η := le_of_mul (a := 0) hm' (by rw [hη, Rat.zero_mul]; exact b0)
  have hke : κ ≤ η := by
    have e1 : κ * ((n : Rat) * (m : Rat)) = ((a * m : Nat) : Rat) := by rw [Rat.natCast_mul, ← hκ]; grind
    have e2 : η * ((n : Rat) * (m : Rat)) = ((b * n : Nat) : Rat) := by rw [Rat.natCast_mul, ← hη]; grind
    refine le_of_mul (Rat.mul_pos hn' hm') ?_
    rw [e1, e2]
    exact Rat.natCast_le_natCast.2 hle
  have big : ∀ (κ : Rat) (a n : Nat), 0 < n → a < 2 ^ 52 → 0 ≤ κ → κ * (n : Rat) = (a : Rat) → κ ≤ pw 52 := fun κ a n hn ha h0 hκ => by
    have h1 : (1 : Rat) ≤ (n : Rat) := Rat.natCast_le_natCast.2 (show 1 ≤ n by omega)
    have := Rat.mul_le_mul_of_nonneg_left h1 h0
    rw [Rat.mul_one, hκ] at this
    have k3 : (a : Rat) ≤ pw ((52 : Nat) : Int) := by rw [pw_nat]; exact Rat.natCast_le_natCast.2 (Nat.le_of_lt ha)
    exact Rat.le_trans this k3
  have bκ := big κ a n hn ha κ0 hκ
  have bη := big η b m hm hb η0 hη
  have p990 : pw 52 ≤ pw 990 := pw_mono (by omega)
  have sr : Sd κ r := fun z => quo_mono fx fy (by rw [vx]; exact a0) (by rw [vy]; exact hn') h1 (by rw [vy, vx]; exact hκ) bκ p990
  have sq : Sd η q := fun z => quo_mono fx' fy' (by rw [vx']; exact b0) (by rw [vy']; exact hm') h2 (by rw [vy', vx']; exact hη) bη p990
  rcases Nat.eq_zero_or_pos a with g | g
  · subst g
    have e0 : κ = 0 := by
      have := le_of_mul (a := κ) (b := 0) hn' (by rw [hκ, Rat.zero_mul]; exact Rat.le_refl)
      grind
    have u1 := (sr 0).1 (by rw [e0, val0]; exact Rat.le_refl)
    have u2 := (sq 0).2 (by rw [val0]; exact η0)
    exact Rat.le_trans u1 u2
  have pa : 0 < (a : Rat) := Rat.natCast_pos.2 g
  have hb0 : 0 < b := by
    rcases Nat.eq_zero_or_pos b with g2 | g2
    · subst g2
      have : 0 < a * m := Nat.mul_pos g hm
      omega
    · exact g2
  have pb : 0 < (b : Rat) := Rat.natCast_pos.2 hb0
  obtain ⟨E, hE1, hE2, lo, hi⟩ := place_quo g ha hn hn2 hκ
  obtain ⟨E', hE1', hE2', lo', hi'⟩ := place_quo hb0 hb hm hm2 hη
  have hr : Hf E κ r := quo_half fx fy (by rw [vx]; exact pa) (by rw [vy]; exact hn') h1 (by rw [vy, vx]; exact hκ) (by omega) (by omega) lo hi
  have hq : ∀ F, -900 ≤ F → F ≤ 900 → pw F ≤ η → η < pw (F + 1) → Hf F η q := fun F f1 f2 l u => quo_half fx' fy' (by rw [vx']; exact pb) (by rw [vy']; exact hm') h2 (by rw [vy', vx']; exact hη) f1 f2 l u
  have k := two_keep (η := η) (q := q) ⟨by omega, Or.inr lo, hi⟩ hke hr sr sq (fun F hF => by
    have f0 : -900 ≤ F := by
      rcases Int.lt_or_le F (-900) with l | l
      · exfalso
        have := pw_mono (show F + 1 ≤ E' by omega)
        exact not_le_lt (Rat.le_trans this lo') hF.hi
      · exact l
    have f1 : pw F ≤ η := by
      rcases hF.lo with l | l
      · omega
      · exact l
    refine hq F f0 ?_ f1 hF.hi
    rcases Int.lt_or_le 900 F with l | l
    · exfalso
      have := pw_lt (show (52 : Int) < F by omega)
      exact not_le_lt (Rat.le_trans f1 bη) this
    · exact l) (pw_float (by omega) (by omega))
  rcases k with k | k
  · exact k
  · subst k
    have h2' := hq E (by omega) (by omega) lo hi
    obtain ⟨N, hN⟩ := hr.units
    obtain ⟨M, hM⟩ := h2'.units
    have hp := pw_pos (E - 52)
    rcases Nat.lt_or_ge M N with l | l
    · exfalso
      have e1 : (M : Rat) + 1 ≤ (N : Rat) := by
        have := Rat.natCast_le_natCast.2 (show M + 1 ≤ N by omega)
        rw [Rat.natCast_add] at this; exact this
      have e2 := Rat.mul_le_mul_of_nonneg_right e1 (Rat.le_of_lt hp)
      rw [Rat.add_mul, Rat.one_mul, ← hN, ← hM] at e2
      have u1 := hr.up
      have u2 := h2'.down
      have e3 : 2 * κ = 2 * val r - pw (E - 52) := by grind
      have half := pw_half (E - 52)
      rw [show E - 52 - 1 = E - 53 by omega] at half
      have hN52 : 2 ^ 52 ≤ N := by
        obtain ⟨z, hz⟩ := pw_float (E := E) (by omega) (by omega)
        have w := (sr z).2 (by rw [hz]; exact lo)
        rw [hz, hN] at w
        have e4 : pw E = ((2 ^ 52 : Nat) : Rat) * pw (E - 52) := by rw [← pw_nat, ← pw_add]; exact congrArg pw (by omega)
        rw [e4] at w
        exact Rat.natCast_le_natCast.1 (le_of_mul hp w)
      have c1 : ((2 * N - 1 : Nat) : Rat) = 2 * (N : Rat) - 1 := by
        have : ((2 * N - 1 : Nat) : Rat) + 1 = ((2 * N : Nat) : Rat) := by
          rw [show (1 : Rat) = ((1 : Nat) : Rat) from rfl, ← Rat.natCast_add, show 2 * N - 1 + 1 = 2 * N by omega]
        rw [Rat.natCast_mul] at this
        have e2 : ((2 : Nat) : Rat) = 2 := rfl
        rw [e2] at this
        grind
      refine no_tie ha hn hE2 (by omega) (N := N) (E := E) ?_
      rw [c1, ← hκ]
      have e5 : (2 * (N : Rat) - 1) * pw (E - 53) * 2 = 2 * κ := by
        rw [e3, hN, ← half]; grind
      have e6 : (2 * (N : Rat) - 1) * pw (E - 53) = κ := by grind
      rw [e6]
    · rw [hN, hM]
      exact Rat.mul_le_mul_of_nonneg_right (Rat.natCast_le_natCast.2 l) (Rat.le_of_lt hp)
end Go.Proofs.Ytfggdaebahdnfaa
