/- A point of the circle, as rational numbers: its parts' squares make 1, but for a little. -/
import Derived.Test.YtlgejebgkkmacaaFr
import Derived.Test.YtlgejebgkkmacaaE
namespace Go.Proofs.Ytlgejebgkkmacaa
open Go.Fl Ieee Go.RowKit

theorem Fnt.ab {x : Nat} (h : Fnt x) : ab x = some x := ab_some h.num
theorem fin_neg {x : Nat} (h : Fnt x) : Fnt (neg x) := by
  have h1 : neg x % 2 ^ 63 = x % 2 ^ 63 := by
    show (x ^^^ 2 ^ 63) % 2 ^ 63 = _
    rw [Nat.xor_mod_two_pow]; simp
  unfold Fnt at *; rw [h1]; exact h
theorem vneg (x : Nat) : val (neg x) = -val x := by
  have h1 : neg x % 2 ^ 63 = x % 2 ^ 63 := by
    show (x ^^^ 2 ^ 63) % 2 ^ 63 = _
    rw [Nat.xor_mod_two_pow]; simp
  have h2 : neg x / 2 ^ 63 % 2 = 1 - x / 2 ^ 63 % 2 := by
    show (x ^^^ 2 ^ 63) / 2 ^ 63 % 2 = _
    rw [Nat.xor_div_two_pow, show 2 ^ 63 / 2 ^ 63 = 1 by decide]
    have := Nat.xor_mod_two_pow (a := x / 2 ^ 63) (b := 1) (n := 1)
    simp only [Nat.pow_one] at this
    rw [this]
    rcases Nat.mod_two_eq_zero_or_one (x / 2 ^ 63) with h | h <;> rw [h] <;> decide
  unfold val
  rw [h1, h2]
  rcases Nat.mod_two_eq_zero_or_one (x / 2 ^ 63) with h | h <;> rw [h] <;> simp [sgn, Rat.intCast_neg, Rat.neg_mul, Rat.neg_neg]
theorem fin_abs {x : Nat} (h : Fnt x) : Fnt (Go.Fl.abs x) := by
  unfold Fnt Go.Fl.abs at *
  rw [Nat.mod_mod]; exact h
theorem vabs (x : Nat) : val (Go.Fl.abs x) = absR (val x) := by
  have h0 : Go.Fl.abs x < 2 ^ 63 := Nat.mod_lt _ (by decide)
  have e : val (Go.Fl.abs x) = (mag (x % 2 ^ 63) : Rat) * pw (-1074) := by
    unfold val
    rw [Nat.div_eq_of_lt h0]
    unfold Go.Fl.abs
    rw [Nat.mod_mod]
    rfl
  have hp : 0 ≤ (mag (x % 2 ^ 63) : Rat) * pw (-1074) := Rat.mul_nonneg Rat.natCast_nonneg (Rat.le_of_lt (pw_pos _))
  rw [e]
  unfold absR
  rcases val_cases x with h | h
  · rw [h, if_neg (by grind)]
  · rw [h]
    split
    · grind
    · grind
theorem ltF_val {x y : Nat} (hx : Fnt x) (hy : Fnt y) : ltF (ab x) (ab y) = decide (val x < val y) := by
  unfold ltF
  rw [ord_val hx hy]
  by_cases h : val x < val y
  · simp [h]
  · by_cases h2 : val x = val y <;> simp [h, h2]
theorem gtF_val {x y : Nat} (hx : Fnt x) (hy : Fnt y) : gtF (ab x) (ab y) = decide (val y < val x) := by
  unfold gtF
  rw [ord_val hx hy]
  by_cases h : val x < val y
  · have : ¬ val y < val x := by grind
    simp [h, this]
  · by_cases h2 : val x = val y
    · rw [h2]; simp [h2 ▸ h]
    · have : val y < val x := by grind
      simp [h, h2, this]
theorem eqF_val {x y : Nat} (hx : Fnt x) (hy : Fnt y) : eqF (ab x) (ab y) = decide (val x = val y) := by
  unfold eqF
  rw [ord_val hx hy]
  by_cases h : val x < val y
  · have : ¬ val x = val y := by grind
    simp [h, this]
  · by_cases h2 : val x = val y <;> simp [h, h2]
theorem fin_iff {x : Nat} (h : fin (ab x) = true) : Fnt x := by
  obtain ⟨s, m, e, hr⟩ := fin_num h
  exact (read_num hr).2.1
theorem fin_of {x : Nat} (h : Fnt x) : fin (ab x) = true := by
  unfold fin
  have hm : Fnt 9218868437227405311 := by unfold Fnt; decide
  rw [eqF_self, h.num, ← ab_abs, gtF_val (fin_abs h) hm]
  have h1 : val (Go.Fl.abs x) ≤ val 9218868437227405311 := by
    have e1 : ord (ab (Go.Fl.abs x)) (ab 9218868437227405311) = some (compare (lin (Go.Fl.abs x)) (lin 9218868437227405311)) := by
      rw [← order_ab]; exact order_lin (fin_abs h).num hm.num
    rw [ord_val (fin_abs h) hm] at e1
    have l1 : lin 9218868437227405311 = 9218868437227405311 := by decide +kernel
    have l3 : lin (Go.Fl.abs x) = ((x % 2 ^ 63 : Nat) : Int) := by
      have : Go.Fl.abs x < 2 ^ 63 := Nat.mod_lt _ (by decide)
      rw [lin_low this]; rfl
    unfold Fnt at h
    rw [l1, l3, Int.compare_eq_ite_lt] at e1
    by_cases h2 : val (Go.Fl.abs x) < val 9218868437227405311
    · grind
    · by_cases h3 : val (Go.Fl.abs x) = val 9218868437227405311
      · grind
      · rw [if_neg h2, if_neg h3] at e1
        split at e1
        · simp at e1
        · split at e1
          · omega
          · simp at e1
  simp
  grind

/-! The whole part. -/
theorem write_same {s : Bool} {m : Nat} {e : Int} {y : Nat} (hB : (m : Rat) * pw e ≤ pw 1000) (h : dv s m e = val y) : val (double.write (.number s m e)) = val y := by
  have := write_mono s m e hB (y := y)
  have a := this.1 (by grind)
  have b := this.2 (by grind)
  grind
theorem floor_val {x : Nat} (hx : Fnt x) (h0 : 0 ≤ val x) (hB : val x ≤ pw 1000) : Fnt (floor x) ∧ val (floor x) ≤ val x ∧ val x ≤ val (floor x) + 1 ∧ 0 ≤ val (floor x) := by
  obtain ⟨s, m, i, ex⟩ := fin_read hx
  have vx := val_read ex
  have hp := pw_pos i
  have hm0 : 0 ≤ (m : Rat) * pw i := Rat.mul_nonneg Rat.natCast_nonneg (Rat.le_of_lt hp)
  have hx' : val x = (m : Rat) * pw i := by
    cases s
    · rw [vx, dv_false]
    · rw [dv_true] at vx; grind
  have hsm : s = true → m = 0 := by
    intro hs
    subst hs
    rw [dv_true] at vx
    have h0 : (m : Rat) * pw i = 0 := by grind
    rcases Nat.eq_zero_or_pos m with h1 | h1
    · exact h1
    · have := Rat.mul_pos (Rat.natCast_pos.2 h1) hp
      grind
  obtain ⟨K, hK⟩ : ∃ K, K = Toward.down.cut s (m <<< i.toNat) (-i).toNat := ⟨_, rfl⟩
  have hf : floor x = double.write (.number s K 0) := by
    unfold floor
    rw [ex]
    simp only [Datum.integral, ← hK]
  -- K is the whole part
  have hKd : K = m * 2 ^ i.toNat / 2 ^ (-i).toNat := by
    rw [hK]
    unfold Toward.cut
    simp only [shl, Nat.one_mul]
    have hmore : ∀ r : Nat, (m = 0 → r = 0) → (s && r != 0).toNat = 0 := by
      intro r hr
      cases s
      · rfl
      · rw [hr (hsm rfl)]; rfl
    rw [hmore _ (fun h => by rw [h]; simp), Nat.add_zero]
    generalize m * 2 ^ i.toNat = n
    rcases Nat.lt_or_ge (n.log2 + 2) ((-i).toNat) with h | h
    · rw [Nat.min_eq_right (Nat.le_of_lt h)]
      have hn : n < 2 ^ (n.log2 + 1) := Nat.lt_log2_self
      have a1 : 2 ^ (n.log2 + 1) ≤ 2 ^ (n.log2 + 2) := Nat.pow_le_pow_right (by omega) (by omega)
      have a2 : 2 ^ (n.log2 + 2) ≤ 2 ^ ((-i).toNat) := Nat.pow_le_pow_right (by omega) (by omega)
      rw [Nat.div_eq_of_lt (by omega), Nat.div_eq_of_lt (by omega)]
    · rw [Nat.min_eq_left h]
  have hz0 : s = true → K = 0 := fun hs => by rw [hKd, hsm hs]; simp
  have hdvK : dv s K 0 = (K : Rat) := by
    have e0 : pw 0 = 1 := by decide +kernel
    cases hs : s
    · rw [dv_false, e0, Rat.mul_one]
    · rw [dv_true, hz0 hs, e0]
      have z : ((0 : Nat) : Rat) = 0 := rfl
      rw [z]; grind
  rcases Int.le_total 0 i with hi | hi
  · -- whole already
    have e1 : (-i).toNat = 0 := by omega
    have hKx : (K : Rat) = val x := by
      rw [hKd, e1, Nat.pow_zero, Nat.div_one, hx', Rat.natCast_mul, ← pw_nat, show ((i.toNat : Nat) : Int) = i by omega]
    have hb : (K : Rat) * pw 0 ≤ pw 1000 := by
      have e0 : pw 0 = 1 := by decide +kernel
      rw [e0, Rat.mul_one, hKx]; exact hB
    have hv : val (floor x) = val x := by
      rw [hf]; exact write_same hb (by rw [hdvK, hKx])
    have hfin := (write_near s K 0 hb (Rat.le_refl)).1
    rw [← hf] at hfin
    exact ⟨hfin, by grind, by grind, by grind⟩
  · have e1 : i.toNat = 0 := by omega
    rw [e1, Nat.pow_zero, Nat.mul_one] at hKd
    have hm53 := read_lt ex
    have hK53 : K < 2 ^ 53 := by
      rw [hKd]; exact Nat.lt_of_le_of_lt (Nat.div_le_self _ _) hm53
    obtain ⟨d, hd⟩ : ∃ d, d = (-i).toNat := ⟨_, rfl⟩
    rw [← hd] at hKd
    have hxi : val x * ((2 ^ d : Nat) : Rat) = (m : Rat) := by
      rw [hx', ← pw_nat, Rat.mul_assoc, ← pw_add, show i + (d : Int) = 0 by omega]
      have e0 : pw 0 = 1 := by decide +kernel
      rw [e0, Rat.mul_one]
    have hpd := Nat.two_pow_pos d
    have hpdR : (0 : Rat) < ((2 ^ d : Nat) : Rat) := Rat.natCast_pos.2 hpd
    have hdm := Nat.div_add_mod m (2 ^ d)
    have hlt := Nat.mod_lt m hpd
    rw [← hKd] at hdm
    have k1 : K * 2 ^ d ≤ m := by rw [Nat.mul_comm]; omega
    have k2 : m ≤ (K + 1) * 2 ^ d := by rw [Nat.add_mul, Nat.mul_comm]; omega
    have k1' : (K : Rat) * ((2 ^ d : Nat) : Rat) ≤ (m : Rat) := by rw [← Rat.natCast_mul]; exact Rat.natCast_le_natCast.2 k1
    have k2' : (m : Rat) ≤ ((K : Rat) + 1) * ((2 ^ d : Nat) : Rat) := by
      have := Rat.natCast_le_natCast.2 k2
      rw [Rat.natCast_mul, Rat.natCast_add] at this
      exact this
    rw [← hxi] at k1' k2'
    have q1 : (K : Rat) ≤ val x := le_of_mul hpdR k1'
    have q2 : val x ≤ (K : Rat) + 1 := le_of_mul hpdR k2'
    have hb : (K : Rat) * pw 0 ≤ pw 1000 := by
      have e0 : pw 0 = 1 := by decide +kernel
      rw [e0, Rat.mul_one]; exact Rat.le_trans q1 hB
    have hv : val (floor x) = (K : Rat) := by
      rw [hf]
      rcases Nat.eq_zero_or_pos K with h1 | h1
      · rw [write_same (y := 0) hb (by rw [hdvK, h1, val0]; rfl), val0, h1]; rfl
      · have hlog : K.log2 ≤ 52 := by
          rcases Nat.lt_or_ge 52 K.log2 with h2 | h2
          · have a1 := Nat.log2_self_le (show K ≠ 0 by omega)
            have a2 := Nat.pow_le_pow_right (show 0 < 2 by omega) (show 53 ≤ K.log2 by omega)
            omega
          · exact h2
        obtain ⟨last, kept, hr⟩ := rounds s (e := 0) h1 (by omega)
        show val (double.nearest s K 0) = _
        obtain ⟨_, n2⟩ := hr.near
        have hex : last ≤ 0 → (kept : Rat) * pw last = (K : Rat) * pw 0 := hr.exact
        have hl : last ≤ 0 := by
          rcases hr.rel with h2 | h2
          · omega
          · have := log_le (N := 53) (m := K) (e := 0) h1 (by
              have e0 : pw 0 = 1 := by decide +kernel
              have e53 : pw 53 = ((2 ^ 53 : Nat) : Rat) := pw_nat 53
              rw [e0, Rat.mul_one, e53]; exact Rat.natCast_le_natCast.2 (by omega))
            rcases Int.lt_or_le 0 last with h3 | h3
            · exfalso
              have a1 := pw_mono (show (53 : Int) ≤ last + 52 by omega)
              have e0 : pw 0 = 1 := by decide +kernel
              have e53 : pw 53 = ((2 ^ 53 : Nat) : Rat) := pw_nat 53
              have a2 : (K : Rat) < ((2 ^ 53 : Nat) : Rat) := Rat.natCast_lt_natCast.2 hK53
              rw [e0, Rat.mul_one] at h2
              rw [e53] at a1
              grind
            · exact h3
        have e2 := hex hl
        rw [hr.value]
        cases hs : s
        · rw [dv_false, e2]
          have e0 : pw 0 = 1 := by decide +kernel
          rw [e0, Rat.mul_one]
        · exfalso
          have := hz0 hs
          omega
    have hfin := (write_near s K 0 hb (Rat.le_refl)).1
    rw [← hf] at hfin
    have hK0 : (0 : Rat) ≤ (K : Rat) := Rat.natCast_nonneg
    exact ⟨hfin, by grind, by grind, by grind⟩
end Go.Proofs.Ytlgejebgkkmacaa
