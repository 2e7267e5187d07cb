/- Windows: their floats are from 0 to 1, and alike from both ends. -/
import Derived.Test.YtoncdgkcmbainabWd
import Derived.Laws.FloatBits
namespace Go.Proofs.Ytoncdgkcmbainab
open Go.ChangeShapes Go.WideShapes Go.ChangeAt Go.RowKit Go.Fl Ieee

theorem val_inj {x y : Nat} (hx : x < 2 ^ 64) (hy : y < 2 ^ 64) (h : val x = val y) (h0 : 0 < val x ∨ val x < 0) : x = y := by
  have hp := pw_pos (-1074)
  unfold val at h h0
  have hi : sgn (x / 2 ^ 63 % 2 == 1) (mag (x % 2 ^ 63)) = sgn (y / 2 ^ 63 % 2 == 1) (mag (y % 2 ^ 63)) := by
    generalize sgn (x / 2 ^ 63 % 2 == 1) (mag (x % 2 ^ 63)) = a at *
    generalize sgn (y / 2 ^ 63 % 2 == 1) (mag (y % 2 ^ 63)) = b at *
    rcases Int.lt_trichotomy a b with h1 | h1 | h1
    · have := Rat.mul_lt_mul_of_pos_right (Rat.intCast_lt_intCast.2 h1) hp
      grind
    · exact h1
    · have := Rat.mul_lt_mul_of_pos_right (Rat.intCast_lt_intCast.2 h1) hp
      grind
  have hne : sgn (x / 2 ^ 63 % 2 == 1) (mag (x % 2 ^ 63)) ≠ 0 := by
    intro h1
    rw [h1] at h0
    have z : ((0 : Int) : Rat) * pw (-1074) = 0 := Rat.zero_mul _
    grind
  have hmag : ∀ a b : Nat, mag a = mag b → a = b := fun a b hab => by
    rcases Nat.lt_trichotomy a b with h1 | h1 | h1
    · have := mag_lt h1; omega
    · exact h1
    · have := mag_lt h1; omega
  have hx2 : x / 2 ^ 63 % 2 = 0 ∨ x / 2 ^ 63 % 2 = 1 := by omega
  have hy2 : y / 2 ^ 63 % 2 = 0 ∨ y / 2 ^ 63 % 2 = 1 := by omega
  unfold sgn at hi hne
  rcases hx2 with a | a <;> rcases hy2 with b | b <;> rw [a] at hi hne <;> rw [b] at hi <;> simp at hi hne
  · have := hmag (x % 9223372036854775808) (y % 9223372036854775808) (by omega)
    omega
  · omega
  · omega
  · have := hmag (x % 9223372036854775808) (y % 9223372036854775808) (by omega)
    omega
theorem floor_zero {x : Nat} (hx : Fnt x) (h0 : 0 < val x) (h1 : val x < 1) : floor x = 0 := by
  obtain ⟨s, m, i, ex⟩ := fin_read hx
  have vx := val_read ex
  have hp := pw_pos i
  have hm0 : 0 ≤ (m : Rat) * pw i := Rat.mul_nonneg Rat.natCast_nonneg (Rat.le_of_lt hp)
  have hs : s = false := by
    cases s
    · rfl
    · rw [dv_true] at vx; grind
  subst hs
  rw [dv_false] at vx
  have hm : 0 < m := by
    rcases Nat.eq_zero_or_pos m with h2 | h2
    · subst h2
      have : ((0 : Nat) : Rat) * pw i = 0 := Rat.zero_mul _
      grind
    · exact h2
  have hi : i < 0 := by
    rcases Int.lt_or_le i 0 with h2 | h2
    · exact h2
    · exfalso
      have a1 := pw_mono h2
      have e0 : pw 0 = 1 := by decide +kernel
      have a2 : ((1 : Nat) : Rat) ≤ (m : Rat) := Rat.natCast_le_natCast.2 hm
      have a3 := Rat.mul_le_mul_of_nonneg_right a2 (Rat.le_of_lt hp)
      have e1 : ((1 : Nat) : Rat) = 1 := rfl
      rw [e0] at a1
      rw [e1] at a3
      grind
  obtain ⟨d, hd⟩ : ∃ d, d = (-i).toNat := ⟨_, rfl⟩
  have hmd : m < 2 ^ d := by
    rcases Nat.lt_or_ge m (2 ^ d) with h2 | h2
    · exact h2
    · exfalso
      have a1 := Rat.mul_le_mul_of_nonneg_right (Rat.natCast_le_natCast.2 h2) (Rat.le_of_lt hp)
      rw [← pw_nat, ← pw_add, show (d : Int) + i = 0 by omega] at a1
      have e0 : pw 0 = 1 := by decide +kernel
      grind
  have hK : Toward.down.cut false (m <<< i.toNat) (-i).toNat = 0 := by
    rw [show i.toNat = 0 by omega, ← hd]
    unfold Toward.cut
    simp only [shl, Nat.one_mul, Nat.pow_zero, Nat.mul_one, Bool.false_and, Bool.toNat_false, Nat.add_zero]
    rcases Nat.lt_or_ge (m.log2 + 2) d with h | h
    · rw [Nat.min_eq_right (Nat.le_of_lt h)]
      have hn : m < 2 ^ (m.log2 + 1) := Nat.lt_log2_self
      have a1 : 2 ^ (m.log2 + 1) ≤ 2 ^ (m.log2 + 2) := Nat.pow_le_pow_right (by omega) (by omega)
      exact Nat.div_eq_of_lt (by omega)
    · rw [Nat.min_eq_left h]
      exact Nat.div_eq_of_lt hmd
  unfold floor
  rw [ex]
  simp only [Datum.integral, hK]
  rfl
theorem sub_same {x z : Nat} (hx : Fnt x) (hz : Fnt z) (vz : val z = 0) (hb : val x ≤ 2) (hb' : -2 ≤ val x) (hl : x < 2 ^ 64) (h0 : 0 < val x ∨ val x < 0) : bin .sub (some x) (some z) = some x := by
  obtain ⟨r, r1, r2, r3, r4⟩ := sub_between hx hz (a := x) (b := x) rfl rfl (by grind) (by grind) hb' hb
  have hr : r < 2 ^ 64 := double.sub_lt (x := x) (y := z) r1
  rw [r1, val_inj hr hl (by grind) (by grind)]
theorem turn_sym {x : Nat} (hx : Fnt x) (hl : x < 2 ^ 64) (h0 : 0 < val x) (h1 : val x < 1 / 2) : turnC (some (neg x)) = turnC (some x) := by
  have n1 : (1 / 2 : Rat) < 1 := by decide +kernel
  have fn := fin_neg hx
  have vn := vneg x
  have hln : neg x < 2 ^ 64 := by
    obtain ⟨p1, p2⟩ := neg_parts x
    have hx2 : x / 2 ^ 63 = 0 ∨ x / 2 ^ 63 = 1 := by omega
    have : neg x / 2 ^ 63 ≤ 1 := by
      rw [p2]
      rcases hx2 with h | h <;> rw [h] <;> decide
    omega
  have fz : Fnt (neg 0) := fin_neg fzero.1
  have vz : val (neg 0) = 0 := by rw [vneg, fzero.2]; rfl
  have hf0 := floor_zero hx h0 (by grind)
  have k1 : wrapF (some x) = some x := by
    have hf := fin_of hx
    rw [Fnt.ab hx] at hf
    unfold wrapF wholeF
    have g0 := ltF_val hx fzero.1
    have g1 := gtF_val hx fhalf.1
    have g2 := eqF_val hx fhalf.1
    have g3 := ltF_val hx fmhalf.1
    rw [Fnt.ab hx] at g0 g1 g2 g3
    rw [fzero.2] at g0
    rw [fhalf.2] at g1 g2
    rw [fmhalf.2] at g3
    have a0 : ¬ val x < 0 := by grind
    have a1 : ¬ 1 / 2 < val x := by grind
    have a2 : ¬ val x = 1 / 2 := by grind
    have a3 : ¬ val x < -1 / 2 := by grind
    rw [if_pos hf, g0]
    simp only [a0, decide_false, Bool.false_eq_true, if_false, Option.map_some, hf0]
    rw [sub_same hx fzero.1 fzero.2 (by grind) (by grind) hl (Or.inl h0), g1, g2, g3]
    simp [a1, a2, a3]
  have k2 : wrapF (some (neg x)) = some (neg x) := by
    have hf := fin_of fn
    rw [Fnt.ab fn] at hf
    unfold wrapF wholeF
    have g0 := ltF_val fn fzero.1
    have g1 := gtF_val fn fhalf.1
    have g2 := eqF_val fn fhalf.1
    have g3 := ltF_val fn fmhalf.1
    rw [Fnt.ab fn] at g0 g1 g2 g3
    rw [fzero.2] at g0
    rw [fhalf.2] at g1 g2
    rw [fmhalf.2] at g3
    have a0 : val (neg x) < 0 := by grind
    have a1 : ¬ 1 / 2 < val (neg x) := by grind
    have a2 : ¬ val (neg x) = 1 / 2 := by grind
    have a3 : ¬ val (neg x) < -1 / 2 := by grind
    rw [if_pos hf, g0]
    simp only [a0, decide_true, if_true, Option.map_some, neg_neg', hf0]
    rw [sub_same fn fz vz (by grind) (by grind) hln (Or.inr a0), g1, g2, g3]
    simp [a1, a2, a3]
  have hfx := fin_of hx
  rw [Fnt.ab hx] at hfx
  have hfn := fin_of fn
  rw [Fnt.ab fn] at hfn
  unfold turnC
  rw [if_pos hfx, if_pos hfn, k1, k2]
  have ea : Go.Fl.abs (neg x) = Go.Fl.abs x := by unfold Go.Fl.abs; exact (neg_parts x).1
  unfold pointC twice swapped once flipped
  simp only [Option.map_some, ea]
theorem unit_sym {k n : Nat} (hk : 1 ≤ k) (hkn : k < n) (hn : n ≤ 16384) : unitC ((n - k : Nat) : Int) n = unitC (k : Int) n := by
  have key : ∀ K : Nat, 1 ≤ K → 2 * K < n → turnC (bin .quo (ab (floatOfInt .f64 (-(K : Int)))) (ab (floatOfInt .f64 (n : Int)))) = turnC (bin .quo (ab (floatOfInt .f64 (K : Int))) (ab (floatOfInt .f64 (n : Int)))) := by
    intro K h1 h2
    obtain ⟨fK, vK⟩ := int_val (K := K) (by omega)
    obtain ⟨fN, vN⟩ := int_val (K := n) (by omega)
    obtain ⟨x, x1, x2, x3, x4, κ, hκ, x5⟩ := unit_quo (r := K) (n := n) (by omega) (by omega) hn
    rw [int_neg (by omega), Fnt.ab (fin_neg fK), Fnt.ab fN, quo_neg fK fN, Fnt.ab fK, x1]
    have hxl : x < 2 ^ 64 := double.div_lt (x := floatOfInt .f64 (K : Int)) (y := floatOfInt .f64 (n : Int)) x1
    have hn0 : (0 : Rat) < (n : Rat) := Rat.natCast_pos.2 (by omega)
    have c1 : ((2 * K + 1 : Nat) : Rat) ≤ (n : Rat) := Rat.natCast_le_natCast.2 h2
    have c2 : ((1 : Nat) : Rat) ≤ (K : Rat) := Rat.natCast_le_natCast.2 h1
    have c3 : (n : Rat) ≤ ((16384 : Nat) : Rat) := Rat.natCast_le_natCast.2 hn
    rw [Rat.natCast_add, Rat.natCast_mul] at c1
    have e1 : ((1 : Nat) : Rat) = 1 := rfl
    have e2 : ((2 : Nat) : Rat) = 2 := rfl
    have e3 : ((16384 : Nat) : Rat) = 16384 := rfl
    rw [e1, e2] at c1
    rw [e1] at c2
    rw [e3] at c3
    have hu0 : 0 ≤ u53 := by decide +kernel
    have hu1 : u53 ≤ 1 / 100000000 := by decide +kernel
    obtain ⟨x51, x52⟩ := x5
    have κlo : 1 / 16384 ≤ κ := by
      refine le_of_mul hn0 ?_
      grind
    have κhi : κ ≤ 1 / 2 - 1 / 32768 := by
      refine le_of_mul hn0 ?_
      grind
    exact turn_sym x2 hxl (by grind) (by grind)
  have t1 : (k : Int).tmod n = k := Int.tmod_eq_of_lt (by omega) (by omega)
  have t2 : ((n - k : Nat) : Int).tmod n = ((n - k : Nat) : Int) := Int.tmod_eq_of_lt (by omega) (by omega)
  unfold unitC unitX
  rw [if_neg (by omega), if_neg (by omega)]
  have r1 : unitR (k : Int) n = if 2 * k > n then -((n - k : Nat) : Int) else (k : Int) := by
    unfold unitR
    rw [t1]
    simp only [if_neg (show ¬ (k : Int) < 0 by omega)]
    split <;> split <;> omega
  have r2 : unitR ((n - k : Nat) : Int) n = if 2 * k < n then -(k : Int) else ((n - k : Nat) : Int) := by
    unfold unitR
    rw [t2]
    simp only [if_neg (show ¬ ((n - k : Nat) : Int) < 0 by omega)]
    split <;> split <;> omega
  rw [r1, r2]
  rcases Nat.lt_trichotomy (2 * k) n with h | h | h
  · rw [if_pos h, if_neg (by omega)]
    exact key k hk h
  · rw [if_neg (by omega), if_neg (by omega), show n - k = k by omega]
  · rw [if_neg (by omega), if_pos h]
    exact (key (n - k) (by omega) (by omega)).symm
theorem unit_le (k : Int) {n : Nat} (h1 : 1 ≤ n) (hn : n ≤ 16384) : ∃ c, unitC k n = some c ∧ Fnt c ∧ val c ≤ 1 ∧ -1 ≤ val c := by
  have b1 := Int.tmod_lt_of_pos k (show (0 : Int) < n by omega)
  have b2 : -(n : Int) < k.tmod n := Int.lt_tmod_of_pos k (show (0 : Int) < n by omega)
  have hR : -(n : Int) ≤ unitR k n ∧ unitR k n ≤ n := by
    unfold unitR
    simp only
    generalize k.tmod n = t at *
    split <;> split <;> omega
  obtain ⟨fN, vN⟩ := int_val (K := n) (by omega)
  have key : ∃ x, unitX k n = some x ∧ Fnt x ∧ -2 ≤ val x ∧ val x ≤ 2 := by
    unfold unitX
    generalize unitR k n = R at *
    rcases Int.lt_or_le R 0 with hneg | hpos
    · obtain ⟨K, hK⟩ := Int.eq_ofNat_of_zero_le (show 0 ≤ -R by omega)
      have hR2 : R = -(K : Int) := by omega
      obtain ⟨fK, vK⟩ := int_val (K := K) (by omega)
      obtain ⟨x, x1, x2, x3, x4, _⟩ := unit_quo (r := K) (n := n) (by omega) (by omega) (by omega)
      refine ⟨neg x, ?_, fin_neg x2, by rw [vneg]; grind, by rw [vneg]; grind⟩
      rw [hR2, int_neg (by omega), Fnt.ab (fin_neg fK), Fnt.ab fN, quo_neg fK fN, x1]
      rfl
    · obtain ⟨K, hK⟩ := Int.eq_ofNat_of_zero_le hpos
      subst hK
      obtain ⟨fK, vK⟩ := int_val (K := K) (by omega)
      obtain ⟨x, x1, x2, x3, x4, _⟩ := unit_quo (r := K) (n := n) (by omega) (by omega) (by omega)
      exact ⟨x, by rw [Fnt.ab fK, Fnt.ab fN]; exact x1, x2, by grind, x4⟩
  obtain ⟨x, hx, fx, x1, x2⟩ := key
  obtain ⟨k1, k2⟩ := big2 x2 x1
  obtain ⟨c, hc, fc, c1, c2⟩ := turn_le fx k1 k2
  refine ⟨c, ?_, fc, c1, c2⟩
  unfold unitC
  rw [if_neg (by omega), hx, hc]
/-- A float above 1 is above it by a whole unit. -/
theorem above_one {y : Nat} (h : 1 < val y) : 1 + 2 * u53 ≤ val y := by
  have e0 : pw (-52 + 52) = 1 := by decide +kernel
  obtain ⟨c, hc⟩ := whole_units (y := y) (last := -52) (Y := val y) (by omega) (Or.inl rfl) (by grind) (Or.inr (by rw [e0]; grind))
  have p52 : pw (-52) = 2 * u53 := by decide +kernel
  have hone : ((4503599627370496 : Nat) : Rat) * pw (-52) = 1 := by decide +kernel
  have hlt : ((4503599627370496 : Nat) : Rat) * pw (-52) < (c : Rat) * pw (-52) := by rw [hone, ← hc]; exact h
  have := nat_step (pw_pos (-52)) hlt
  rw [hone, ← hc, p52] at this
  exact this
theorem weight_ok (kind : Int) {n k : Nat} (hk : k < n) (hn : n ≤ 16384) : ∃ y, weightF kind n k = some y ∧ Fnt y ∧ 0 ≤ val y ∧ val y ≤ 1 := by
  obtain ⟨c, hc, fc, c1, c2⟩ := unit_le (k : Int) (n := n) (by omega) hn
  have n12 : (1 / 2 : Rat) + 1 / 2 = 1 := by decide +kernel
  unfold weightF
  rw [hc]
  split
  · rw [Fnt.ab fhalf.1]
    have vh := fhalf.2
    obtain ⟨h, h1, h2, h3, h4⟩ := mul_between fhalf.1 fc fmhalf.2 fhalf.2 (by rw [vh]; grind) (by rw [vh]; grind) (by grind) (by grind)
    rw [h1]
    obtain ⟨y, y1, y2, y3, y4⟩ := sub_between fhalf.1 h2 fzero.2 fone.2 (by grind) (by grind) (by grind) (by grind)
    exact ⟨y, y1, y2, y3, y4⟩
  · split
    · have fa : Fnt 4603039107142836552 := by unfold Fnt; decide
      have fb : Fnt 4601958243232267633 := by unfold Fnt; decide
      have va : val 4603039107142836552 + val 4601958243232267633 ≤ 1 + 1 / 2 * u53 ∧ val 4601958243232267633 ≤ val 4603039107142836552 ∧ 0 ≤ val 4601958243232267633 ∧ val 4603039107142836552 ≤ 1 := by decide +kernel
      have vnb : val (neg 4601958243232267633) = -val 4601958243232267633 := vneg _
      rw [Fnt.ab fa, Fnt.ab fb]
      obtain ⟨va1, va2, va3, va4⟩ := va
      obtain ⟨m1, m2⟩ := mul_bd (a := val 4601958243232267633) (A := val 4601958243232267633) (by grind) (by grind) c1 c2
      obtain ⟨h, h1, h2, h3, h4⟩ := mul_between fb fc vnb (b := 4601958243232267633) rfl (by grind) (by grind) (by grind) (by grind)
      rw [h1]
      obtain ⟨y, y1⟩ := bin_some_sub fa h2
      have hu0 : 0 ≤ u53 := by decide +kernel
      have hu1 : u53 ≤ 1 / 100000000 := by decide +kernel
      have hu : pw (-53) = u53 := pw53
      obtain ⟨y2, y3⟩ := sub_near fa h2 y1 (B := 11 / 10) (by grind) (by grind) (big_ok (by grind))
      obtain ⟨q1, q2⟩ := big2 (v := val 4603039107142836552 - val h) (by grind) (by grind)
      have y4 := (sub_mono fa h2 y1 q1 q2 (z := 0)).2 (by rw [val0]; grind)
      rw [val0] at y4
      rw [hu] at y3
      obtain ⟨y31, y32⟩ := y3
      refine ⟨y, y1, y2, y4, ?_⟩
      rcases Rat.le_total (a := val y) (b := 1) with h5 | h5
      · exact h5
      · by_cases h6 : val y = 1
        · grind
        · have := above_one (y := y) (by grind)
          grind
    · split
      · obtain ⟨fN, vN⟩ := int_val (K := n) (by omega)
        obtain ⟨K, hK⟩ : ∃ K : Nat, offI k n = (K : Int) ∧ K < n := by
          unfold offI
          split
          · exact ⟨(-(2 * (k : Int) + 1 - n)).toNat, by omega, by omega⟩
          · exact ⟨(2 * (k : Int) + 1 - n).toNat, by omega, by omega⟩
        obtain ⟨hK1, hK2⟩ := hK
        obtain ⟨fK, vK⟩ := int_val (K := K) (by omega)
        obtain ⟨x, x1, x2, x3, x4, κ, hκ, x5⟩ := unit_quo (r := K) (n := n) (by omega) (by omega) hn
        rw [hK1, Fnt.ab fK, Fnt.ab fN, x1, Fnt.ab fone.1]
        have v1 := fone.2
        have hn0 : (0 : Rat) < (n : Rat) := Rat.natCast_pos.2 (by omega)
        have cc1 : ((K + 1 : Nat) : Rat) ≤ (n : Rat) := Rat.natCast_le_natCast.2 hK2
        have cc3 : (n : Rat) ≤ ((16384 : Nat) : Rat) := Rat.natCast_le_natCast.2 hn
        rw [Rat.natCast_add] at cc1
        have e1 : ((1 : Nat) : Rat) = 1 := rfl
        have e3 : ((16384 : Nat) : Rat) = 16384 := rfl
        rw [e1] at cc1
        rw [e3] at cc3
        have hu1 : u53 ≤ 1 / 100000000 := by decide +kernel
        obtain ⟨x51, x52⟩ := x5
        have κhi : κ ≤ 1 - 1 / 16384 := by
          refine le_of_mul hn0 ?_
          grind
        obtain ⟨y, y1, y2, y3, y4⟩ := sub_between fone.1 x2 fzero.2 fone.2 (by grind) (by grind) (by grind) (by grind)
        exact ⟨y, y1, y2, y3, y4⟩
      · exact ⟨_, Fnt.ab fone.1, fone.1, by rw [fone.2]; decide +kernel, by rw [fone.2]; exact Rat.le_refl⟩
theorem weight_sym (kind : Int) {n k : Nat} (h3 : kind ≠ 3) (hk : 1 ≤ k) (hkn : k < n) (hn : n ≤ 16384) : weightF kind n (n - k) = weightF kind n k := by
  unfold weightF
  rw [unit_sym hk hkn hn]
  simp only [if_neg h3]
theorem weight_sym3 {n k : Nat} (hkn : k < n) : weightF 3 n (n - 1 - k) = weightF 3 n k := by
  have e : offI ((n - 1 - k : Nat) : Int) n = offI (k : Int) n := by
    unfold offI
    split <;> split <;> omega
  unfold weightF
  rw [if_neg (by omega), if_neg (by omega), if_pos rfl, if_neg (by omega), if_neg (by omega), if_pos rfl, e]
end Go.Proofs.Ytoncdgkcmbainab
