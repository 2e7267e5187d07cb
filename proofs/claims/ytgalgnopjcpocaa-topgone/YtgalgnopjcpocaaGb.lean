/- Floats: quotients by powers of two, floors as whole numbers, bits told by the value; bounds that are whole numbers. No program is spoken of here. -/
import Derived.Test.YtgalgnopjcpocaaGa
import Derived.Test.YtgalgnopjcpocaaLe
namespace Go.Proofs.Ytgalgnopjcpocaa
open Go.Fl Ieee Go.RowKit

theorem quo_pow {x y f : Nat} {j : Int} (hf : double.read f = .number false 4503599627370496 j) (hx : Fnt x) (hb : -pw 1000 ≤ val y ∧ val y ≤ pw 1000) (hy : val y = val x * pw (-(52 + j))) : ∃ r, bin .quo (some x) (some f) = some r ∧ Fnt r ∧ val r = val y := by
  obtain ⟨s, m, i, ex⟩ := fin_read hx
  have vx := val_read ex
  have hm := read_lt ex
  obtain ⟨L, hL⟩ : ∃ L, L = m.log2 := ⟨_, rfl⟩
  have hL2 : L ≤ 52 := by
    rcases Nat.eq_zero_or_pos m with h0 | h0
    · subst h0; rw [hL]; decide
    · have a1 : 2 ^ m.log2 ≤ m := Nat.log2_self_le (by omega)
      rcases Nat.lt_or_ge 52 L with h1 | h1
      · have := Nat.pow_le_pow_right (show 0 < 2 by omega) (show 53 ≤ m.log2 by omega)
        omega
      · exact h1
  obtain ⟨q, hq⟩ : ∃ q, 54 + 52 - L = 52 + q := ⟨54 - L, by omega⟩
  have hl2 : Nat.log2 4503599627370496 = 52 := by decide +kernel
  have hD : m * 2 ^ (52 + q) = (m * 2 ^ q) * 4503599627370496 := by
    rw [Nat.pow_add, show (2 : Nat) ^ 52 = 4503599627370496 from rfl]
    rw [Nat.mul_comm 4503599627370496, Nat.mul_assoc]
  have h1 : m * 2 ^ (52 + q) / 4503599627370496 = m * 2 ^ q := by rw [hD]; exact Nat.mul_div_cancel _ (by omega)
  have h2 : m * 2 ^ (52 + q) % 4503599627370496 = 0 := by rw [hD]; exact Nat.mul_mod_left _ _
  obtain ⟨e, he⟩ : ∃ e : Int, e = i - j - ((52 + q : Nat) : Int) - 1 := ⟨_, rfl⟩
  have hr : bin .quo (some x) (some f) = some (double.write (.number s (2 * (m * 2 ^ q)) e)) := by
    show double.div x f = _
    unfold Format.div
    rw [ex, hf]
    have e4 : double.fractionBits + 2 = 54 := rfl
    simp only [Datum.quotient, e4, shl, if_neg (show ¬ (4503599627370496 : Nat) = 0 by omega), Option.map_some, Option.some.injEq, Bool.xor_false, hl2, ← hL, hq, h1, h2]
    rw [he]
    simp
  have hdv : dv s (2 * (m * 2 ^ q)) e = val y := by
    have e1 : ((2 * (m * 2 ^ q) : Nat) : Rat) = (m : Rat) * pw ((q + 1 : Nat) : Int) := by
      rw [pw_nat, ← Rat.natCast_mul]
      congr 1
      rw [Nat.pow_succ, Nat.mul_comm 2, Nat.mul_assoc]
    have e2 : pw ((q + 1 : Nat) : Int) * pw e = pw i * pw (-(52 + j)) := by
      rw [← pw_add, ← pw_add]; congr 1; omega
    rw [hy, vx]
    cases s
    · rw [dv_false, dv_false, e1, Rat.mul_assoc, e2, Rat.mul_assoc]
    · rw [dv_true, dv_true, e1, Rat.mul_assoc, e2, Rat.neg_mul, Rat.mul_assoc]
  have hB : ((2 * (m * 2 ^ q) : Nat) : Rat) * pw e ≤ pw 1000 := by
    obtain ⟨b1, b2⟩ := hb
    rw [← hdv] at b1 b2
    cases s
    · rw [dv_false] at b2; exact b2
    · rw [dv_true] at b1; grind
  refine ⟨_, hr, (write_near s _ e hB Rat.le_refl).1, ?_⟩
  rw [write_same (y := y) hB hdv]
/-- What the format has comes out as it is. -/
theorem exact_write (s : Bool) {K : Nat} {e : Int} (hK : K < 2 ^ 53) (he : -1074 ≤ e) (hb : (K : Rat) * pw e ≤ pw 1000) : Fnt (double.write (.number s K e)) ∧ val (double.write (.number s K e)) = dv s K e := by
  refine ⟨(write_near s K e hb Rat.le_refl).1, ?_⟩
  rcases Nat.eq_zero_or_pos K with h1 | h1
  · subst h1
    have e2 : dv s 0 e = 0 := by cases s <;> simp [dv, sgn]
    rw [e2, write_same (y := 0) hb (by rw [e2, val0]), val0]
  · have hl0 : e + (K.log2 : Int) ≤ 1000 := log_le h1 hb
    obtain ⟨last, kept, hr⟩ := rounds s (e := e) h1 (by omega)
    have hl : last ≤ e := by
      rcases hr.rel with h2 | h2
      · omega
      · rcases Int.lt_or_le e last with h3 | h3
        · exfalso
          have a1 := pw_mono (show e + 53 ≤ last + 52 by omega)
          rw [pw_add] at a1
          have e53 : pw 53 = ((2 ^ 53 : Nat) : Rat) := pw_nat 53
          have a2 : (K : Rat) < ((2 ^ 53 : Nat) : Rat) := Rat.natCast_lt_natCast.2 hK
          have a3 := Rat.mul_lt_mul_of_pos_right a2 (pw_pos e)
          rw [e53] at a1
          grind
        · exact h3
    have e2 := hr.exact hl
    show val (double.nearest s K e) = _
    rw [hr.value]
    cases s
    · rw [dv_false, dv_false, e2]
    · rw [dv_true, dv_true, e2]
theorem floor_whole {x : Nat} (hx : Fnt x) (h0 : 0 ≤ val x) (hB : val x < 1125899906842624) : ∃ K : Nat, Fnt (floor x) ∧ val (floor x) = (K : Rat) ∧ (K : Rat) ≤ val x ∧ val x < (K : Rat) + 1 := by
  obtain ⟨s, m, i, ex⟩ := fin_read hx
  have vx := val_read ex
  have hp := pw_pos i
  have hsm := sign_of ex h0
  have hm0 : 0 ≤ (m : Rat) * pw i := Rat.mul_nonneg Rat.natCast_nonneg (Rat.le_of_lt hp)
  have hx' : val x = (m : Rat) * pw i := by
    cases s
    · rw [vx, dv_false]
    · rw [dv_true] at vx; grind
  obtain ⟨K, hK⟩ : ∃ K, K = Toward.down.cut s (m <<< i.toNat) (-i).toNat := ⟨_, rfl⟩
  have hf : floor x = double.write (.number s K 0) := by
    unfold floor
    rw [ex]
    simp only [Datum.integral, ← hK]
  have hKd : K = m * 2 ^ i.toNat / 2 ^ (-i).toNat := by
    rw [hK]
    unfold Toward.cut
    simp only [shl, Nat.one_mul]
    have hmore : ∀ r : Nat, (m = 0 → r = 0) → (s && r != 0).toNat = 0 := by
      intro r hr
      cases s
      · rfl
      · rw [hr (hsm rfl)]; rfl
    rw [hmore _ (fun h => by rw [h]; simp), Nat.add_zero]
    generalize m * 2 ^ i.toNat = n
    rcases Nat.lt_or_ge (n.log2 + 2) ((-i).toNat) with h | h
    · rw [Nat.min_eq_right (Nat.le_of_lt h)]
      have hn : n < 2 ^ (n.log2 + 1) := Nat.lt_log2_self
      have a1 : 2 ^ (n.log2 + 1) ≤ 2 ^ (n.log2 + 2) := Nat.pow_le_pow_right (by omega) (by omega)
      have a2 : 2 ^ (n.log2 + 2) ≤ 2 ^ ((-i).toNat) := Nat.pow_le_pow_right (by omega) (by omega)
      rw [Nat.div_eq_of_lt (by omega), Nat.div_eq_of_lt (by omega)]
    · rw [Nat.min_eq_left h]
  have hz0 : s = true → K = 0 := fun hs => by rw [hKd, hsm hs]; simp
  have hb : (K : Rat) ≤ val x ∧ val x < (K : Rat) + 1 := by
    rcases Int.le_total 0 i with hi | hi
    · have e1 : (-i).toNat = 0 := by omega
      have hKx : (K : Rat) = val x := by
        rw [hKd, e1, Nat.pow_zero, Nat.div_one, hx', Rat.natCast_mul, ← pw_nat, show ((i.toNat : Nat) : Int) = i by omega]
      constructor <;> grind
    · have e1 : i.toNat = 0 := by omega
      rw [e1, Nat.pow_zero, Nat.mul_one] at hKd
      obtain ⟨d, hd⟩ : ∃ d, d = (-i).toNat := ⟨_, rfl⟩
      rw [← hd] at hKd
      have hxi : val x * ((2 ^ d : Nat) : Rat) = (m : Rat) := by
        rw [hx', ← pw_nat, Rat.mul_assoc, ← pw_add, show i + (d : Int) = 0 by omega]
        have e0 : pw 0 = 1 := by decide +kernel
        rw [e0, Rat.mul_one]
      have hpd := Nat.two_pow_pos d
      have hpdR : (0 : Rat) < ((2 ^ d : Nat) : Rat) := Rat.natCast_pos.2 hpd
      have hdm := Nat.div_add_mod m (2 ^ d)
      have hlt := Nat.mod_lt m hpd
      rw [← hKd] at hdm
      have k1 : K * 2 ^ d ≤ m := by rw [Nat.mul_comm]; omega
      have k2 : m < (K + 1) * 2 ^ d := by rw [Nat.add_mul, Nat.mul_comm]; omega
      have k1' : (K : Rat) * ((2 ^ d : Nat) : Rat) ≤ (m : Rat) := by rw [← Rat.natCast_mul]; exact Rat.natCast_le_natCast.2 k1
      have k2' : (m : Rat) < ((K : Rat) + 1) * ((2 ^ d : Nat) : Rat) := by
        have := Rat.natCast_lt_natCast.2 k2
        rw [Rat.natCast_mul, Rat.natCast_add] at this
        exact this
      rw [← hxi] at k1' k2'
      refine ⟨le_of_mul hpdR k1', ?_⟩
      rcases (Rat.le_total : (K : Rat) + 1 ≤ val x ∨ val x ≤ (K : Rat) + 1) with h | h
      · exfalso
        have := Rat.mul_le_mul_of_nonneg_right h (Rat.le_of_lt hpdR)
        grind
      · refine Rat.lt_of_le_of_ne h fun e => ?_
        rw [e] at k2'
        grind
  have hK50 : K < 1125899906842624 := by
    rcases Nat.lt_or_ge K 1125899906842624 with h | h
    · exact h
    · exfalso
      have := Rat.natCast_le_natCast.2 h
      have e : ((1125899906842624 : Nat) : Rat) = 1125899906842624 := rfl
      rw [e] at this
      grind
  obtain ⟨g1, g2⟩ := int_write s (K := K) (by omega)
  refine ⟨K, by rw [hf]; exact g1, ?_, hb.1, hb.2⟩
  rw [hf, g2]
  have e0 : pw 0 = 1 := by decide +kernel
  cases hs : s
  · rw [dv_false, e0, Rat.mul_one]
  · rw [dv_true, hz0 hs, e0]
    have z : ((0 : Nat) : Rat) = 0 := rfl
    rw [z]; grind
/-- A word that is written has 64 bits. -/
theorem write_lt (s : Bool) (m : Nat) (e : Int) : double.write (.number s m e) < 2 ^ 64 := by
  show double.nearest s m e < 2 ^ 64
  have e3 : double.infRung = 0x7ff0000000000000 := rfl
  unfold Format.nearest
  split
  · cases s <;> decide
  · have e4 : double.signWeight = 2 ^ 63 := rfl
    simp only [e3, e4, Format.word]
    cases s <;> simp <;> omega
/-- Two finite words of one value, not nought, are one. -/
theorem val_inj {x y : Nat} (hx : Fnt x) (hy : Fnt y) (lx : x < 2 ^ 64) (ly : y < 2 ^ 64) (h : val x = val y) (h0 : val x ≠ 0) : x = y := by
  have o := ord_val hx hy
  rw [if_neg (by grind), if_pos h, ← order_ab] at o
  have o2 := order_lin hx.num hy.num
  have o3 : compare (lin x) (lin y) = .eq := by
    have := o2.symm.trans o
    exact Option.some.inj this
  have o4 : lin x = lin y := by
    rw [Int.compare_eq_ite_lt] at o3
    split at o3
    · cases o3
    · split at o3
      · cases o3
      · omega
  have hn : x % 2 ^ 63 ≠ 0 := by
    intro hz
    apply h0
    unfold val
    rw [hz]
    have : mag 0 = 0 := by decide +kernel
    rw [this]
    have : ∀ b, sgn b 0 = 0 := by intro b; cases b <;> rfl
    rw [this]; simp
  unfold lin sgn at o4
  have dx : x / 2 ^ 63 % 2 = x / 2 ^ 63 := by omega
  have dy : y / 2 ^ 63 % 2 = y / 2 ^ 63 := by omega
  rw [dx, dy] at o4
  by_cases c1 : x / 2 ^ 63 = 1 <;> by_cases c2 : y / 2 ^ 63 = 1
  · simp [c1, c2] at o4; omega
  · simp [c1, c2] at o4; omega
  · simp [c1, c2] at o4; omega
  · simp [c1, c2] at o4; omega
/-- A difference that the format has. -/
theorem sub_exact {x y : Nat} {s : Bool} {K : Nat} {e : Int} (hx : Fnt x) (hy : Fnt y) (hK : K < 2 ^ 53) (he : -1074 ≤ e) (hb : (K : Rat) * pw e ≤ pw 1000) (h : val x - val y = dv s K e) : ∃ r, bin .sub (some x) (some y) = some r ∧ Fnt r ∧ val r = dv s K e ∧ r < 2 ^ 64 := by
  obtain ⟨f, v⟩ := exact_write s hK he hb
  obtain ⟨r, hr⟩ := bin_some_sub hx hy
  have p0 : 0 ≤ (K : Rat) * pw e := Rat.mul_nonneg Rat.natCast_nonneg (Rat.le_of_lt (pw_pos e))
  have hB : val x - val y ≤ pw 1000 ∧ -pw 1000 ≤ val x - val y := by
    have := pw_pos 1000
    rw [h]
    cases s
    · rw [dv_false]; constructor <;> grind
    · rw [dv_true]; constructor <;> grind
  obtain ⟨fr, _⟩ := sub_near hx hy hr hB.1 hB.2 Rat.le_refl
  have m := sub_mono hx hy hr hB.1 hB.2 (z := double.write (.number s K e))
  rw [v, h] at m
  refine ⟨r, hr, fr, Rat.le_antisymm (m.1 Rat.le_refl) (m.2 Rat.le_refl), ?_⟩
  have hs : double.sub x y = some r := hr
  obtain ⟨s1, m1, i1, ex⟩ := fin_read hx
  obtain ⟨s2, m2, i2, ey⟩ := fin_read hy
  unfold Format.sub at hs
  rw [ex, ey] at hs
  obtain ⟨g, k, e', hv⟩ := sum_val (s := s1) (t := !s2) (m := m1) (n := m2) (i := i1) (j := i2)
  have hs2 : ((Datum.number s1 m1 i1).sum (.number (!s2) m2 i2)).map double.write = some r := hs
  rw [e'] at hs2
  simp only [Option.map_some, Option.some.injEq] at hs2
  rw [← hs2]
  exact write_lt _ _ _
/-- A finite float of at most so great a whole number. -/
def BN (o : Option Nat) (K : Nat) : Prop := ∃ x, o = some x ∧ Fnt x ∧ val x ≤ (K : Rat) ∧ -(K : Rat) ≤ val x
theorem big_nat {K : Nat} (h : K < 2 ^ 53) : (K : Rat) ≤ pw 1000 := by
  have e53 : pw 53 = ((2 ^ 53 : Nat) : Rat) := pw_nat 53
  have a := pw_mono (show (53 : Int) ≤ 1000 by omega)
  have b := Rat.natCast_le_natCast.2 (Nat.le_of_lt h)
  rw [e53] at a
  exact Rat.le_trans b a
theorem neg_val {K : Nat} (h : K < 2 ^ 53) : val (neg (floatOfInt .f64 (K : Int))) = -(K : Rat) := by rw [vneg, (int_val h).2]
theorem BN.mul {a b : Option Nat} {K L M : Nat} (ha : BN a K) (hb : BN b L) (hM : K * L ≤ M) (h : M < 2 ^ 53) : BN (bin .mul a b) M := by
  obtain ⟨x, rfl, fx, x1, x2⟩ := ha
  obtain ⟨y, rfl, fy, y1, y2⟩ := hb
  obtain ⟨r, hr⟩ := bin_some_mul fx fy
  obtain ⟨m1, m2⟩ := mul_bd x1 x2 y1 y2
  have hm : (K : Rat) * (L : Rat) ≤ (M : Rat) := by rw [← Rat.natCast_mul]; exact Rat.natCast_le_natCast.2 hM
  have hb := big_nat h
  have c1 : val x * val y ≤ (M : Rat) := by grind
  have c2 : -(M : Rat) ≤ val x * val y := by grind
  obtain ⟨fr, _⟩ := mul_near fx fy hr c1 c2 hb
  have k1 := (mul_mono fx fy hr (by grind) (by grind) (z := floatOfInt .f64 (M : Int))).1 (by rw [(int_val h).2]; exact c1)
  have k2 := (mul_mono fx fy hr (by grind) (by grind) (z := neg (floatOfInt .f64 (M : Int)))).2 (by rw [neg_val h]; exact c2)
  rw [(int_val h).2] at k1
  rw [neg_val h] at k2
  exact ⟨r, hr, fr, k1, k2⟩
theorem BN.add {a b : Option Nat} {K L M : Nat} (ha : BN a K) (hb : BN b L) (hM : K + L ≤ M) (h : M < 2 ^ 53) : BN (bin .add a b) M := by
  obtain ⟨x, rfl, fx, x1, x2⟩ := ha
  obtain ⟨y, rfl, fy, y1, y2⟩ := hb
  obtain ⟨r, hr⟩ := bin_some_add fx fy
  have hm : (K : Rat) + (L : Rat) ≤ (M : Rat) := by rw [← Rat.natCast_add]; exact Rat.natCast_le_natCast.2 hM
  have hb := big_nat h
  have c1 : val x + val y ≤ (M : Rat) := by grind
  have c2 : -(M : Rat) ≤ val x + val y := by grind
  obtain ⟨fr, _⟩ := add_near fx fy hr c1 c2 hb
  have k1 := (add_mono fx fy hr (by grind) (by grind) (z := floatOfInt .f64 (M : Int))).1 (by rw [(int_val h).2]; exact c1)
  have k2 := (add_mono fx fy hr (by grind) (by grind) (z := neg (floatOfInt .f64 (M : Int)))).2 (by rw [neg_val h]; exact c2)
  rw [(int_val h).2] at k1
  rw [neg_val h] at k2
  exact ⟨r, hr, fr, k1, k2⟩
theorem BN.sub {a b : Option Nat} {K L M : Nat} (ha : BN a K) (hb : BN b L) (hM : K + L ≤ M) (h : M < 2 ^ 53) : BN (bin .sub a b) M := by
  obtain ⟨x, rfl, fx, x1, x2⟩ := ha
  obtain ⟨y, rfl, fy, y1, y2⟩ := hb
  obtain ⟨r, hr⟩ := bin_some_sub fx fy
  have hm : (K : Rat) + (L : Rat) ≤ (M : Rat) := by rw [← Rat.natCast_add]; exact Rat.natCast_le_natCast.2 hM
  have hb := big_nat h
  have c1 : val x - val y ≤ (M : Rat) := by grind
  have c2 : -(M : Rat) ≤ val x - val y := by grind
  obtain ⟨fr, _⟩ := sub_near fx fy hr c1 c2 hb
  have k1 := (sub_mono fx fy hr (by grind) (by grind) (z := floatOfInt .f64 (M : Int))).1 (by rw [(int_val h).2]; exact c1)
  have k2 := (sub_mono fx fy hr (by grind) (by grind) (z := neg (floatOfInt .f64 (M : Int)))).2 (by rw [neg_val h]; exact c2)
  rw [(int_val h).2] at k1
  rw [neg_val h] at k2
  exact ⟨r, hr, fr, k1, k2⟩
theorem BN.neg {a : Option Nat} {K : Nat} (ha : BN a K) : BN (a.map Go.Fl.neg) K := by
  obtain ⟨x, rfl, fx, x1, x2⟩ := ha
  exact ⟨_, rfl, fin_neg fx, by rw [vneg]; grind, by rw [vneg]; grind⟩
theorem BN.le {a : Option Nat} {K L : Nat} (ha : BN a K) (h : K ≤ L) : BN a L := by
  obtain ⟨x, rfl, fx, x1, x2⟩ := ha
  have := Rat.natCast_le_natCast.2 h
  exact ⟨x, rfl, fx, by grind, by grind⟩
theorem BN.eq {a : Option Nat} {K : Nat} (ha : BN a K) : eqF a a = true := by
  obtain ⟨x, rfl, fx, _⟩ := ha
  rw [← Fnt.ab fx, eqF_val fx fx]; simp
end Go.Proofs.Ytgalgnopjcpocaa
