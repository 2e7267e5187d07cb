/- Whole numbers as floats; sums of them. -/
import Derived.Test.YtfggdaebahdnfaaFw
namespace Go.Proofs.Ytfggdaebahdnfaa
open Go.ChangeShapes Go.WideShapes Go.ChangeAt Go.RowKit Go.Fl Ieee

theorem int_write (s : Bool) {K : Nat} (hK : K < 2 ^ 53) : Fnt (double.write (.number s K 0)) ∧ val (double.write (.number s K 0)) = dv s K 0 := by
  have e0 : pw 0 = 1 := by decide +kernel
  have hb : (K : Rat) * pw 0 ≤ pw 53 := by
    have e53 : pw 53 = ((2 ^ 53 : Nat) : Rat) := pw_nat 53
    rw [e0, Rat.mul_one, e53]; exact Rat.natCast_le_natCast.2 (by omega)
  have hb2 : pw 53 ≤ pw 1000 := pw_mono (by omega)
  refine ⟨(write_near s K 0 hb hb2).1, ?_⟩
  rcases Nat.eq_zero_or_pos K with h1 | h1
  · subst h1
    have e2 : dv s 0 0 = 0 := by cases s <;> simp [dv, sgn]
    rw [e2, write_same (y := 0) (Rat.le_trans hb hb2) (by rw [e2, val0]), val0]
  · have hl0 : (0 : Int) + (K.log2 : Int) ≤ 53 := log_le h1 hb
    obtain ⟨last, kept, hr⟩ := rounds s (e := 0) h1 (by omega)
    have hl : last ≤ 0 := by
      rcases hr.rel with h2 | h2
      · omega
      · rcases Int.lt_or_le 0 last with h3 | h3
        · exfalso
          have a1 := pw_mono (show (53 : Int) ≤ last + 52 by omega)
          have e53 : pw 53 = ((2 ^ 53 : Nat) : Rat) := pw_nat 53
          have a2 : (K : Rat) < ((2 ^ 53 : Nat) : Rat) := Rat.natCast_lt_natCast.2 hK
          rw [e0, Rat.mul_one] at h2
          rw [e53] at a1
          grind
        · exact h3
    have e2 := hr.exact hl
    show val (double.nearest s K 0) = _
    rw [hr.value]
    cases s
    · rw [dv_false, dv_false, e2]
    · rw [dv_true, dv_true, e2]
theorem int_val {K : Nat} (hK : K < 2 ^ 53) : Fnt (floatOfInt .f64 (K : Int)) ∧ val (floatOfInt .f64 (K : Int)) = (K : Rat) := by
  have e : floatOfInt .f64 (K : Int) = double.write (.number false K 0) := by
    show double.write (.number (decide ((K : Int) < 0)) (K : Int).natAbs 0) = _
    have : decide ((K : Int) < 0) = false := by simp
    rw [this]; rfl
  obtain ⟨h1, h2⟩ := int_write false hK
  have e0 : pw 0 = 1 := by decide +kernel
  rw [e]
  exact ⟨h1, by rw [h2, dv_false, e0, Rat.mul_one]⟩
/-- What the format has comes out as it is. -/
theorem exact_write (s : Bool) {K : Nat} {e : Int} (hK : K < 2 ^ 53) (he : -1074 ≤ e) (hb : (K : Rat) * pw e ≤ pw 1000) : Fnt (double.write (.number s K e)) ∧ val (double.write (.number s K e)) = dv s K e := by
  refine ⟨(write_near s K e hb Rat.le_refl).1, ?_⟩
  rcases Nat.eq_zero_or_pos K with h1 | h1
  · subst h1
    have e2 : dv s 0 e = 0 := by cases s <;> simp [dv, sgn]
    rw [e2, write_same (y := 0) hb (by rw [e2, val0]), val0]
  · have hl0 : e + (K.log2 : Int) ≤ 1000 := log_le h1 hb
    obtain ⟨last, kept, hr⟩ := rounds s (e := e) h1 (by omega)
    have hl : last ≤ e := by
      rcases hr.rel with h2 | h2
      · omega
      · rcases Int.lt_or_le e last with h3 | h3
        · exfalso
          have a1 := pw_mono (show e + 53 ≤ last + 52 by omega)
          rw [pw_add] at a1
          have e53 : pw 53 = ((2 ^ 53 : Nat) : Rat) := pw_nat 53
          have a2 : (K : Rat) < ((2 ^ 53 : Nat) : Rat) := Rat.natCast_lt_natCast.2 hK
          have a3 := Rat.mul_lt_mul_of_pos_right a2 (pw_pos e)
          rw [e53] at a1
          grind
        · exact h3
    have e2 := hr.exact hl
    show val (double.nearest s K e) = _
    rw [hr.value]
    cases s
    · rw [dv_false, dv_false, e2]
    · rw [dv_true, dv_true, e2]
theorem sign_of {x : Nat} {s : Bool} {m : Nat} {i : Int} (ex : double.read x = .number s m i) (h0 : 0 ≤ val x) : s = true → m = 0 := by
  have vx := val_read ex
  have hp := pw_pos i
  have hm0 : 0 ≤ (m : Rat) * pw i := Rat.mul_nonneg Rat.natCast_nonneg (Rat.le_of_lt hp)
  intro hs
  subst hs
  rw [dv_true] at vx
  have h0 : (m : Rat) * pw i = 0 := by grind
  rcases Nat.eq_zero_or_pos m with h1 | h1
  · exact h1
  · have := Rat.mul_pos (Rat.natCast_pos.2 h1) hp
    grind
theorem pos_of {y : Nat} {s : Bool} {m : Nat} {i : Int} (ey : double.read y = .number s m i) (h0 : 0 < val y) : s = false ∧ 0 < m := by
  have vy := val_read ey
  have hp := pw_pos i
  have hm0 : 0 ≤ (m : Rat) * pw i := Rat.mul_nonneg Rat.natCast_nonneg (Rat.le_of_lt hp)
  have hs : s = false := by
    cases s
    · rfl
    · rw [dv_true] at vy; grind
  subst hs
  refine ⟨rfl, ?_⟩
  rcases Nat.eq_zero_or_pos m with h1 | h1
  · subst h1; rw [dv_false] at vy; have z : ((0 : Nat) : Rat) = 0 := rfl; rw [z] at vy; grind
  · exact h1
/-- A quotient of what is not below 0 and what is above it. -/
theorem floor_whole {x : Nat} (hx : Fnt x) (h0 : 0 ≤ val x) (hB : val x < 1125899906842624) : ∃ K : Nat, Fnt (floor x) ∧ val (floor x) = (K : Rat) ∧ (K : Rat) ≤ val x ∧ val x < (K : Rat) + 1 := by
  obtain ⟨s, m, i, ex⟩ := fin_read hx
  have vx := val_read ex
  have hp := pw_pos i
  have hsm := sign_of ex h0
  have hm0 : 0 ≤ (m : Rat) * pw i := Rat.mul_nonneg Rat.natCast_nonneg (Rat.le_of_lt hp)
  have hx' : val x = (m : Rat) * pw i := by
    cases s
    · rw [vx, dv_false]
    · rw [dv_true] at vx; grind
  obtain ⟨K, hK⟩ : ∃ K, K = Toward.down.cut s (m <<< i.toNat) (-i).toNat := ⟨_, rfl⟩
  have hf : floor x = double.write (.number s K 0) := by
    unfold floor
    rw [ex]
    simp only [Datum.integral, ← hK]
  have hKd : K = m * 2 ^ i.toNat / 2 ^ (-i).toNat := by
    rw [hK]
    unfold Toward.cut
    simp only [shl, Nat.one_mul]
    have hmore : ∀ r : Nat, (m = 0 → r = 0) → (s && r != 0).toNat = 0 := by
      intro r hr
      cases s
      · rfl
      · rw [hr (hsm rfl)]; rfl
    rw [hmore _ (fun h => by rw [h]; simp), Nat.add_zero]
    generalize m * 2 ^ i.toNat = n
    rcases Nat.lt_or_ge (n.log2 + 2) ((-i).toNat) with h | h
    · rw [Nat.min_eq_right (Nat.le_of_lt h)]
      have hn : n < 2 ^ (n.log2 + 1) := Nat.lt_log2_self
      have a1 : 2 ^ (n.log2 + 1) ≤ 2 ^ (n.log2 + 2) := Nat.pow_le_pow_right (by omega) (by omega)
      have a2 : 2 ^ (n.log2 + 2) ≤ 2 ^ ((-i).toNat) := Nat.pow_le_pow_right (by omega) (by omega)
      rw [Nat.div_eq_of_lt (by omega), Nat.div_eq_of_lt (by omega)]
    · rw [Nat.min_eq_left h]
  have hz0 : s = true → K = 0 := fun hs => by rw [hKd, hsm hs]; simp
  have hb : (K : Rat) ≤ val x ∧ val x < (K : Rat) + 1 := by
    rcases Int.le_total 0 i with hi | hi
    · have e1 : (-i).toNat = 0 := by omega
      have hKx : (K : Rat) = val x := by
        rw [hKd, e1, Nat.pow_zero, Nat.div_one, hx', Rat.natCast_mul, ← pw_nat, show ((i.toNat : Nat) : Int) = i by omega]
      constructor <;> grind
    · have e1 : i.toNat = 0 := by omega
      rw [e1, Nat.pow_zero, Nat.mul_one] at hKd
      obtain ⟨d, hd⟩ : ∃ d, d = (-i).toNat := ⟨_, rfl⟩
      rw [← hd] at hKd
      have hxi : val x * ((2 ^ d : Nat) : Rat) = (m : Rat) := by
        rw [hx', ← pw_nat, Rat.mul_assoc, ← pw_add, show i + (d : Int) = 0 by omega]
        have e0 : pw 0 = 1 := by decide +kernel
        rw [e0, Rat.mul_one]
      have hpd := Nat.two_pow_pos d
      have hpdR : (0 : Rat) < ((2 ^ d : Nat) : Rat) := Rat.natCast_pos.2 hpd
      have hdm := Nat.div_add_mod m (2 ^ d)
      have hlt := Nat.mod_lt m hpd
      rw [← hKd] at hdm
      have k1 : K * 2 ^ d ≤ m := by rw [Nat.mul_comm]; omega
      have k2 : m < (K + 1) * 2 ^ d := by rw [Nat.add_mul, Nat.mul_comm]; omega
      have k1' : (K : Rat) * ((2 ^ d : Nat) : Rat) ≤ (m : Rat) := by rw [← Rat.natCast_mul]; exact Rat.natCast_le_natCast.2 k1
      have k2' : (m : Rat) < ((K : Rat) + 1) * ((2 ^ d : Nat) : Rat) := by
        have := Rat.natCast_lt_natCast.2 k2
        rw [Rat.natCast_mul, Rat.natCast_add] at this
        exact this
      rw [← hxi] at k1' k2'
      refine ⟨le_of_mul hpdR k1', ?_⟩
      rcases (Rat.le_total : (K : Rat) + 1 ≤ val x ∨ val x ≤ (K : Rat) + 1) with h | h
      · exfalso
        have := Rat.mul_le_mul_of_nonneg_right h (Rat.le_of_lt hpdR)
        grind
      · refine Rat.lt_of_le_of_ne h fun e => ?_
        rw [e] at k2'
        grind
  have hK50 : K < 1125899906842624 := by
    rcases Nat.lt_or_ge K 1125899906842624 with h | h
    · exact h
    · exfalso
      have := Rat.natCast_le_natCast.2 h
      have e : ((1125899906842624 : Nat) : Rat) = 1125899906842624 := rfl
      rw [e] at this
      grind
  obtain ⟨g1, g2⟩ := int_write s (K := K) (by omega)
  refine ⟨K, by rw [hf]; exact g1, ?_, hb.1, hb.2⟩
  rw [hf, g2]
  have e0 : pw 0 = 1 := by decide +kernel
  cases hs : s
  · rw [dv_false, e0, Rat.mul_one]
  · rw [dv_true, hz0 hs, e0]
    have z : ((0 : Nat) : Rat) = 0 := rfl
    rw [z]; grind
/-- A word that is written has 64 bits. -/
theorem write_lt (s : Bool) (m : Nat) (e : Int) : double.write (.number s m e) < 2 ^ 64 := by
  show double.nearest s m e < 2 ^ 64
  have e3 : double.infRung = 0x7ff0000000000000 := rfl
  unfold Format.nearest
  split
  · cases s <;> decide
  · have e4 : double.signWeight = 2 ^ 63 := rfl
    simp only [e3, e4, Format.word]
    cases s <;> simp <;> omega
/-- Two finite words of one value, not nought, are one. -/
theorem val_inj {x y : Nat} (hx : Fnt x) (hy : Fnt y) (lx : x < 2 ^ 64) (ly : y < 2 ^ 64) (h : val x = val y) (h0 : val x ≠ 0) : x = y := by
  have o := ord_val hx hy
  rw [if_neg (by grind), if_pos h, ← order_ab] at o
  have o2 := order_lin hx.num hy.num
  have o3 : compare (lin x) (lin y) = .eq := by
    have := o2.symm.trans o
    exact Option.some.inj this
  have o4 : lin x = lin y := by
    rw [Int.compare_eq_ite_lt] at o3
    split at o3
    · cases o3
    · split at o3
      · cases o3
      · omega
  have hn : x % 2 ^ 63 ≠ 0 := by
    intro hz
    apply h0
    unfold val
    rw [hz]
    have : mag 0 = 0 := by decide +kernel
    rw [this]
    have : ∀ b, sgn b 0 = 0 := by intro b; cases b <;> rfl
    rw [this]; simp
  unfold lin sgn at o4
  have dx : x / 2 ^ 63 % 2 = x / 2 ^ 63 := by omega
  have dy : y / 2 ^ 63 % 2 = y / 2 ^ 63 := by omega
  rw [dx, dy] at o4
  by_cases c1 : x / 2 ^ 63 = 1 <;> by_cases c2 : y / 2 ^ 63 = 1
  · simp [c1, c2] at o4; omega
  · simp [c1, c2] at o4; omega
  · simp [c1, c2] at o4; omega
  · simp [c1, c2] at o4; omega
def P53 : Int := 9007199254740992
theorem whole_val0 {z : Int} (h1 : -P53 < z) (h2 : z < P53) : Fnt (floatOfInt .f64 z) ∧ val (floatOfInt .f64 z) = (z : Rat) := by
  unfold P53 at h1 h2
  have e : floatOfInt .f64 z = double.write (.number (decide (z < 0)) z.natAbs 0) := rfl
  obtain ⟨a, b⟩ := int_write (decide (z < 0)) (K := z.natAbs) (by omega)
  have e0 : pw 0 = 1 := by decide +kernel
  rw [e]
  refine ⟨a, b.trans ?_⟩
  by_cases hz : z < 0
  · have : decide (z < 0) = true := by simpa using hz
    rw [this, dv_true, e0, Rat.mul_one]
    have : (z : Rat) = -((z.natAbs : Nat) : Rat) := by
      rw [← Rat.intCast_natCast, ← Rat.intCast_neg]; congr 1; omega
    rw [this]
  · have : decide (z < 0) = false := by simpa using hz
    rw [this, dv_false, e0, Rat.mul_one]
    rw [← Rat.intCast_natCast]; congr 1; omega
/-- A float that is a whole number (a nought of either sign is 0). -/
def WH (o : Option Nat) (z : Int) : Prop := ∃ x, o = some x ∧ Fnt x ∧ val x = (z : Rat)
theorem big53 {z : Int} (h1 : -P53 < z) (h2 : z < P53) : (z : Rat) ≤ pw 53 ∧ -pw 53 ≤ (z : Rat) ∧ pw 53 ≤ pw 1000 := by
  unfold P53 at h1 h2
  have e53 : pw 53 = ((9007199254740992 : Int) : Rat) := by decide +kernel
  refine ⟨?_, ?_, pw_mono (by omega)⟩
  · rw [e53]; exact Rat.intCast_le_intCast.2 (by omega)
  · rw [e53, ← Rat.intCast_neg]; exact Rat.intCast_le_intCast.2 (by omega)
theorem WH.int {z : Int} (h1 : -P53 < z) (h2 : z < P53) : WH (ab (floatOfInt .f64 z)) z := ⟨_, Fnt.ab (whole_val0 h1 h2).1, whole_val0 h1 h2⟩
theorem WH.add {a b : Option Nat} {z y : Int} (ha : WH a z) (hb : WH b y) (h1 : -P53 < z + y) (h2 : z + y < P53) : WH (bin .add a b) (z + y) := by
  obtain ⟨p, rfl, fp, vp⟩ := ha
  obtain ⟨q, rfl, fq, vq⟩ := hb
  obtain ⟨r, hr⟩ := bin_some_add fp fq
  obtain ⟨b1, b2, b3⟩ := big53 h1 h2
  obtain ⟨f0, v0⟩ := whole_val0 h1 h2
  have e : val p + val q = ((z + y : Int) : Rat) := by rw [vp, vq, Rat.intCast_add]
  obtain ⟨fr, _⟩ := add_near fp fq hr (B := pw 53) (by rw [e]; exact b1) (by rw [e]; exact b2) b3
  have m := add_mono fp fq hr (by rw [e]; exact Rat.le_trans b1 b3) (by rw [e]; grind) (z := floatOfInt .f64 (z + y))
  rw [v0, e] at m
  exact ⟨r, hr, fr, Rat.le_antisymm (m.1 (Rat.le_refl)) (m.2 (Rat.le_refl))⟩
theorem WH.eq {a b : Option Nat} {z y : Int} (ha : WH a z) (hb : WH b y) : eqF a b = decide (z = y) := by
  obtain ⟨p, rfl, fp, vp⟩ := ha
  obtain ⟨q, rfl, fq, vq⟩ := hb
  rw [← Fnt.ab fp, ← Fnt.ab fq, eqF_val fp fq, vp, vq]
  simp [Rat.intCast_inj]
theorem WH.gt {a b : Option Nat} {z y : Int} (ha : WH a z) (hb : WH b y) : gtF a b = decide (y < z) := by
  obtain ⟨p, rfl, fp, vp⟩ := ha
  obtain ⟨q, rfl, fq, vq⟩ := hb
  rw [← Fnt.ab fp, ← Fnt.ab fq, gtF_val fp fq, vp, vq]
  simp [Rat.intCast_lt_intCast]
theorem WH.lt {a b : Option Nat} {z y : Int} (ha : WH a z) (hb : WH b y) : ltF a b = decide (z < y) := by
  obtain ⟨p, rfl, fp, vp⟩ := ha
  obtain ⟨q, rfl, fq, vq⟩ := hb
  rw [← Fnt.ab fp, ← Fnt.ab fq, ltF_val fp fq, vp, vq]
  simp [Rat.intCast_lt_intCast]
theorem WH.cast {a : Option Nat} {z y : Int} (ha : WH a z) (h : z = y) : WH a y := h ▸ ha
theorem WH.zero : WH (ab 0) 0 := ⟨0, rfl, by unfold Fnt; decide, by decide +kernel⟩
theorem WH.one : WH (ab 4607182418800017408) 1 := ⟨_, rfl, by unfold Fnt; decide, by decide +kernel⟩
theorem read0 : double.read 0 = .number false 0 (-1074) := by decide +kernel
theorem quo_zero {y : Nat} (hy : Fnt y) (h0 : 0 < val y) : bin .quo (some 0) (some y) = some 0 := by
  obtain ⟨t, n, j, ey⟩ := fin_read hy
  have vy := val_read ey
  have hpj := pw_pos j
  have hn0 : 0 ≤ (n : Rat) * pw j := Rat.mul_nonneg Rat.natCast_nonneg (Rat.le_of_lt hpj)
  have ht : t = false := by
    cases t
    · rfl
    · rw [dv_true] at vy; grind
  subst ht
  rw [dv_false] at vy
  have hn : 0 < n := by
    rcases Nat.eq_zero_or_pos n with h0 | h0
    · subst h0; simp at vy; grind
    · exact h0
  show double.div 0 y = _
  unfold Format.div
  rw [read0, ey]
  simp only [Datum.quotient, if_neg (show ¬ n = 0 by omega), Option.map_some, Option.some.injEq]
  simp [shl]
  rfl
theorem nearest_fin (s : Bool) {m : Nat} {e : Int} (h : 2 * ((m : Rat) * pw e) < ((18014398509481983 : Nat) : Rat) * pw 971) : Fnt (double.nearest s m e) := by
  have e1 : double.leastPlace = -1074 := rfl
  have e2 : double.binade = 2 ^ 52 := rfl
  have e3 : double.infRung = 0x7ff0000000000000 := rfl
  have e4 : double.fractionBits = 52 := rfl
  rcases Nat.eq_zero_or_pos m with h0 | hm
  · subst h0
    unfold Format.nearest
    rw [if_pos rfl]
    unfold Fnt
    cases s <;> decide
  by_cases hb : e + (m.log2 : Int) ≤ 1022
  · obtain ⟨last, kept, hr⟩ := rounds s hm hb
    exact hr.fin
  have hlog : 2 ^ m.log2 ≤ m := Nat.log2_self_le (by omega)
  have hlog2 : m < 2 ^ (m.log2 + 1) := Nat.lt_log2_self
  have htop : e + (m.log2 : Int) = 1023 := by
    rcases Int.lt_or_le 1023 (e + (m.log2 : Int)) with h1 | h1
    · exfalso
      have a1 : pw (e + (m.log2 : Int)) ≤ (m : Rat) * pw e := by
        rw [Int.add_comm, pw_add, pw_nat]
        exact Rat.mul_le_mul_of_nonneg_right (Rat.natCast_le_natCast.2 hlog) (Rat.le_of_lt (pw_pos e))
      have a2 := pw_mono (show (1024 : Int) ≤ e + (m.log2 : Int) by omega)
      have a3 : pw 1024 = pw 53 * pw 971 := by rw [← pw_add]; congr 1
      have a4 : pw 53 = 9007199254740992 := by decide +kernel
      have a5 := pw_pos 971
      have a6 : ((18014398509481983 : Nat) : Rat) = 18014398509481983 := by decide +kernel
      rw [a3, a4] at a2
      rw [a6] at h
      generalize pw 971 = Q at *
      generalize (m : Rat) * pw e = V at *
      generalize pw (e + (m.log2 : Int)) = V2 at *
      grind
    · omega
  unfold Format.nearest
  rw [if_neg (by omega)]
  simp only [e1, e2, e3, e4, shl]
  have hl : max (e + (m.log2 : Int) - ((52 : Nat) : Int)) (-1074) = 971 := by omega
  rw [hl]
  obtain ⟨n, hn⟩ : ∃ n, n = m * 2 ^ (e - 971).toNat := ⟨_, rfl⟩
  obtain ⟨d, hd⟩ : ∃ d, d = (971 - e).toNat := ⟨_, rfl⟩
  rw [← hn, ← hd]
  obtain ⟨k, hk⟩ : ∃ k, k = Toward.even.cut s n d := ⟨_, rfl⟩
  have herr := (cut_err s n d).1
  rw [← hk] at herr ⊢
  have hval : (n : Rat) * pw (971 - d) = (m : Rat) * pw e := by
    rw [hn, Rat.natCast_mul, Rat.mul_assoc, ← pw_nat, ← pw_add]
    congr 2
    omega
  have hunit : pw 971 = ((2 ^ d : Nat) : Rat) * pw (971 - d) := by
    rw [pw_split (show (971 : Int) - d ≤ 971 by omega), show ((971 : Int) - (971 - (d : Int))).toNat = d by omega]
  have hnat : 2 * n < 18014398509481983 * 2 ^ d := by
    have hp := pw_pos (971 - d)
    rw [← hval, hunit, ← Rat.mul_assoc, ← Rat.mul_assoc] at h
    have h2 : ((2 * n : Nat) : Rat) * pw (971 - d) < ((18014398509481983 * 2 ^ d : Nat) : Rat) * pw (971 - d) := by
      rw [Rat.natCast_mul, Rat.natCast_mul]
      exact h
    rcases Nat.lt_or_ge (2 * n) (18014398509481983 * 2 ^ d) with h3 | h3
    · exact h3
    · exfalso
      have h4 := Rat.mul_le_mul_of_nonneg_right (Rat.natCast_le_natCast.2 h3) (Rat.le_of_lt hp)
      grind
  have hk53 : k < 2 ^ 53 := by
    rcases Nat.lt_or_ge k (2 ^ 53) with h1 | h1
    · exact h1
    · exfalso
      have h2 := Nat.mul_le_mul_right (2 ^ d) h1
      have hp := Nat.two_pow_pos d
      generalize 2 ^ d = D at *
      generalize hB : k * D = B at *
      omega
  have hL : ((971 : Int) - -1074).toNat = 2045 := by decide
  rw [hL, Nat.min_eq_left (by omega)]
  unfold Fnt
  rw [word_mod s _ (by omega)]
  omega
/-- How great a finite float can be. -/
theorem fnt_most {x : Nat} (h : Fnt x) : val x ≤ ((9007199254740991 : Nat) : Rat) * pw 971 ∧ -(((9007199254740991 : Nat) : Rat) * pw 971) ≤ val x := by
  obtain ⟨K, hK⟩ : ∃ K : Nat, K = 2045 := ⟨_, rfl⟩
  have hm : mag (x % 2 ^ 63) ≤ 9007199254740991 * 2 ^ K := by
    unfold Fnt at h
    unfold mag
    generalize x % 2 ^ 63 = r at *
    have hq : r / 2 ^ 52 - 1 ≤ K := by omega
    have hp : 1 ≤ 2 ^ K := Nat.two_pow_pos K
    split
    · have h2 : r ≤ 9007199254740991 * 1 := by omega
      exact Nat.le_trans h2 (Nat.mul_le_mul_left _ hp)
    · exact Nat.mul_le_mul (show 2 ^ 52 + r % 2 ^ 52 ≤ 9007199254740991 by omega) (Nat.pow_le_pow_right (show 0 < 2 by omega) hq)
  have e : ((9007199254740991 : Nat) : Rat) * pw 971 = ((9007199254740991 * 2 ^ K : Nat) : Rat) * pw (-1074) := by
    rw [Rat.natCast_mul, Rat.mul_assoc, ← pw_nat, ← pw_add]
    congr 2
    omega
  have hle : (mag (x % 2 ^ 63) : Rat) * pw (-1074) ≤ ((9007199254740991 : Nat) : Rat) * pw 971 := by
    rw [e]
    exact Rat.mul_le_mul_of_nonneg_right (Rat.natCast_le_natCast.2 hm) (Rat.le_of_lt (pw_pos _))
  have h0 : 0 ≤ (mag (x % 2 ^ 63) : Rat) * pw (-1074) := Rat.mul_nonneg Rat.natCast_nonneg (Rat.le_of_lt (pw_pos _))
  rcases val_cases x with h1 | h1 <;> rw [h1] <;> constructor <;> grind
/-- Nought times a finite float is nought, of either sign. -/
theorem zero_mul_fin {x : Nat} (hx : Fnt x) : ∃ r, bin .mul (some 0) (some x) = some r ∧ Fnt r ∧ val r = 0 := by
  have f0 : Fnt 0 := by unfold Fnt; decide
  obtain ⟨r, hr⟩ := bin_some_mul f0 hx
  have z : val 0 * val x = 0 := by rw [val0]; grind
  have p0 : (0 : Rat) ≤ pw 1000 := Rat.le_of_lt (pw_pos _)
  have h1 := mul_mono f0 hx hr (by rw [z]; exact p0) (by rw [z]; grind) (z := 0)
  rw [z, val0] at h1
  obtain ⟨f, _⟩ := mul_near f0 hx hr (B := 0) (by rw [z]; exact Rat.le_refl) (by rw [z]; grind) p0
  exact ⟨r, hr, f, Rat.le_antisymm (h1.1 Rat.le_refl) (h1.2 Rat.le_refl)⟩
end Go.Proofs.Ytfggdaebahdnfaa
