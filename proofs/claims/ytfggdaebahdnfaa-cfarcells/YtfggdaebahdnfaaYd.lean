/- Products against a whole number; the order of floats by their places. No program. -/
import Derived.Test.YtfggdaebahdnfaaYc
namespace Go.Proofs.Ytfggdaebahdnfaa
open Go.ChangeShapes Go.WideShapes Go.ChangeAt Go.RowKit Go.Fl Ieee

theorem ord_lin {x y : Nat} (hx : isN x = false) (hy : isN y = false) : ord (ab x) (ab y) = some (compare (lin x) (lin y)) := by rw [← order_ab]; exact order_lin hx hy
theorem gt_lin {x y : Nat} : gtF (ab x) (ab y) = true ↔ isN x = false ∧ isN y = false ∧ lin y < lin x := by
  cases hx : isN x with
  | true => simp [gtF, ab_none hx, ord]
  | false =>
    cases hy : isN y with
    | true =>
      rw [ab_none hy]
      simp only [gtF]
      rw [ab_some hx]
      simp [ord]
    | false =>
      unfold gtF
      rw [ord_lin hx hy]
      simp only [Int.compare_eq_ite_lt, true_and]
      (repeat' split) <;> simp <;> omega
theorem eq_lin {x y : Nat} (h : eqF (ab x) (ab y) = true) : isN x = false ∧ isN y = false ∧ lin x = lin y := by
  cases hx : isN x with
  | true => simp [eqF, ab_none hx, ord] at h
  | false =>
    cases hy : isN y with
    | true =>
      rw [ab_none hy, ab_some hx] at h
      simp [eqF, ord] at h
    | false =>
      unfold eqF at h
      rw [ord_lin hx hy] at h
      simp only [Int.compare_eq_ite_lt] at h
      refine ⟨rfl, rfl, ?_⟩
      (repeat' split at h) <;> simp at h <;> omega
/-- What is greater than a number is so with more, too. -/
theorem gt_more {a b : Nat} {y : Option Nat} (h : gtF (ab a) y = true) (hm : (gtF (ab b) (ab a) || eqF (ab b) (ab a)) = true) : gtF (ab b) y = true := by
  cases y with
  | none =>
    exfalso
    cases ha : ab a <;> rw [ha] at h <;> simp [gtF, ord] at h
  | some z =>
    have hz : isN z = false ∨ isN z = true := by cases isN z <;> simp
    rcases hz with hz | hz
    · rw [← ab_some hz] at h ⊢
      obtain ⟨h1, h2, h3⟩ := gt_lin.1 h
      simp only [Bool.or_eq_true] at hm
      rcases hm with hm | hm
      · obtain ⟨k1, k2, k3⟩ := gt_lin.1 hm
        exact gt_lin.2 ⟨k1, h2, by omega⟩
      · obtain ⟨k1, k2, k3⟩ := eq_lin hm
        exact gt_lin.2 ⟨k1, h2, by omega⟩
    · exfalso
      cases ha : isN a with
      | true => rw [ab_none ha] at h; simp [gtF, ord] at h
      | false =>
        rw [ab_some ha] at h
        have e : ord (some a) (some z) = double.order a z := rfl
        unfold gtF at h
        rw [e, order_nanR hz] at h
        cases h
theorem rung_big {j k : Nat} (h : 2002 ≤ j) : 9000000000000000000 ≤ min (j * 2 ^ 52 + k) 0x7ff0000000000000 := by
  refine Nat.le_min.2 ⟨?_, by decide⟩
  exact Nat.le_trans (by decide : 9000000000000000000 ≤ 2002 * 2 ^ 52) (Nat.le_trans (Nat.mul_le_mul_right _ h) (Nat.le_add_right _ _))
theorem word_pos (r : Nat) : double.word false r = r := by
  unfold Format.word
  exact if_neg (by decide)
theorem nearest_form {m : Nat} {e : Int} (hm : 0 < m) : ∃ k, double.nearest false m e = min ((max (e + (m.log2 : Int) - ((52 : Nat) : Int)) (-1074) - -1074).toNat * 2 ^ 52 + k) 0x7ff0000000000000 := by
  have e1 : double.leastPlace = -1074 := rfl
  have e2 : double.binade = 2 ^ 52 := rfl
  have e3 : double.infRung = 0x7ff0000000000000 := rfl
  have e4 : double.fractionBits = 52 := rfl
  unfold Format.nearest
  rw [if_neg (by omega)]
  simp only [e1, e2, e3, e4, word_pos]
  exact ⟨_, rfl⟩
theorem nearest_big {m : Nat} {e : Int} (hm : 0 < m) (hbig : 980 ≤ e + m.log2) : 9000000000000000000 ≤ lin (double.nearest false m e) := by
  have hj : 2002 ≤ (max (e + (m.log2 : Int) - ((52 : Nat) : Int)) (-1074) - -1074).toNat := by omega
  obtain ⟨k, hk⟩ := nearest_form (e := e) hm
  generalize (max (e + (m.log2 : Int) - ((52 : Nat) : Int)) (-1074) - -1074).toNat = j at hj hk
  have h1 := rung_big (k := k) hj
  have h2 : min (j * 2 ^ 52 + k) 0x7ff0000000000000 ≤ 0x7ff0000000000000 := Nat.min_le_right _ _
  rw [← hk] at h1 h2
  generalize double.nearest false m e = r at h1 h2
  have h3 : r < 2 ^ 63 := Nat.lt_of_le_of_lt h2 (by decide)
  rw [lin_low h3]
  exact Int.ofNat_le.2 h1
/-- A number that is no greater than 2^30 is below what is as great as a power of two far above. -/
theorem big_no {x m : Nat} {e : Int} (hx : Fnt x) (hv : val x ≤ 1073741824) (hm : 0 < m) (hbig : 980 ≤ e + m.log2) : gtF (ab x) (ab (double.nearest false m e)) = false := by
  cases hg : gtF (ab x) (ab (double.nearest false m e)) with
  | false => rfl
  | true =>
    exfalso
    obtain ⟨h1, h2, h3⟩ := gt_lin.1 hg
    have c : gtF (ab x) (ab 4742290407621132288) = false := by
      rw [gtF_val hx (by unfold Fnt; decide)]
      have : val 4742290407621132288 = 1073741824 := by decide +kernel
      rw [this]
      simp only [decide_eq_false_iff_not]
      grind
    have hl : lin x ≤ 4742290407621132288 := by
      rcases Int.lt_or_le 4742290407621132288 (lin x) with q | q
      · exfalso
        have e1 : lin 4742290407621132288 = 4742290407621132288 := by decide +kernel
        have := gt_lin.2 ⟨h1, (by decide +kernel : isN 4742290407621132288 = false), by rw [e1]; exact q⟩
        rw [c] at this; cases this
      · exact q
    have := nearest_big hm hbig
    omega
theorem prod_some {u t : Nat} (hu : Fnt u) (ht : Fnt t) : ∃ p, bin .mul (some u) (some t) = some p := by
  obtain ⟨s1, m1, e1, r1⟩ := fin_read hu
  obtain ⟨s3, m3, e3, r3⟩ := fin_read ht
  refine ⟨double.write (.number (s1 ^^ s3) (m1 * m3) (e1 + e3)), ?_⟩
  show double.mul u t = _
  unfold Format.mul
  rw [r1, r3]
  rfl
theorem isN_none {x p : Nat} {y : Option Nat} (h : bin .mul y (some x) = some p) : isN p = false := by
  cases y with
  | none => cases h
  | some u => exact bits_ok (op := .mul) (x := u) (y := x) h
/-- Against a lesser level, so many times, what is greater stays so. -/
theorem level_less {x u v t : Nat} (hx : Fnt x) (hxv : val x ≤ 1073741824) (hu : Fnt u) (hv : Fnt v) (lu : u < 2 ^ 64) (lv : v < 2 ^ 64) (ht : Fnt t) (v0 : 0 ≤ val v) (hvu : val v ≤ val u) (t0 : 0 ≤ val t) (h : gtF (ab x) (bin .mul (some u) (some t)) = true) : gtF (ab x) (bin .mul (some v) (some t)) = true := by
  obtain ⟨p, hp⟩ := prod_some hu ht
  obtain ⟨q, hq⟩ := prod_some hv ht
  rw [hp] at h
  rw [hq]
  rw [← ab_some (isN_none hp)] at h
  rw [← ab_some (isN_none hq)]
  have hB : val u * val t ≤ pw 990 := by
    rcases Classical.em (val u * val t = 0) with e | e
    · rw [e]; exact Rat.le_of_lt (pw_pos _)
    · have u0 : 0 ≤ val u := Rat.le_trans v0 hvu
      have pu : 0 < val u := by
        rcases rat_lt_or_le 0 (val u) with g | g
        · exact g
        · exfalso; apply e; have : val u = 0 := by grind
          rw [this, Rat.zero_mul]
      have pt : 0 < val t := by
        rcases rat_lt_or_le 0 (val t) with g | g
        · exact g
        · exfalso; apply e; have : val t = 0 := by grind
          rw [this, Rat.mul_zero]
      obtain ⟨s1, m1, e1, r1⟩ := fin_read hu
      obtain ⟨s3, m3, e3, r3⟩ := fin_read ht
      obtain ⟨rfl, pm1⟩ := pos_of r1 pu
      obtain ⟨rfl, pm3⟩ := pos_of r3 pt
      have w1 := mul_word r1 r3 hp
      rw [Bool.xor_false] at w1
      have v1 : val u * val t = ((m1 * m3 : Nat) : Rat) * pw (e1 + e3) := by
        rw [val_read r1, val_read r3, dv_false, dv_false, Rat.natCast_mul, pw_add]; grind
      have hm := Nat.mul_pos pm1 pm3
      rcases Int.lt_or_le (e1 + e3 + ((m1 * m3).log2 : Int)) 980 with g | g
      · rw [v1]
        have l2 : ((m1 * m3 : Nat) : Rat) ≤ ((2 ^ ((m1 * m3).log2 + 1) : Nat) : Rat) := Rat.natCast_le_natCast.2 (Nat.le_of_lt Nat.lt_log2_self)
        have a2 := Rat.mul_le_mul_of_nonneg_right l2 (Rat.le_of_lt (pw_pos (e1 + e3)))
        rw [← pw_nat, ← pw_add] at a2
        exact Rat.le_trans a2 (pw_mono (by omega))
      · exfalso
        have := big_no hx hxv hm g
        rw [w1] at h
        have h' : gtF (ab x) (ab (double.nearest false (m1 * m3) (e1 + e3))) = true := h
        rw [this] at h'
        cases h'
  have hpq := mul_two hv hu ht lv lu v0 hvu t0 hB hq hp
  have u0 : 0 ≤ val u := Rat.le_trans v0 hvu
  have p990 : pw 990 ≤ pw 1000 := pw_mono (by omega)
  have n1 : 0 ≤ val u * val t := Rat.mul_nonneg u0 t0
  have n2 : 0 ≤ val v * val t := Rat.mul_nonneg v0 t0
  have le2 : val v * val t ≤ val u * val t := Rat.mul_le_mul_of_nonneg_right hvu t0
  have pp := pw_pos 1000
  have fp := (mul_near hu ht hp (B := pw 1000) (by grind) (by grind) Rat.le_refl).1
  have fq := (mul_near hv ht hq (B := pw 1000) (by grind) (by grind) Rat.le_refl).1
  rw [gtF_val hx fp] at h
  rw [gtF_val hx fq]
  simp only [decide_eq_true_eq] at h ⊢
  grind
/-- What is its own level is not greater than that, once or more. -/
theorem level_same {x u t : Nat} (hx : Fnt x) (hxv : val x ≤ 1073741824) (x0 : 0 ≤ val x) (hu : Fnt u) (ht : Fnt t) (he : val u = val x) (t1 : 1 ≤ val t) : gtF (ab x) (bin .mul (some u) (some t)) = false := by
  obtain ⟨p, hp⟩ := prod_some hu ht
  rw [hp, ← ab_some (isN_none hp)]
  cases hg : gtF (ab x) (ab p) with
  | false => rfl
  | true =>
    exfalso
    have u0 : 0 ≤ val u := by rw [he]; exact x0
    have t0 : 0 ≤ val t := by grind
    have hB : val u * val t ≤ pw 990 := by
      rcases Classical.em (val u * val t = 0) with e | e
      · rw [e]; exact Rat.le_of_lt (pw_pos _)
      · have pu : 0 < val u := by
          rcases rat_lt_or_le 0 (val u) with g | g
          · exact g
          · exfalso; apply e; have : val u = 0 := by grind
            rw [this, Rat.zero_mul]
        obtain ⟨s1, m1, e1, r1⟩ := fin_read hu
        obtain ⟨s3, m3, e3, r3⟩ := fin_read ht
        obtain ⟨rfl, pm1⟩ := pos_of r1 pu
        obtain ⟨rfl, pm3⟩ := pos_of r3 (by grind)
        have w1 := mul_word r1 r3 hp
        rw [Bool.xor_false] at w1
        have v1 : val u * val t = ((m1 * m3 : Nat) : Rat) * pw (e1 + e3) := by
          rw [val_read r1, val_read r3, dv_false, dv_false, Rat.natCast_mul, pw_add]; grind
        have hm := Nat.mul_pos pm1 pm3
        rcases Int.lt_or_le (e1 + e3 + ((m1 * m3).log2 : Int)) 980 with g | g
        · rw [v1]
          have l2 : ((m1 * m3 : Nat) : Rat) ≤ ((2 ^ ((m1 * m3).log2 + 1) : Nat) : Rat) := Rat.natCast_le_natCast.2 (Nat.le_of_lt Nat.lt_log2_self)
          have a2 := Rat.mul_le_mul_of_nonneg_right l2 (Rat.le_of_lt (pw_pos (e1 + e3)))
          rw [← pw_nat, ← pw_add] at a2
          exact Rat.le_trans a2 (pw_mono (by omega))
        · exfalso
          have := big_no hx hxv hm g
          rw [w1] at hg
          have h' : gtF (ab x) (ab (double.nearest false (m1 * m3) (e1 + e3))) = true := hg
          rw [this] at h'
          cases h'
    have p990 : pw 990 ≤ pw 1000 := pw_mono (by omega)
    have n1 : 0 ≤ val u * val t := Rat.mul_nonneg u0 t0
    have pp := pw_pos 1000
    have fp := (mul_near hu ht hp (B := pw 1000) (by grind) (by grind) Rat.le_refl).1
    have k := (mul_mono hu ht hp (by grind) (by grind) (z := x)).2 (by
      have := Rat.mul_le_mul_of_nonneg_left t1 u0
      rw [Rat.mul_one] at this
      rw [← he]; exact this)
    rw [gtF_val hx fp] at hg
    simp only [decide_eq_true_eq] at hg
    grind
end Go.Proofs.Ytfggdaebahdnfaa
