/- Cell of a middle and of whole metres; middles in their order; Bin of 0. -/
import Derived.Test.YtcekbnjgdgapgaaBa
namespace Go.Proofs.Ytcekbnjgdgapgaa
open Go.Fl Ieee Go.RowKit

theorem floor_whole {x : Nat} (hx : Fnt x) (h0 : 0 ≤ val x) (hB : val x < 1125899906842624) : ∃ K : Nat, Fnt (floor x) ∧ val (floor x) = (K : Rat) ∧ (K : Rat) ≤ val x ∧ val x < (K : Rat) + 1 := by
  obtain ⟨s, m, i, ex⟩ := fin_read hx
  have vx := val_read ex
  have hp := pw_pos i
  have hsm := sign_of ex h0
  have hm0 : 0 ≤ (m : Rat) * pw i := Rat.mul_nonneg Rat.natCast_nonneg (Rat.le_of_lt hp)
  have hx' : val x = (m : Rat) * pw i := by
    cases s
    · rw [vx, dv_false]
    · rw [dv_true] at vx; grind
  obtain ⟨K, hK⟩ : ∃ K, K = Toward.down.cut s (m <<< i.toNat) (-i).toNat := ⟨_, rfl⟩
  have hf : floor x = double.write (.number s K 0) := by
    unfold floor
    rw [ex]
    simp only [Datum.integral, ← hK]
  have hKd : K = m * 2 ^ i.toNat / 2 ^ (-i).toNat := by
    rw [hK]
    unfold Toward.cut
    simp only [shl, Nat.one_mul]
    have hmore : ∀ r : Nat, (m = 0 → r = 0) → (s && r != 0).toNat = 0 := by
      intro r hr
      cases s
      · rfl
      · rw [hr (hsm rfl)]; rfl
    rw [hmore _ (fun h => by rw [h]; simp), Nat.add_zero]
    generalize m * 2 ^ i.toNat = n
    rcases Nat.lt_or_ge (n.log2 + 2) ((-i).toNat) with h | h
    · rw [Nat.min_eq_right (Nat.le_of_lt h)]
      have hn : n < 2 ^ (n.log2 + 1) := Nat.lt_log2_self
      have a1 : 2 ^ (n.log2 + 1) ≤ 2 ^ (n.log2 + 2) := Nat.pow_le_pow_right (by omega) (by omega)
      have a2 : 2 ^ (n.log2 + 2) ≤ 2 ^ ((-i).toNat) := Nat.pow_le_pow_right (by omega) (by omega)
      rw [Nat.div_eq_of_lt (by omega), Nat.div_eq_of_lt (by omega)]
    · rw [Nat.min_eq_left h]
  have hz0 : s = true → K = 0 := fun hs => by rw [hKd, hsm hs]; simp
  have hb : (K : Rat) ≤ val x ∧ val x < (K : Rat) + 1 := by
    rcases Int.le_total 0 i with hi | hi
    · have e1 : (-i).toNat = 0 := by omega
      have hKx : (K : Rat) = val x := by
        rw [hKd, e1, Nat.pow_zero, Nat.div_one, hx', Rat.natCast_mul, ← pw_nat, show ((i.toNat : Nat) : Int) = i by omega]
      constructor <;> grind
    · have e1 : i.toNat = 0 := by omega
      rw [e1, Nat.pow_zero, Nat.mul_one] at hKd
      obtain ⟨d, hd⟩ : ∃ d, d = (-i).toNat := ⟨_, rfl⟩
      rw [← hd] at hKd
      have hxi : val x * ((2 ^ d : Nat) : Rat) = (m : Rat) := by
        rw [hx', ← pw_nat, Rat.mul_assoc, ← pw_add, show i + (d : Int) = 0 by omega]
        have e0 : pw 0 = 1 := by decide +kernel
        rw [e0, Rat.mul_one]
      have hpd := Nat.two_pow_pos d
      have hpdR : (0 : Rat) < ((2 ^ d : Nat) : Rat) := Rat.natCast_pos.2 hpd
      have hdm := Nat.div_add_mod m (2 ^ d)
      have hlt := Nat.mod_lt m hpd
      rw [← hKd] at hdm
      have k1 : K * 2 ^ d ≤ m := by rw [Nat.mul_comm]; omega
      have k2 : m < (K + 1) * 2 ^ d := by rw [Nat.add_mul, Nat.mul_comm]; omega
      have k1' : (K : Rat) * ((2 ^ d : Nat) : Rat) ≤ (m : Rat) := by rw [← Rat.natCast_mul]; exact Rat.natCast_le_natCast.2 k1
      have k2' : (m : Rat) < ((K : Rat) + 1) * ((2 ^ d : Nat) : Rat) := by
        have := Rat.natCast_lt_natCast.2 k2
        rw [Rat.natCast_mul, Rat.natCast_add] at this
        exact this
      rw [← hxi] at k1' k2'
      refine ⟨le_of_mul hpdR k1', ?_⟩
      rcases (Rat.le_total : (K : Rat) + 1 ≤ val x ∨ val x ≤ (K : Rat) + 1) with h | h
      · exfalso
        have := Rat.mul_le_mul_of_nonneg_right h (Rat.le_of_lt hpdR)
        grind
      · refine Rat.lt_of_le_of_ne h fun e => ?_
        rw [e] at k2'
        grind
  have hK50 : K < 1125899906842624 := by
    rcases Nat.lt_or_ge K 1125899906842624 with h | h
    · exact h
    · exfalso
      have := Rat.natCast_le_natCast.2 h
      have e : ((1125899906842624 : Nat) : Rat) = 1125899906842624 := rfl
      rw [e] at this
      grind
  obtain ⟨g1, g2⟩ := int_write s (K := K) (by omega)
  refine ⟨K, by rw [hf]; exact g1, ?_, hb.1, hb.2⟩
  rw [hf, g2]
  have e0 : pw 0 = 1 := by decide +kernel
  cases hs : s
  · rw [dv_false, e0, Rat.mul_one]
  · rw [dv_true, hz0 hs, e0]
    have z : ((0 : Nat) : Rat) = 0 := rfl
    rw [z]; grind
/-- The whole number that is made of a float between it and the next. -/
theorem place_of {r n : Nat} (hr : Fnt r) (h1 : (n : Rat) ≤ val r) (h2 : val r < (n : Rat) + 1) (hn : n < 1125899906842624) : bigF (some (floor r)) = false ∧ intF (some (floor r)) = (n : Int) := by
  have h0 : (0 : Rat) ≤ (n : Rat) := Rat.natCast_nonneg
  have hn' : (n : Rat) + 1 ≤ 1125899906842624 := by
    have := Rat.natCast_le_natCast.2 (show n + 1 ≤ 1125899906842624 by omega)
    rw [Rat.natCast_add] at this
    exact this
  obtain ⟨K, f, v, k1, k2⟩ := floor_whole hr (by grind) (by grind)
  obtain rfl := nat_between k1 k2 h1 h2
  have hf2 : Fnt 4832362400168542208 ∧ val 4832362400168542208 = 1125899906842624 := ⟨by unfold Fnt; decide, by decide +kernel⟩
  constructor
  · unfold bigF
    rw [← Fnt.ab f, gtF_val f hf2.1, eqF_val f hf2.1, hf2.2, v]
    have a1 : ¬ (1125899906842624 : Rat) < (K : Rat) := by grind
    have a2 : ¬ (K : Rat) = 1125899906842624 := by grind
    simp [a1, a2]
  · obtain ⟨L, l1, l2, l3, _⟩ := toInt_val f (by rw [v]; exact h0) (by rw [v]; grind)
    rw [v] at l2 l3
    obtain rfl := nat_between l2 l3 (show (K : Rat) ≤ (K : Rat) from Rat.le_refl) (by grind)
    unfold intF
    simp [l1]
/-- Cell of metres whose quotient lies between n and the next. -/
theorem cell_at {c v r m rr n : Nat} {E R : Int} (hk : checkF (ab c) (ab v) (ab r) E R = 0) (fm : Fnt m) (m0 : 0 ≤ val m) (hq : bin .quo (ab m) (ab c) = some rr) (hr : Fnt rr) (h1 : (n : Rat) ≤ val rr) (h2 : val rr < (n : Rat) + 1) (hn : n < 1125899906842624) :
    cellF (ab c) (ab v) (ab r) E R (ab m) = ((n : Int) % E, (n : Int) / E, 0) := by
  obtain ⟨b1, b2⟩ := place_of hr h1 h2 hn
  have hp : placeF (ab c) (ab m) = some (floor rr) := by unfold placeF; rw [hq]; rfl
  have hl : ltF (ab m) (ab 0) = false := by
    rw [ltF_val fm zero_fnt, val0]
    have : ¬ val m < 0 := by grind
    simp [this]
  unfold cellF
  rw [if_neg (by simp [hk]), if_neg (by simp [fin_of fm]), if_neg (by simp [hl]), hp, b1, b2]
  rfl
theorem cell_mid {c v r m n : Nat} {E R : Int} (hk : checkF (ab c) (ab v) (ab r) E R = 0) (hc : Wd c) (hn : n < 1125899906842624) (hm : Mid c m n) : cellF (ab c) (ab v) (ab r) E R (ab m) = ((n : Int) % E, (n : Int) / E, 0) := by
  obtain ⟨fm, m1, m2⟩ := hm
  have hp := hc.pos
  have h0 : (0 : Rat) ≤ (n : Rat) := Rat.natCast_nonneg
  have hn' : (n : Rat) + 1 ≤ 1125899906842624 := by
    have := Rat.natCast_le_natCast.2 (show n + 1 ≤ 1125899906842624 by omega)
    rw [Rat.natCast_add] at this
    exact this
  have m0 : 0 ≤ val m := Rat.le_trans (Rat.mul_nonneg (Rat.le_of_lt hp) (by grind)) m1
  obtain ⟨rr, hr⟩ := quo_some_pos fm.num hc.f hp
  obtain ⟨κ, hκ⟩ : ∃ κ : Rat, κ * val c = val m := ⟨val m / val c, Rat.div_mul_cancel (by grind)⟩
  have k1 : (n : Rat) + 5 / 14 ≤ κ := le_of_mul hp (by rw [hκ, Rat.mul_comm]; exact m1)
  have k2 : κ ≤ (n : Rat) + 9 / 14 := le_of_mul hp (by rw [hκ, Rat.mul_comm _ (val c)]; exact m2)
  have hB : κ ≤ pw 990 := by
    have : pw 50 ≤ pw 990 := pw_mono (by omega)
    rw [p50] at this
    grind
  obtain ⟨f, ⟨n1, n2⟩, _⟩ := quo_near fm hc.f m0 hp hr hκ Rat.le_refl hB
  have ht : pw (-1075) ≤ 1 / 1000 := Rat.le_trans (pw_mono (show (-1075 : Int) ≤ -10 by omega)) (by decide +kernel)
  rw [pw52] at n1 n2
  exact cell_at hk fm m0 (by rw [Fnt.ab fm, Fnt.ab hc.f]; exact hr) f (by grind) (by grind) hn
theorem goodF_one : goodF (ab 4607182418800017408) = true := by decide +kernel
theorem check_one {c v r : Nat} {E R : Int} (hk : checkF (ab c) (ab v) (ab r) E R = 0) : checkF (ab 4607182418800017408) (ab v) (ab r) E R = 0 := by
  have h := check0 hk
  unfold checkF at *
  rw [if_pos ⟨h.c, h.v, h.r, h.e1, h.e2, h.r1, h.r2⟩] at hk
  rw [if_pos ⟨goodF_one, h.v, h.r, h.e1, h.e2, h.r1, h.r2⟩]
  exact hk
theorem cell_one {c v r : Nat} {E R z : Int} (hk : checkF (ab c) (ab v) (ab r) E R = 0) (h0 : 0 ≤ z) (hz : z < 1125899906842624) : cellF (ab 4607182418800017408) (ab v) (ab r) E R (ab (floatOfInt .f64 z)) = (z % E, z / E, 0) := by
  obtain ⟨n, rfl⟩ := Int.eq_ofNat_of_zero_le h0
  obtain ⟨fn, vn⟩ := int_val (K := n) (by omega)
  have hn0 : (0 : Rat) ≤ (n : Rat) := Rat.natCast_nonneg
  have hn' : (n : Rat) + 1 ≤ 1125899906842624 := by
    have := Rat.natCast_le_natCast.2 (show n + 1 ≤ 1125899906842624 by omega)
    rw [Rat.natCast_add] at this
    exact this
  have hp : pw 50 ≤ pw 1000 := pw_mono (by omega)
  rw [p50] at hp
  obtain ⟨rr, r1, r2, r3⟩ := quo_one fn (by rw [vn]; constructor <;> grind)
  rw [vn] at r3
  exact cell_at (check_one hk) fn (by rw [vn]; exact hn0) (by rw [Fnt.ab fn, Fnt.ab fone.1]; exact r1) r2 (by rw [r3]; exact Rat.le_refl) (by rw [r3]; grind) (by omega)
/-- Metres that is OK. -/
theorem met_ok {c v r : Nat} {E R cell turns : Int} (hk : checkF (ab c) (ab v) (ab r) E R = 0) (h : (metF (ab c) (ab v) (ab r) E R cell turns).2 = 0) : 0 ≤ cell ∧ cell < E ∧ 0 ≤ turns ∧ turns * E + cell < 1125899906842624 ∧ (metF (ab c) (ab v) (ab r) E R cell turns).1 = midF (ab c) (turns * E + cell) := by
  unfold metF at *
  rw [if_neg (by simp [hk])] at *
  split at h
  · cases h
  · rename_i h1
    rw [if_neg h1]
    split at h
    · cases h
    · rename_i h2
      rw [if_neg h2]
      refine ⟨by omega, by omega, by omega, by omega, ?_⟩
      unfold finOr at *
      split at h
      · rename_i h3; rw [if_pos h3]
      · cases h
/-- Cell of Metres. -/
theorem back {c v r : Nat} {E R cell turns : Int} {x : Nat} (hk : checkF (ab c) (ab v) (ab r) E R = 0) (hc : Wd c) (h : (metF (ab c) (ab v) (ab r) E R cell turns).2 = 0) (hx : ab x = (metF (ab c) (ab v) (ab r) E R cell turns).1) : cellF (ab c) (ab v) (ab r) E R (ab x) = (cell, turns, 0) ∧ ∃ n : Nat, (n : Int) = turns * E + cell ∧ n < 1125899906842624 ∧ Mid c x n := by
  obtain ⟨a1, a2, a3, a4, a5⟩ := met_ok hk h
  have m0 := Int.mul_nonneg a3 (show 0 ≤ E by omega)
  obtain ⟨n, hn⟩ := Int.eq_ofNat_of_zero_le (show 0 ≤ turns * E + cell by omega)
  rw [a5, hn] at hx
  have hn' : n < 1125899906842624 := by omega
  obtain ⟨m, e, hm⟩ := mid_of hc hn'
  rw [e] at hx
  obtain rfl := of_ab hx
  refine ⟨?_, n, hn.symm, hn', hm⟩
  rw [cell_mid hk hc hn' hm, ← hn]
  have e1 : (turns * E + cell) % E = cell := by
    rw [Int.add_comm, Int.add_mul_emod_self_right]
    exact Int.emod_eq_of_lt a1 a2
  have e2 : (turns * E + cell) / E = turns := by
    rw [Int.add_comm, Int.add_mul_ediv_right _ _ (by omega), Int.ediv_eq_zero_of_lt a1 a2]; omega
  rw [e1, e2]
/-- Middles in their order. -/
theorem rises {c x y n k : Nat} (hc : Wd c) (hx : Mid c x n) (hy : Mid c y k) (h : n < k) : (ltF (ab x) (ab y) || eqF (ab x) (ab y)) = true := by
  obtain ⟨fx, _, x2⟩ := hx
  obtain ⟨fy, y1, _⟩ := hy
  have hnk : (n : Rat) + 1 ≤ (k : Rat) := by
    have := Rat.natCast_le_natCast.2 (show n + 1 ≤ k by omega)
    rw [Rat.natCast_add] at this
    exact this
  have a : val c * ((n : Rat) + 9 / 14) ≤ val c * ((k : Rat) + 5 / 14) := Rat.mul_le_mul_of_nonneg_left (by grind) (Rat.le_of_lt hc.pos)
  have b : val x ≤ val y := by grind
  rw [ltF_val fx fy, eqF_val fx fy]
  by_cases e : val x = val y
  · simp [e]
  · have : val x < val y := Rat.lt_of_le_of_ne b e
    simp [this]
theorem order_n {E cell turns cell2 turns2 : Int} (h1 : 0 ≤ cell) (h2 : cell < E) (h3 : 0 ≤ cell2) (h4 : turns < turns2 ∨ turns = turns2 ∧ cell < cell2) : turns * E + cell < turns2 * E + cell2 := by
  rcases h4 with h | ⟨rfl, h⟩
  · have := Int.mul_le_mul_of_nonneg_right (show turns + 1 ≤ turns2 by omega) (show 0 ≤ E by omega)
    rw [Int.add_mul] at this
    omega
  · omega
/-- Two Metres that are OK. -/
theorem back2 {c v r : Nat} {E R cell turns cell2 turns2 : Int} {x y : Nat} (hk : checkF (ab c) (ab v) (ab r) E R = 0) (hc : Wd c) (h : (metF (ab c) (ab v) (ab r) E R cell turns).2 = 0) (hx : ab x = (metF (ab c) (ab v) (ab r) E R cell turns).1)
    (h' : (metF (ab c) (ab v) (ab r) E R cell2 turns2).2 = 0) (hy : ab y = (metF (ab c) (ab v) (ab r) E R cell2 turns2).1) (ho : turns < turns2 ∨ turns = turns2 ∧ cell < cell2) : (ltF (ab x) (ab y) || eqF (ab x) (ab y)) = true := by
  obtain ⟨_, n, n1, _, n3⟩ := back hk hc h hx
  obtain ⟨_, k, k1, _, k3⟩ := back hk hc h' hy
  obtain ⟨a1, a2, _⟩ := met_ok hk h
  obtain ⟨b1, _⟩ := met_ok hk h'
  have := order_n a1 a2 b1 ho
  exact rises hc n3 k3 (by omega)
/-- Bin of 0. -/
theorem bin_zero {c v r : Nat} {E R : Int} (hk : checkF (ab c) (ab v) (ab r) E R = 0) : binF (ab c) (ab v) (ab r) E R (ab 0) = (some 0, 0) ∨ binF (ab c) (ab v) (ab r) E R (ab 0) = (some 0, 6) := by
  have hK := check0 hk
  have e1 : bin .mul (ab 4611686018427387904) (ab 0) = some 0 := by decide +kernel
  obtain ⟨fv, pv⟩ := good_val hK.v
  have e2 := quo_zero fv pv
  obtain ⟨fE, vE⟩ := whole_val (z := E) (by have := hK.e1; unfold P53; omega) (by have := hK.e2; unfold P53; omega)
  obtain ⟨fr, pr⟩ := good_val hK.r
  have pE : 0 < val (floatOfInt .f64 E) := by
    rw [vE]
    have : ((0 : Int) : Rat) < (E : Rat) := Rat.intCast_lt_intCast.2 (by have := hK.e1; omega)
    simpa using this
  obtain ⟨s, m, i, eE⟩ := fin_read fE
  obtain ⟨rfl, hm⟩ := pos_of eE pE
  obtain ⟨t, n, j, er⟩ := fin_read fr
  obtain ⟨rfl, hn⟩ := pos_of er pr
  have hsec : ∃ (M : Nat) (I : Int), secF E (ab r) = some (double.write (.number false M I)) := by
    unfold secF
    rw [Fnt.ab fE, Fnt.ab fr]
    show ∃ M I, double.div _ _ = _
    unfold Format.div
    rw [eE, er]
    simp only [Datum.quotient, if_neg (show ¬ n = 0 by omega), Option.map_some]
    exact ⟨_, _, rfl⟩
  obtain ⟨M, I, hs⟩ := hsec
  have hw : double.write (.number false M I) < 2 ^ 63 ∧ isN (double.write (.number false M I)) = false := by
    refine ⟨?_, write_ok (by rfl)⟩
    rcases nn_write (s := false) (m := M) (e := I) (by intro h; cases h) with h | h
    · exact h
    · exfalso
      have e3 : double.infRung = 0x7ff0000000000000 := rfl
      have hlt : double.nearest false M I < 2 ^ 63 := by
        unfold Format.nearest
        split
        · show 0 < _; omega
        · simp only [e3, Format.word]
          rw [if_neg (by simp)]
          omega
      have : double.write (.number false M I) = double.nearest false M I := rfl
      omega
  have ht : turnsF (ab v) (ab r) E (ab 0) = some 0 ∨ turnsF (ab v) (ab r) E (ab 0) = none := by
    unfold turnsF
    rw [e1, Fnt.ab fv, e2, hs]
    generalize double.write (.number false M I) = sc at *
    show double.mul 0 sc = some 0 ∨ double.mul 0 sc = none
    unfold Format.mul
    rw [read0]
    rcases not_nan hw.2 with ⟨s, m', i', h⟩ | ⟨s, h⟩
    · left
      have hsg := (read_num h).1
      rw [show sc / 2 ^ 63 = 0 by omega] at hsg
      have : s = false := by simpa using hsg
      subst this
      rw [h]
      simp only [Datum.product, Option.map_some, Nat.zero_mul]
      rfl
    · right
      rw [h]
      simp [Datum.product]
  have hf0 : fin (ab 0) = true := fin_of zero_fnt
  unfold binF
  rw [if_neg (by simp [hk]), if_neg (by simp [hf0])]
  rcases ht with ht | ht
  · left
    have hf0' : fin (some 0) = true := hf0
    rw [ht, if_neg (by simp [hf0'])]
    have ew : wrapF ((some 0 : Option Nat).map neg) = some 0 := by decide +kernel
    obtain ⟨fR, _, pR⟩ := rows_val hK.r1 hK.r2
    rw [ew, Fnt.ab fR]
    obtain ⟨t, n', j', eR⟩ := fin_read fR
    obtain ⟨rfl, _⟩ := pos_of eR pR
    have : bin .mul (some 0) (some (floatOfInt .f64 R)) = some 0 := by
      show double.mul 0 _ = _
      unfold Format.mul
      rw [read0, eR]
      simp only [Datum.product, Option.map_some, Nat.zero_mul]
      rfl
    rw [this]
  · right
    have hn0 : fin none = false := rfl
    rw [ht, if_pos hn0]
    rfl
end Go.Proofs.Ytcekbnjgdgapgaa
