/- Products and quotients keep the order. No program. -/
import Derived.Test.YtfggdaebahdnfaaYa
namespace Go.Proofs.Ytfggdaebahdnfaa
open Go.ChangeShapes Go.WideShapes Go.ChangeAt Go.RowKit Go.Fl Ieee

theorem mul_word {x y : Nat} {s t : Bool} {m n : Nat} {e d : Int} (hx : double.read x = .number s m e) (hy : double.read y = .number t n d) {r : Nat} (h : bin .mul (some x) (some y) = some r) : r = double.write (.number (s ^^ t) (m * n) (e + d)) := by
  have h' : double.mul x y = some r := h
  unfold Format.mul at h'
  rw [hx, hy] at h'
  simp only [Datum.product, Option.map_some, Option.some.injEq] at h'
  exact h'.symm
theorem mul_nought {x y r : Nat} (hx : Fnt x) (hy : Fnt y) (h0 : val x * val y = 0) (h : bin .mul (some x) (some y) = some r) : val r = 0 := by
  have b : val x * val y ≤ pw 1000 := by rw [h0]; exact Rat.le_of_lt (pw_pos _)
  have b' : -pw 1000 ≤ val x * val y := by rw [h0]; have := pw_pos 1000; grind
  have := mul_mono hx hy h b b' (z := 0)
  rw [val0] at this
  have a := this.1 (by rw [h0]; exact Rat.le_refl)
  have c := this.2 (by rw [h0]; exact Rat.le_refl)
  grind
/-- Of two products with one number the greater one stays so. -/
theorem mul_two {x y z r q : Nat} (hx : Fnt x) (hy : Fnt y) (hz : Fnt z) (lx : x < 2 ^ 64) (ly : y < 2 ^ 64) (h0 : 0 ≤ val x) (hxy : val x ≤ val y) (hz0 : 0 ≤ val z) (hB : val y * val z ≤ pw 990) (h1 : bin .mul (some x) (some z) = some r) (h2 : bin .mul (some y) (some z) = some q) : val r ≤ val q := by
  have hle : val x * val z ≤ val y * val z := Rat.mul_le_mul_of_nonneg_right hxy hz0
  have p990 : pw 990 ≤ pw 1000 := pw_mono (by omega)
  have hx0 : 0 ≤ val x * val z := Rat.mul_nonneg h0 hz0
  have hpp := pw_pos 1000
  rcases Classical.em (val x * val z = 0) with e | e
  · rw [mul_nought hx hz e h1]
    have := (mul_mono hy hz h2 (by grind) (by grind) (z := 0)).2
    rw [val0] at this
    exact this (by grind)
  · have px : 0 < val x := by
      rcases rat_lt_or_le 0 (val x) with q | q
      · exact q
      · exfalso; apply e; have : val x = 0 := by grind
        rw [this, Rat.zero_mul]
    have pz : 0 < val z := by
      rcases rat_lt_or_le 0 (val z) with q | q
      · exact q
      · exfalso; apply e; have : val z = 0 := by grind
        rw [this, Rat.mul_zero]
    obtain ⟨s1, m1, e1, r1⟩ := fin_read hx
    obtain ⟨s2, m2, e2, r2⟩ := fin_read hy
    obtain ⟨s3, m3, e3, r3⟩ := fin_read hz
    obtain ⟨rfl, pm1⟩ := pos_of r1 px
    obtain ⟨rfl, pm2⟩ := pos_of r2 (by grind)
    obtain ⟨rfl, pm3⟩ := pos_of r3 pz
    have w1 := mul_word r1 r3 h1
    have w2 := mul_word r2 r3 h2
    rw [Bool.xor_false] at w1 w2
    have v1 : val x * val z = ((m1 * m3 : Nat) : Rat) * pw (e1 + e3) := by
      rw [val_read r1, val_read r3, dv_false, dv_false, Rat.natCast_mul, pw_add]; grind
    have v2 : val y * val z = ((m2 * m3 : Nat) : Rat) * pw (e2 + e3) := by
      rw [val_read r2, val_read r3, dv_false, dv_false, Rat.natCast_mul, pw_add]; grind
    have b1 : ((m1 * m3 : Nat) : Rat) * pw (e1 + e3) ≤ pw 1000 := by rw [← v1]; grind
    have b2 : ((m2 * m3 : Nat) : Rat) * pw (e2 + e3) ≤ pw 1000 := by rw [← v2]; grind
    obtain ⟨E, hE, hE2⟩ := place_nat (m1 * m3) (e1 + e3) b1
    have hE3 : E ≤ 990 := by
      rcases Int.lt_or_le 990 E with q | q
      · exfalso
        have k1 := pw_lt q
        rcases hE.lo with l | l
        · omega
        · rw [← v1] at l; grind
      · exact q
    have k := two_keep (η := ((m2 * m3 : Nat) : Rat) * pw (e2 + e3)) (r := r) (q := q) hE (by rw [← v1, ← v2]; exact hle) (by rw [w1]; exact write_half (Nat.mul_pos pm1 pm3) b1 hE) (by rw [w1]; exact write_side b1) (by rw [w2]; exact write_side b2) (fun F hF => by rw [w2]; exact write_half (Nat.mul_pos pm2 pm3) b2 hF) (pw_float (by have := hE.least; omega) (by omega))
    rcases k with k | k
    · exact k
    · rw [← v1, ← v2] at k
      have hv : val x = val y := by
        have a := le_of_mul (a := val y) (b := val x) pz (by rw [k]; exact Rat.le_refl)
        grind
      obtain rfl := val_inj hx hy lx ly hv (by grind)
      rw [h1] at h2
      simp only [Option.some.injEq] at h2
      rw [h2]; exact Rat.le_refl
/-- A quotient as it is written: in units of which its own number of parts is told to half a unit. -/
theorem quo_form {x y r : Nat} (hx : Fnt x) (hy : Fnt y) (hx0 : 0 < val x) (hy0 : 0 < val y) (h : bin .quo (some x) (some y) = some r) {κ : Rat} (hκ : κ * val y = val x) :
    ∃ (K D n : Nat) (u : Int), 0 < n ∧ r = double.write (.number false K u) ∧ n * 2 ^ 53 ≤ D ∧ (∀ q, q * n < D → 2 * q < K) ∧ (∀ q, D < q * n → K < 2 * q) ∧ (∀ q, D = q * n → K = 2 * q) ∧ κ * (n : Rat) = ((2 * D : Nat) : Rat) * pw u := by
  obtain ⟨s, m, i, ex⟩ := fin_read hx
  obtain ⟨t, n, j, ey⟩ := fin_read hy
  obtain ⟨rfl, hm⟩ := pos_of ex hx0
  obtain ⟨rfl, hn⟩ := pos_of ey hy0
  have vx := val_read ex
  have vy := val_read ey
  rw [dv_false] at vx vy
  obtain ⟨more, hmore⟩ : ∃ more, more = 54 + n.log2 - m.log2 := ⟨_, rfl⟩
  obtain ⟨D, hD⟩ : ∃ D, D = m * 2 ^ more := ⟨_, rfl⟩
  obtain ⟨K, hK⟩ : ∃ K, K = 2 * (D / n) + (D % n != 0).toNat := ⟨_, rfl⟩
  have hr : r = double.write (.number false K (i - j - more - 1)) := by
    have h' : double.div x y = some r := h
    unfold Format.div at h'
    rw [ex, ey] at h'
    have e4 : double.fractionBits + 2 = 54 := rfl
    simp only [Datum.quotient, e4, shl, if_neg (show ¬ n = 0 by omega), Option.map_some, Option.some.injEq, Bool.xor_false, ← hmore, ← hD, ← hK] at h'
    exact h'.symm
  have hDn : n * 2 ^ 53 ≤ D := by
    have a1 : 2 ^ m.log2 ≤ m := Nat.log2_self_le (by omega)
    have a2 : n < 2 ^ (n.log2 + 1) := Nat.lt_log2_self
    have a3 : m.log2 ≤ 52 := by
      have := read_lt ex
      rcases Nat.lt_or_ge 52 m.log2 with h1 | h1
      · have := Nat.pow_le_pow_right (show 0 < 2 by omega) (show 53 ≤ m.log2 by omega)
        omega
      · exact h1
    have a4 : 2 ^ m.log2 * 2 ^ more = 2 ^ (n.log2 + 1) * 2 ^ 53 := by
      rw [← Nat.pow_add, ← Nat.pow_add]
      exact congrArg (fun k => 2 ^ k) (by omega)
    have a5 := Nat.mul_le_mul_right (2 ^ more) a1
    have a6 := Nat.mul_le_mul_right (2 ^ 53) (Nat.le_of_lt a2)
    rw [hD]; omega
  have hdm := Nat.div_add_mod D n
  have hlt := Nat.mod_lt D hn
  refine ⟨K, D, n, i - j - more - 1, hn, hr, hDn, fun q hq => ?_, fun q hq => ?_, fun q hq => ?_, ?_⟩
  · rcases Nat.lt_or_ge q (D / n) with l | l
    · omega
    · have e1 : q = D / n := by
        have : q ≤ D / n := (Nat.le_div_iff_mul_le hn).2 (by omega)
        omega
      have e2 : D % n ≠ 0 := by
        intro e0
        rw [e1, Nat.mul_comm] at hq
        omega
      rw [hK, e1]
      have : (D % n != 0) = true := by simpa using e2
      rw [this]; simp
  · have : D / n < q := (Nat.div_lt_iff_lt_mul hn).2 hq
    have : (D % n != 0).toNat ≤ 1 := Bool.toNat_le _
    omega
  · rw [hK, hq, Nat.mul_div_cancel _ hn, Nat.mul_mod_left]; rfl
  · have h2 : ((2 * D : Nat) : Rat) * pw (i - j - more - 1) * pw j = val x := by
      have e1 : pw (i - j - more - 1) * pw j = pw (i - more - 1) := by rw [← pw_add]; exact congrArg pw (by omega)
      have e2 : pw (i - more - 1) * pw (more : Int) = pw (i - 1) := by rw [← pw_add]; exact congrArg pw (by omega)
      have e3 := pw_half i
      rw [Rat.mul_assoc, e1, vx, hD, Rat.natCast_mul, Rat.natCast_mul, ← pw_nat]
      have e4 : ((2 : Nat) : Rat) = 2 := rfl
      rw [e4]
      grind
    have h3 : κ * (n : Rat) * pw j = val x := by rw [← hκ, vy]; grind
    have hpj := pw_pos j
    have a := le_of_mul (a := κ * (n : Rat)) (b := ((2 * D : Nat) : Rat) * pw (i - j - more - 1)) hpj (by rw [h2, h3]; exact Rat.le_refl)
    have c := le_of_mul (b := κ * (n : Rat)) (a := ((2 * D : Nat) : Rat) * pw (i - j - more - 1)) hpj (by rw [h2, h3]; exact Rat.le_refl)
    grind
/-- Against an even number of units a quotient stands as what is written does. -/
theorem form_lt {K D n : Nat} {u : Int} {κ : Rat} (hn : 0 < n) (hk : κ * (n : Rat) = ((2 * D : Nat) : Rat) * pw u) (h1 : ∀ q, q * n < D → 2 * q < K) (h2 : ∀ q, D < q * n → K < 2 * q) (q : Nat) :
    (((2 * q : Nat) : Rat) * pw u < κ → ((2 * q : Nat) : Rat) * pw u < (K : Rat) * pw u) ∧ (κ < ((2 * q : Nat) : Rat) * pw u → (K : Rat) * pw u < ((2 * q : Nat) : Rat) * pw u) := by
  have hp := pw_pos u
  have hn' : 0 < (n : Rat) := Rat.natCast_pos.2 hn
  have key : ∀ a b : Nat, ((a : Nat) : Rat) * pw u < ((b : Nat) : Rat) * pw u → a < b := fun a b h => by
    rcases Nat.lt_or_ge a b with l | l
    · exact l
    · exfalso
      have := Rat.mul_le_mul_of_nonneg_right (Rat.natCast_le_natCast.2 l) (Rat.le_of_lt hp)
      grind
  constructor
  · intro h
    have a := Rat.mul_lt_mul_of_pos_right h hn'
    rw [hk] at a
    have e : ((2 * q : Nat) : Rat) * pw u * (n : Rat) = ((2 * q * n : Nat) : Rat) * pw u := by rw [Rat.natCast_mul (2 * q) n]; grind
    rw [e] at a
    have b := key _ _ a
    have c : q * n < D := by
      have : 2 * q * n = 2 * (q * n) := Nat.mul_assoc _ _ _
      omega
    exact Rat.mul_lt_mul_of_pos_right (Rat.natCast_lt_natCast.2 (h1 q c)) hp
  · intro h
    have a := Rat.mul_lt_mul_of_pos_right h hn'
    rw [hk] at a
    have e : ((2 * q : Nat) : Rat) * pw u * (n : Rat) = ((2 * q * n : Nat) : Rat) * pw u := by rw [Rat.natCast_mul (2 * q) n]; grind
    rw [e] at a
    have b := key _ _ a
    have c : D < q * n := by
      have : 2 * q * n = 2 * (q * n) := Nat.mul_assoc _ _ _
      omega
    exact Rat.mul_lt_mul_of_pos_right (Rat.natCast_lt_natCast.2 (h2 q c)) hp
theorem half1 {P H k v N : Rat} (hh : H * 2 = P) (hN : v = N * P) (g : 2 * k + P < 2 * v) : k < (2 * N - 1) * H := by
  have e : (2 * N - 1) * H * 2 = 2 * (N * P) - P := by rw [← hh]; grind
  rw [← hN] at e
  grind
theorem half2 {P H d v N : Rat} (hh : H * 2 = P) (hN : v = N * P) (g : d < (2 * N - 1) * H) : 2 * d + P < 2 * v := by
  have e : (2 * N - 1) * H * 2 = 2 * (N * P) - P := by rw [← hh]; grind
  rw [← hN] at e
  grind
theorem half3 {P H k v N : Rat} (hh : H * 2 = P) (hN : v = N * P) (g : 2 * v + P < 2 * k) : (2 * N + 1) * H < k := by
  have e : (2 * N + 1) * H * 2 = 2 * (N * P) + P := by rw [← hh]; grind
  rw [← hN] at e
  grind
theorem half4 {P H d v N : Rat} (hh : H * 2 = P) (hN : v = N * P) (g : (2 * N + 1) * H < d) : 2 * v + P < 2 * d := by
  have e : (2 * N + 1) * H * 2 = 2 * (N * P) + P := by rw [← hh]; grind
  rw [← hN] at e
  grind
theorem not_le_lt {a b : Rat} (h : a ≤ b) (g : b < a) : False := by grind
/-- A quotient is at most half a unit off. -/
theorem quo_half {x y r : Nat} (hx : Fnt x) (hy : Fnt y) (hx0 : 0 < val x) (hy0 : 0 < val y) (h : bin .quo (some x) (some y) = some r) {κ : Rat} (hκ : κ * val y = val x) {E : Int} (h1 : -900 ≤ E) (h2 : E ≤ 900) (lo : pw E ≤ κ) (hi : κ < pw (E + 1)) : Hf E κ r := by
  obtain ⟨K, D, n, u, hn, hr, hD, q1, q2, q3, hk⟩ := quo_form hx hy hx0 hy0 h hκ
  have fl := form_lt hn hk q1 q2
  have hp := pw_pos u
  have hn' : 0 < (n : Rat) := Rat.natCast_pos.2 hn
  have hκ' : pw (u + 54) ≤ κ := by
    have a := Rat.mul_le_mul_of_nonneg_right (Rat.natCast_le_natCast.2 hD) (Rat.le_of_lt hp)
    rw [Rat.natCast_mul, ← pw_nat] at a
    have b : 2 * ((D : Rat) * pw u) = κ * (n : Rat) := by
      rw [hk, Rat.natCast_mul]
      have e2 : ((2 : Nat) : Rat) = 2 := rfl
      rw [e2]; grind
    have c : pw (u + 54) = 2 * (pw ((53 : Nat) : Int) * pw u) := by
      rw [← pw_add, ← pw_half (u + 54), show u + 54 - 1 = ((53 : Nat) : Int) + u by omega]; grind
    refine le_of_mul hn' ?_
    rw [c]
    grind
  have hu : u + 54 ≤ E := by
    rcases Int.lt_or_le E (u + 54) with l | l
    · exfalso
      have := pw_mono (show E + 1 ≤ u + 54 by omega)
      grind
    · exact l
  -- an even number of units
  have ev : ∀ (c : Nat) (F : Int), u + 1 ≤ F → ∃ q : Nat, (c : Rat) * pw F = ((2 * q : Nat) : Rat) * pw u := fun c F hF => by
    obtain ⟨k, hk⟩ : ∃ k : Nat, F = u + ((k + 1 : Nat) : Int) := ⟨(F - u - 1).toNat, by omega⟩
    refine ⟨c * 2 ^ k, ?_⟩
    rw [hk, pw_add, pw_nat]
    have e : 2 * (c * 2 ^ k) = c * 2 ^ (k + 1) := by rw [Nat.pow_succ]; simp [Nat.mul_comm, Nat.mul_left_comm]
    rw [e, Rat.natCast_mul]; grind
  have one : ∀ F : Int, ((1 : Nat) : Rat) * pw F = pw F := fun F => by rw [show ((1 : Nat) : Rat) = 1 from rfl, Rat.one_mul]
  have hV : (K : Rat) * pw u < pw (E + 1) := by
    obtain ⟨q, hq⟩ := ev 1 (E + 1) (by omega)
    rw [one] at hq
    have := (fl q).2 (by rw [← hq]; exact hi)
    rw [← hq] at this; exact this
  have hL : pw E ≤ (K : Rat) * pw u := by
    obtain ⟨q, hq⟩ := ev 1 E (by omega)
    rw [one] at hq
    rcases Classical.em (pw E < κ) with g | g
    · have := (fl q).1 (by rw [← hq]; exact g)
      rw [hq]; exact Rat.le_of_lt this
    · have e0 : κ = pw E := by grind
      have e1 : D = q * n := by
        rw [e0, hq] at hk
        have h3 : (((2 * q) * n : Nat) : Rat) * pw u = ((2 * D : Nat) : Rat) * pw u := by rw [Rat.natCast_mul]; grind
        have h4 : ((2 * q) * n) = 2 * D := by
          rcases Nat.lt_trichotomy ((2 * q) * n) (2 * D) with g1 | g1 | g1
          · exfalso; have := Rat.mul_lt_mul_of_pos_right (Rat.natCast_lt_natCast.2 g1) hp; grind
          · exact g1
          · exfalso; have := Rat.mul_lt_mul_of_pos_right (Rat.natCast_lt_natCast.2 g1) hp; grind
        rw [Nat.mul_assoc] at h4
        omega
      rw [q3 q e1, ← hq]; exact Rat.le_refl
  have hK0 : 0 < K := by
    rcases Nat.eq_zero_or_pos K with g | g
    · exfalso
      rw [g, show ((0 : Nat) : Rat) = 0 from rfl, Rat.zero_mul] at hL
      have := pw_pos E
      grind
    · exact g
  have hB : (K : Rat) * pw u ≤ pw 1000 := by
    have := pw_mono (show E + 1 ≤ 1000 by omega)
    grind
  have R := write_half hK0 hB ⟨by omega, Or.inr hL, hV⟩
  rw [← hr] at R
  obtain ⟨N, hN⟩ := R.units
  have half := pw_half (E - 52)
  have e53 : E - 52 - 1 = E - 53 := by omega
  rw [e53] at half
  have hP := pw_pos (E - 53)
  refine ⟨⟨N, hN⟩, ?_, ?_⟩
  · rcases rat_lt_or_le (2 * κ + pw (E - 52)) (2 * val r) with g | g
    · exfalso
      have hN0 : 0 < N := by
        rcases Nat.eq_zero_or_pos N with g0 | g0
        · exfalso
          rw [g0, show ((0 : Nat) : Rat) = 0 from rfl, Rat.zero_mul] at hN
          have := pw_pos E
          grind
        · exact g0
      obtain ⟨q, hq⟩ := ev (2 * N - 1) (E - 53) (by omega)
      have c1 : ((2 * N - 1 : Nat) : Rat) = 2 * (N : Rat) - 1 := by
        have : ((2 * N - 1 : Nat) : Rat) + 1 = ((2 * N : Nat) : Rat) := by
          rw [show (1 : Rat) = ((1 : Nat) : Rat) from rfl, ← Rat.natCast_add, show 2 * N - 1 + 1 = 2 * N by omega]
        rw [Rat.natCast_mul] at this
        have e2 : ((2 : Nat) : Rat) = 2 := rfl
        rw [e2] at this
        grind
      have k := (fl q).2 (by rw [← hq, c1]; exact half1 half hN g)
      rw [← hq, c1] at k
      exact not_le_lt R.up (half2 half hN k)
    · exact g
  · rcases rat_lt_or_le (2 * val r + pw (E - 52)) (2 * κ) with g | g
    · exfalso
      obtain ⟨q, hq⟩ := ev (2 * N + 1) (E - 53) (by omega)
      have c1 : ((2 * N + 1 : Nat) : Rat) = 2 * (N : Rat) + 1 := by
        rw [Rat.natCast_add, Rat.natCast_mul]; rfl
      have k := (fl q).1 (by rw [← hq, c1]; exact half3 half hN g)
      rw [← hq, c1] at k
      exact not_le_lt R.down (half4 half hN k)
    · exact g
end Go.Proofs.Ytfggdaebahdnfaa
