/- The last comparison; the state's own condition; the greatest of six floats. -/
import Derived.Test.YtdolfkgnehiecaaHe
namespace Go.Proofs.Ytdolfkgnehiecaa
open Go.Fl Ieee Go.RowKit

theorem tenth_fnt : Fnt 4427486594234968593 := by unfold Fnt; decide
theorem tenth_val : 999 / 1000000000000000 ≤ val 4427486594234968593 ∧ val 4427486594234968593 ≤ 1001 / 1000000000000000 := by decide +kernel
theorem l_last {BB AC l p k r κ M η : Rat} (hM : 0 < M) (hη : η ≤ U * M) (h : BB ≤ AC + 300 * U * M) (hl : l ≤ BB + (U / 2 * (25 * M) + η)) (hp : AC ≤ p + (U / 2 * M + η)) (hk : κ ≤ k + U * κ) (hκ : 998 / 1000000000000000 * M ≤ κ) (_hκ2 : κ ≤ M) (hr : p + k ≤ r + U / 2 * (3 * M)) : l ≤ r := by grind
theorem l_kk {K m k : Rat} (h1 : 999 / 1000000000000000 ≤ K) (hm : 0 < m) (ho : K * m ≤ k + U * (K * m)) : 998 / 1000000000000000 * (m * m) ≤ k * m := by
  have a := Rat.mul_nonneg (show 0 ≤ K - 999 / 1000000000000000 by grind) (Rat.le_of_lt hm)
  have b : 998 / 1000000000000000 * m ≤ k := by grind
  have c := Rat.mul_le_mul_of_nonneg_right b (Rat.le_of_lt hm)
  grind
theorem l_kk2 {K m k : Rat} (h1 : K ≤ 1001 / 1000000000000000) (h0 : 0 ≤ K) (hm : 0 < m) (ho : k ≤ K * m + U * (K * m)) : k * m ≤ m * m := by
  have a := Rat.mul_nonneg (show 0 ≤ 1001 / 1000000000000000 - K by grind) (Rat.le_of_lt hm)
  have a2 := Rat.mul_nonneg h0 (Rat.le_of_lt hm)
  have b : k ≤ m := by grind
  exact Rat.mul_le_mul_of_nonneg_right b (Rat.le_of_lt hm)
theorem l_f9 {p AC M η k κ : Rat} (h : p ≤ AC + (U / 2 * M + η)) (h2 : AC ≤ M) (hη : η ≤ U * M) (hk : k ≤ κ + U * κ) (hκ : κ ≤ M) (hM : 0 < M) : p + k ≤ 3 * M := by grind
theorem l_f10 {p AC M η k : Rat} (h : AC ≤ p + (U / 2 * M + η)) (h2 : 0 ≤ AC) (hη : η ≤ U * M) (hk : 0 ≤ k) (hM : 0 < M) : -(3 * M) ≤ p + k := by grind
theorem sure3 {mx Bp a2 Cp l p k5 k7 r : Nat} (fm : Fnt mx) (m1 : pw (-100) ≤ val mx) (m2 : val mx ≤ pw 330) (fB : Fnt Bp) (fa : Fnt a2) (fC : Fnt Cp) (a0 : 0 ≤ val a2) (am : val a2 ≤ val mx) (c0 : 0 ≤ val Cp) (cm : val Cp ≤ val mx) (b1 : val Bp ≤ 5 * val mx) (b2 : -(5 * val mx) ≤ val Bp)
    (h : val Bp * val Bp ≤ val a2 * val Cp + 300 * U * (val mx * val mx)) (e1 : bin .mul (some Bp) (some Bp) = some l) (e2 : bin .mul (some a2) (some Cp) = some p) (e3 : bin .mul (some 4427486594234968593) (some mx) = some k5) (e4 : bin .mul (some k5) (some mx) = some k7) (e5 : bin .add (some p) (some k7) = some r) : Fnt l ∧ Fnt r ∧ val l ≤ val r := by
  have pm := pw_pos (-100)
  have hm : 0 < val mx := by grind
  have hM := Rat.mul_pos hm hm
  have big : val mx * val mx ≤ pw 660 := by
    have := (prod_le m2 (by have := pw_pos 330; grind) m2 (by have := pw_pos 330; grind)).1
    rw [← pw_add] at this
    exact this
  have big25 : 25 * (val mx * val mx) ≤ pw 1000 := by
    have e : pw 665 = 32 * pw 660 := by rw [show (665 : Int) = 660 + 5 by omega, pw_add, show pw 5 = 32 by decide +kernel, Rat.mul_comm]
    have := pw_mono (show (665 : Int) ≤ 1000 by omega)
    have := pw_pos 660
    grind
  have hη : eta ≤ U * (val mx * val mx) := by
    have e1 := prod_low m1 m1
    have e2 : eta ≤ U * pw (-100 + -100) := by
      rw [U_is, ← pw_add]
      exact pw_mono (by omega)
    have e3 := Rat.mul_le_mul_of_nonneg_left e1 (show (0 : Rat) ≤ U by decide +kernel)
    exact Rat.le_trans e2 e3
  have q1 := prod_le b1 b2 b1 b2
  have q25 : 5 * val mx * (5 * val mx) = 25 * (val mx * val mx) := by grind
  rw [q25] at q1
  obtain ⟨fl, n1⟩ := mul_near fB fB e1 q1.1 q1.2 big25
  have q2 := prod_le am (by grind) cm (by grind)
  obtain ⟨fp, n2⟩ := mul_near fa fC e2 q2.1 q2.2 (by grind)
  have bK : BN 4427486594234968593 0 := ⟨tenth_fnt, by rw [show pw 0 = 1 by decide +kernel]; have := tenth_val.2; grind, by rw [show pw 0 = 1 by decide +kernel]; have := tenth_val.1; grind⟩
  have bm : BN mx 330 := ⟨fm, m2, by have := pw_pos 330; grind⟩
  have lK : pw (-40) ≤ val 4427486594234968593 := by decide +kernel
  obtain ⟨k5', e3', b5, o5, z5, _⟩ := mulC bK bm (Or.inr lK) m1 (by omega) (by omega) (by omega)
  obtain rfl := bin_inj e3' e3
  obtain ⟨k7', e4', b7, o7, _, n7⟩ := mulC b5 bm z5 m1 (by omega) (by omega) (by omega)
  obtain rfl := bin_inj e4' e4
  have κ1 := l_kk tenth_val.1 hm o5.2
  have κ2 := l_kk2 tenth_val.2 (by have := tenth_val.1; grind) hm o5.1
  rw [h53] at n1 n2
  have g0 := Rat.mul_nonneg a0 c0
  have kb := o7.1
  have n2a := n2.1
  have n2b := n2.2
  obtain ⟨fr, n5⟩ := add_near fp b7.f e5 (B := 3 * (val mx * val mx)) (l_f9 n2a q2.1 hη kb κ2 hM) (l_f10 n2b g0 hη n7 hM) (by grind)
  rw [h53] at n5
  refine ⟨fl, fr, l_last hM hη h n1.1 n2.2 o7.2 κ1 κ2 n5.2⟩
end Go.Proofs.Ytdolfkgnehiecaa
