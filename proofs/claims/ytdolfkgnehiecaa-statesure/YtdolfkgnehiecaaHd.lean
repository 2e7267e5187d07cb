/- The floats that Ahead makes of a sure state. -/
import Derived.Test.YtdolfkgnehiecaaHc
namespace Go.Proofs.Ytdolfkgnehiecaa
open Go.Fl Ieee Go.RowKit

theorem mulC {x y : Nat} {N M l k : Int} (hx : BN x N) (hy : BN y M) (h0 : val x = 0 ∨ pw l ≤ val x) (hk : pw k ≤ val y) (hl : -900 ≤ l + k) (h00 : -1000 ≤ N + M) (hN : N + M ≤ 900) :
    ∃ r, bin .mul (some x) (some y) = some r ∧ BN r (N + M + 1) ∧ Off (val r) (val x * val y) (U * (val x * val y)) ∧ (val r = 0 ∨ pw (l + k - 1) ≤ val r) ∧ 0 ≤ val r := by
  have hb := (prod_le hx.hi hx.lo hy.hi hy.lo).1
  rw [← pw_add] at hb
  have hz : val x * val y = 0 ∨ pw (l + k) ≤ val x * val y := by
    rcases h0 with h | h
    · left; rw [h, Rat.zero_mul]
    · exact Or.inr (prod_low h hk)
  have hz' : val x * val y = 0 ∨ pw (-900) ≤ val x * val y := by
    rcases hz with h | h
    · exact Or.inl h
    · exact Or.inr (Rat.le_trans (pw_mono hl) h)
  obtain ⟨r, hr, f, o, p⟩ := mulR hx.f hy.f hz' (Rat.le_trans hb (pw_mono hN))
  refine ⟨r, hr, hx.mul hy h00 hN hr, o, ?_, p⟩
  obtain ⟨o1, o2⟩ := o
  rw [uu] at o1 o2
  rcases hz with h | h
  · left; rw [h] at o1 o2; grind
  · right
    have e := pw_two (l + k - 1)
    rw [show l + k - 1 + 1 = l + k by omega] at e
    have := pw_pos (l + k - 1)
    grind
theorem bin_add {x y : Nat} {N : Int} (hx : BN x N) (hy : BN y N) (hN : N ≤ 900) : ∃ r, bin .add (some x) (some y) = some r ∧ BN r (N + 2) := by
  obtain ⟨r, hr⟩ := bin_some_add hx.f hy.f
  exact ⟨r, hr, hx.add hy hN hr⟩
theorem off_BN {r : Nat} {κ : Rat} {N : Int} (f : Fnt r) (p : 0 ≤ val r) (hN : 0 ≤ N) (h : Off (val r) κ (U * κ + eta)) (hκ : κ ≤ pw N) (h0 : 0 ≤ κ) : BN r (N + 2) := by
  have e1 := pw_two N
  have e2 := pw_two (N + 1)
  rw [show N + 1 + 1 = N + 2 by omega] at e2
  have hp := pw_pos N
  have hη : eta ≤ pw N := pw_mono (by omega)
  obtain ⟨h1, h2⟩ := h
  exact ⟨f, by grind, by grind⟩
theorem way {a b c t q : Nat} (h : Pre a b c t q) : ∃ p1 p2 pt k kt q3 hf th S1 S2 S3 raw R Bp Cp, Way a b c t q p1 p2 pt k kt q3 hf th S1 S2 S3 raw R Bp Cp := by
  have ht0 : 0 ≤ val t := by have := h.t1; have := pw_pos (-20); grind
  have hc0 : 0 ≤ val c := by have := h.c1; have := pw_pos (-100); grind
  have hq0 := h.q0
  obtain ⟨p1, e1⟩ := bin_some_mul h.fb h.ft
  have b1 : BN p1 121 := h.bB.mul h.tB (by omega) (by omega) e1
  obtain ⟨p2, e2, b2, o2, z2, _⟩ := mulC h.cB h.tB (Or.inr h.c1) h.t1 (by omega) (by omega) (by omega)
  obtain ⟨pt, e3, b3, o3, _, _⟩ := mulC b2 h.tB z2 h.t1 (by omega) (by omega) (by omega)
  obtain ⟨k, e4, b4, o4, z4, n4⟩ := mulC h.qB h.tB h.q1 h.t1 (by omega) (by omega) (by omega)
  obtain ⟨kt, e5, b5, o5, z5, n5⟩ := mulC b4 h.tB z4 h.t1 (by omega) (by omega) (by omega)
  obtain ⟨q3, e6, b6, o6, _, n6⟩ := mulC b5 h.tB z5 h.t1 (by omega) (by omega) (by omega)
  have hct := Rat.mul_nonneg hc0 ht0
  have hqt := Rat.mul_nonneg hq0 ht0
  have hqtt := Rat.mul_nonneg hqt ht0
  have s3 := l_next ht0 (show U ≤ 1 / 1000 by decide +kernel) hct o2 o3
  have s5 := l_next ht0 (show U ≤ 1 / 1000 by decide +kernel) hqt o4 o5
  have w3 : U + 2 * U = 3 * U := by decide +kernel
  have w5 : 3 * U + 2 * U = 5 * U := by decide +kernel
  rw [w3] at s3 s5
  have s6 := l_next ht0 (show 3 * U ≤ 1 / 1000 by decide +kernel) hqtt s5 o6
  rw [w5] at s6
  have k5 := b5.hi
  have k6 := b6.hi
  obtain ⟨hf, e7, f7, o7, n7⟩ := quoN b5.f two_fnt n5 (by rw [two_val']; decide +kernel) (κ := val kt / 2) (by rw [two_val']; grind) (by
    have := pw_mono (show (100 + 20 + 1 + 20 + 1 : Int) ≤ 900 by omega); have := pw_pos 900; grind)
  obtain ⟨th, e8, f8, o8, n8⟩ := quoN b6.f three_fnt n6 (by rw [three_val]; decide +kernel) (κ := val q3 / 3) (by rw [three_val]; grind) (by
    have := pw_mono (show (100 + 20 + 1 + 20 + 1 + 20 + 1 : Int) ≤ 900 by omega); have := pw_pos 900; grind)
  have bh : BN hf 170 := (off_BN f7 n7 (N := 142) (by omega) o7 (by have := pw_pos 142; have k5' : val kt ≤ pw 142 := k5; grind) (by grind)).mono (by omega)
  have bt : BN th 190 := (off_BN f8 n8 (N := 163) (by omega) o8 (by have := pw_pos 163; have k6' : val q3 ≤ pw 163 := k6; grind) (by grind)).mono (by omega)
  obtain ⟨S1, e9, bS1⟩ := bin_add (h.aB.mono (show (100 : Int) ≤ 121 by omega)) b1 (by omega)
  obtain ⟨S2, e10, bS2⟩ := bin_add bS1 (b1.mono (by omega)) (by omega)
  obtain ⟨S3, e11, bS3⟩ := bin_add (bS2.mono (show (121 + 2 + 2 : Int) ≤ 150 by omega)) (b3.mono (by omega)) (by omega)
  obtain ⟨raw, e12, br⟩ := bin_add (bS3.mono (show (150 + 2 : Int) ≤ 190 by omega)) bt (by omega)
  obtain ⟨R, e13, bR⟩ := bin_add (h.bB.mono (show (100 : Int) ≤ 121 by omega)) b2 (by omega)
  obtain ⟨Bp, e14, bBp⟩ := bin_add (bR.mono (show (121 + 2 : Int) ≤ 170 by omega)) bh (by omega)
  obtain ⟨Cp, e15, bC⟩ := bin_add (h.cB.mono (show (100 : Int) ≤ 121 by omega)) b4 (by omega)
  have n15 : 0 ≤ val Cp := by
    have := (add_lin h.fc b4.f zero_fnt e15).2 (by rw [val0]; grind)
    rw [lin0] at this
    exact (val_lin0 bC.f).2 this
  exact ⟨p1, p2, pt, k, kt, q3, hf, th, S1, S2, S3, raw, R, Bp, Cp, ⟨e1, e2, e3, e4, e5, e6, e7, e8, e9, e10, e11, e12, e13, e14, e15, b1, b2, b3.mono (by omega), bh, bt, bS1.mono (by omega), bS2.mono (by omega), bS3.mono (by omega), br.mono (by omega), bR.mono (by omega), bBp.mono (by omega), bC.mono (by omega), b4.f, o2, s3, o4, s5, s6, o7, o8, n8, n4, n15⟩⟩
end Go.Proofs.Ytdolfkgnehiecaa
