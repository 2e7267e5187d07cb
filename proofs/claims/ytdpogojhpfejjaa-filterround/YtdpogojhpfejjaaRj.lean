/- A float divided by one. -/
import Derived.Test.YtdpogojhpfejjaaWh
import Derived.Test.YtdpogojhpfejjaaRi
namespace Go.Proofs.Ytdpogojhpfejjaa
open Go.Fl Ieee Go.RowKit

theorem read1 : double.read 4607182418800017408 = .number false 4503599627370496 (-52) := by decide +kernel
theorem quo_one {x : Nat} (hx : Fnt x) (hb : -pw 1000 ≤ val x ∧ val x ≤ pw 1000) : ∃ r, bin .quo (some x) (some 4607182418800017408) = some r ∧ Fnt r ∧ val r = val x := by
  obtain ⟨s, m, i, ex⟩ := fin_read hx
  have vx := val_read ex
  have hm := read_lt ex
  obtain ⟨L, hL⟩ : ∃ L, L = m.log2 := ⟨_, rfl⟩
  have hL2 : L ≤ 52 := by
    rcases Nat.eq_zero_or_pos m with h0 | h0
    · subst h0; rw [hL]; decide
    · have a1 : 2 ^ m.log2 ≤ m := Nat.log2_self_le (by omega)
      rcases Nat.lt_or_ge 52 L with h1 | h1
      · have := Nat.pow_le_pow_right (show 0 < 2 by omega) (show 53 ≤ m.log2 by omega)
        omega
      · exact h1
  obtain ⟨q, hq⟩ : ∃ q, 54 + 52 - L = 52 + q := ⟨54 - L, by omega⟩
  have hl2 : Nat.log2 4503599627370496 = 52 := by decide +kernel
  have hD : m * 2 ^ (52 + q) = (m * 2 ^ q) * 4503599627370496 := by
    rw [Nat.pow_add, show (2 : Nat) ^ 52 = 4503599627370496 from rfl]
    rw [Nat.mul_comm 4503599627370496, Nat.mul_assoc]
  have h1 : m * 2 ^ (52 + q) / 4503599627370496 = m * 2 ^ q := by rw [hD]; exact Nat.mul_div_cancel _ (by omega)
  have h2 : m * 2 ^ (52 + q) % 4503599627370496 = 0 := by rw [hD]; exact Nat.mul_mod_left _ _
  obtain ⟨e, he⟩ : ∃ e : Int, e = i - (-52) - ((52 + q : Nat) : Int) - 1 := ⟨_, rfl⟩
  have hr : bin .quo (some x) (some 4607182418800017408) = some (double.write (.number s (2 * (m * 2 ^ q)) e)) := by
    show double.div x 4607182418800017408 = _
    unfold Format.div
    rw [ex, read1]
    have e4 : double.fractionBits + 2 = 54 := rfl
    simp only [Datum.quotient, e4, shl, if_neg (show ¬ (4503599627370496 : Nat) = 0 by omega), Option.map_some, Option.some.injEq, Bool.xor_false, hl2, ← hL, hq, h1, h2]
    rw [he]
    simp
  have hdv : dv s (2 * (m * 2 ^ q)) e = dv s m i := by
    have e1 : ((2 * (m * 2 ^ q) : Nat) : Rat) = (m : Rat) * pw ((q + 1 : Nat) : Int) := by
      rw [pw_nat, ← Rat.natCast_mul]
      congr 1
      rw [Nat.pow_succ, Nat.mul_comm 2, Nat.mul_assoc]
    have e2 : pw ((q + 1 : Nat) : Int) * pw e = pw i := by
      rw [← pw_add]; congr 1; omega
    cases s
    · rw [dv_false, dv_false, e1, Rat.mul_assoc, e2]
    · rw [dv_true, dv_true, e1, Rat.mul_assoc, e2]
  have hB : ((2 * (m * 2 ^ q) : Nat) : Rat) * pw e ≤ pw 1000 := by
    obtain ⟨b1, b2⟩ := hb
    rw [vx, ← hdv] at b1 b2
    cases s
    · rw [dv_false] at b2; exact b2
    · rw [dv_true] at b1; grind
  refine ⟨_, hr, (write_near s _ e hB Rat.le_refl).1, ?_⟩
  rw [write_same (y := x) hB (by rw [hdv, vx])]
theorem WH.div1 {a : Option Nat} {z : Int} (ha : WH a z) (h1 : -P53 < z) (h2 : z < P53) : ∃ r, bin .quo a (ab 4607182418800017408) = some r ∧ ab r = some r ∧ WH (some r) z := by
  obtain ⟨x, rfl, fx, vx⟩ := ha
  obtain ⟨b1, b2, b3⟩ := big53 h1 h2
  obtain ⟨r, e, fr, vr⟩ := quo_one fx (by rw [vx]; exact ⟨by grind, Rat.le_trans b1 b3⟩)
  exact ⟨r, e, Fnt.ab fr, r, rfl, fr, vr.trans vx⟩
/-- A number whose parts are whole. -/
def WP (c : C2) (p q : Int) : Prop := WH c.1 p ∧ WH c.2 q
theorem WP.ok {c : C2} {p q : Int} (h : WP c p q) : okC c := by
  obtain ⟨⟨x, e1, f1, _⟩, ⟨y, e2, f2, _⟩⟩ := h
  exact ⟨x, y, Prod.ext e1 e2, Fnt.ab f1, Fnt.ab f2⟩
def Sm (K z : Int) : Prop := -K ≤ z ∧ z ≤ K
theorem WP.scl {c : C2} {p q z : Int} {b : Option Nat} (h : WP c p q) (hb : WH b z) (h1 : Sm 5000000000000 (p * z)) (h2 : Sm 5000000000000 (q * z)) : WP (sclC c b) (p * z) (q * z) := by
  obtain ⟨a1, a2⟩ := h1
  obtain ⟨b1, b2⟩ := h2
  exact ⟨h.1.mul hb (by unfold P53; omega) (by unfold P53; omega), h.2.mul hb (by unfold P53; omega) (by unfold P53; omega)⟩
theorem WP.add {c d : C2} {p q r s : Int} (h : WP c p q) (k : WP d r s) (h1 : Sm 5000000000000 (p + r)) (h2 : Sm 5000000000000 (q + s)) : WP (addC c d) (p + r) (q + s) := by
  obtain ⟨a1, a2⟩ := h1
  obtain ⟨b1, b2⟩ := h2
  exact ⟨h.1.add k.1 (by unfold P53; omega) (by unfold P53; omega), h.2.add k.2 (by unfold P53; omega) (by unfold P53; omega)⟩
theorem WP.sub {c d : C2} {p q r s : Int} (h : WP c p q) (k : WP d r s) (h1 : Sm 5000000000000 (p - r)) (h2 : Sm 5000000000000 (q - s)) : WP (subC c d) (p - r) (q - s) := by
  obtain ⟨a1, a2⟩ := h1
  obtain ⟨b1, b2⟩ := h2
  exact ⟨h.1.sub k.1 (by unfold P53; omega) (by unfold P53; omega), h.2.sub k.2 (by unfold P53; omega) (by unfold P53; omega)⟩
theorem WP.cast {c : C2} {p q r s : Int} (h : WP c p q) (h1 : p = r) (h2 : q = s) : WP c r s := h1 ▸ h2 ▸ h
end Go.Proofs.Ytdpogojhpfejjaa
