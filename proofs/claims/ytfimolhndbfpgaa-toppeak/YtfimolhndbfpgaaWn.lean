/- Quotients of numbers below 0. -/
import Derived.Test.YtfimolhndbfpgaaWh
namespace Go.Proofs.Ytfimolhndbfpgaa
open Go.Fl Ieee Go.RowKit

theorem neg_parts (x : Nat) : neg x % 2 ^ 63 = x % 2 ^ 63 ∧ neg x / 2 ^ 63 = x / 2 ^ 63 ^^^ 1 := by
  constructor
  · show (x ^^^ 2 ^ 63) % 2 ^ 63 = _
    rw [Nat.xor_mod_two_pow]; simp
  · show (x ^^^ 2 ^ 63) / 2 ^ 63 = _
    rw [Nat.xor_div_two_pow, show 2 ^ 63 / 2 ^ 63 = 1 by decide]
theorem of_parts {x y : Nat} (h1 : x % 2 ^ 63 = y % 2 ^ 63) (h2 : x / 2 ^ 63 = y / 2 ^ 63) : x = y := by omega
theorem neg_word (s : Bool) {r : Nat} (h : r < 2 ^ 63) : neg (double.word s r) = double.word (!s) r := by
  have e : double.signWeight = 2 ^ 63 := rfl
  obtain ⟨p1, p2⟩ := neg_parts (double.word s r)
  refine of_parts ?_ ?_
  · rw [p1, word_mod s r h, word_mod (!s) r h]
  · rw [p2]
    unfold Format.word
    rw [e]
    cases s
    · simp only [Bool.false_eq_true, if_false, Bool.not_false, if_true]
      rw [Nat.div_eq_of_lt h, show (2 ^ 63 + r) / 2 ^ 63 = 1 by omega]; rfl
    · simp only [Bool.not_true, Bool.false_eq_true, if_false, if_true]
      rw [Nat.div_eq_of_lt h, show (2 ^ 63 + r) / 2 ^ 63 = 1 by omega]; rfl
theorem neg_neg' (x : Nat) : neg (neg x) = x := by
  obtain ⟨p1, p2⟩ := neg_parts x
  obtain ⟨q1, q2⟩ := neg_parts (neg x)
  refine of_parts (by rw [q1, p1]) ?_
  rw [q2, p2, Nat.xor_assoc]; simp
theorem write_neg (s : Bool) (m : Nat) (e : Int) : double.write (.number (!s) m e) = neg (double.write (.number s m e)) := by
  show double.nearest (!s) m e = neg (double.nearest s m e)
  have e3 : double.infRung = 0x7ff0000000000000 := rfl
  unfold Format.nearest
  split
  · rw [neg_word s (by omega)]
  · simp only [e3]
    rw [neg_word s (by omega)]
    rfl
theorem read_neg {x : Nat} {s : Bool} {m : Nat} {e : Int} (h : double.read x = .number s m e) : double.read (neg x) = .number (!s) m e := by
  obtain ⟨p1, p2⟩ := neg_parts x
  have hs : (neg x / 2 ^ 63 % 2 == 1) = !(x / 2 ^ 63 % 2 == 1) := by
    rw [p2]
    have := Nat.xor_mod_two_pow (a := x / 2 ^ 63) (b := 1) (n := 1)
    simp only [Nat.pow_one] at this
    rw [this]
    rcases Nat.mod_two_eq_zero_or_one (x / 2 ^ 63) with h | h <;> rw [h] <;> decide
  unfold Format.read at *
  have e1 : double.signWeight = 2 ^ 63 := rfl
  simp only [e1] at *
  rw [p1, hs]
  split at h
  · rename_i h1
    rw [if_pos h1]
    injection h with a b c
    rw [a, b, c]
  · rename_i h1
    rw [if_neg h1]
    split at h
    · rename_i h2
      rw [if_pos h2]
      injection h with a b c
      rw [a, b, c]
    · split at h <;> cases h
theorem quo_neg {a b : Nat} (ha : Fnt a) (hb : Fnt b) : bin .quo (some (neg a)) (some b) = (bin .quo (some a) (some b)).map neg := by
  obtain ⟨s, m, i, ex⟩ := fin_read ha
  obtain ⟨t, n, j, ey⟩ := fin_read hb
  show double.div (neg a) b = (double.div a b).map neg
  unfold Format.div
  rw [ex, ey, read_neg ex]
  simp only [Datum.quotient]
  split
  · split
    · rfl
    · simp only [Option.map_some]
      congr 1
      have e3 : double.infRung = 0x7ff0000000000000 := rfl
      show double.word (!s ^^ t) double.infRung = neg (double.word (s ^^ t) double.infRung)
      rw [neg_word _ (by rw [e3]; omega)]
      cases s <;> cases t <;> rfl
  · simp only [Option.map_some]
    congr 1
    rw [← write_neg]
    cases s <;> cases t <;> rfl
end Go.Proofs.Ytfimolhndbfpgaa
