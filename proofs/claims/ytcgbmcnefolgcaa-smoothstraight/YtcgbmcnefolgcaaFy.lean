/- Sums, differences, products of floats over the whole range; signs. No program. -/
import Derived.Test.YtcgbmcnefolgcaaFx
import Derived.Test.YtcgbmcnefolgcaaQm
namespace Go.Proofs.Ytcgbmcnefolgcaa
open Go.Fl Ieee Go.RowKit

theorem add_lin {x y r z : Nat} (hx : Fnt x) (hy : Fnt y) (hz : Fnt z) (h : bin .add (some x) (some y) = some r) : (val x + val y ≤ val z → lin r ≤ lin z) ∧ (val z ≤ val x + val y → lin z ≤ lin r) := by
  obtain ⟨s, m, i, ex⟩ := fin_read hx
  obtain ⟨t, n, j, ey⟩ := fin_read hy
  obtain ⟨g, k, e1, e2⟩ := sum_val (s := s) (t := t) (m := m) (n := n) (i := i) (j := j)
  have hr : r = double.write (.number g k (min i j)) := by
    have h' : double.add x y = some r := h
    unfold Format.add at h'
    rw [ex, ey, e1] at h'
    simp only [Option.map_some, Option.some.injEq] at h'
    exact h'.symm
  have hv : val x + val y = dv g k (min i j) := by rw [val_read ex, val_read ey, e2]
  rw [hr, hv]
  exact write_lin _ _ _ hz
theorem sub_lin {x y r z : Nat} (hx : Fnt x) (hy : Fnt y) (hz : Fnt z) (h : bin .sub (some x) (some y) = some r) : (val x - val y ≤ val z → lin r ≤ lin z) ∧ (val z ≤ val x - val y → lin z ≤ lin r) := by
  obtain ⟨s, m, i, ex⟩ := fin_read hx
  obtain ⟨t, n, j, ey⟩ := fin_read hy
  obtain ⟨g, k, e1, e2⟩ := sum_val (s := s) (t := !t) (m := m) (n := n) (i := i) (j := j)
  have hr : r = double.write (.number g k (min i j)) := by
    have h' : double.sub x y = some r := h
    unfold Format.sub at h'
    rw [ex, ey] at h'
    simp only [Datum.opposite] at h'
    rw [e1] at h'
    simp only [Option.map_some, Option.some.injEq] at h'
    exact h'.symm
  have hv : val x - val y = dv g k (min i j) := by rw [val_read ex, val_read ey, e2, dv_not, Rat.sub_eq_add_neg]
  rw [hr, hv]
  exact write_lin _ _ _ hz
theorem mul_lin {x y r z : Nat} (hx : Fnt x) (hy : Fnt y) (hz : Fnt z) (h : bin .mul (some x) (some y) = some r) : (val x * val y ≤ val z → lin r ≤ lin z) ∧ (val z ≤ val x * val y → lin z ≤ lin r) := by
  obtain ⟨s, m, i, ex⟩ := fin_read hx
  obtain ⟨t, n, j, ey⟩ := fin_read hy
  have hr : r = double.write (.number (s ^^ t) (m * n) (i + j)) := by
    have h' : double.mul x y = some r := h
    unfold Format.mul at h'
    rw [ex, ey] at h'
    simp only [Datum.product, Option.map_some, Option.some.injEq] at h'
    exact h'.symm
  have hv : val x * val y = dv (s ^^ t) (m * n) (i + j) := by
    rw [val_read ex, val_read ey]
    cases s <;> cases t <;> simp only [dv_false, dv_true, Bool.xor_false, Bool.xor_true, Bool.not_false, Bool.not_true, Rat.natCast_mul, pw_add] <;> grind
  rw [hr, hv]
  exact write_lin _ _ _ hz
/-- A number's sign. -/
def sgnD : Datum → Bool
  | .number s _ _ => s
  | .infinity s => s
  | .nan s _ => s
theorem word_low {s : Bool} {r : Nat} (hr : r < 2 ^ 63) (h : s = false) : double.word s r < 2 ^ 63 := by
  subst h
  unfold Format.word
  simpa using hr
theorem write_low {d : Datum} (hn : d.isNaN = false) (hs : sgnD d = false) : double.write d < 2 ^ 63 := by
  cases d with
  | nan s f => cases hn
  | infinity s =>
    have e3 : double.infRung = 0x7ff0000000000000 := rfl
    show double.word s double.infRung < _
    rw [e3]
    exact word_low (by omega) hs
  | number s m e =>
    show double.nearest s m e < _
    have e3 : double.infRung = 0x7ff0000000000000 := rfl
    unfold Format.nearest
    split
    · exact word_low (by omega) hs
    · simp only [e3]
      exact word_low (by omega) hs
theorem word_lt (s : Bool) {r : Nat} (h : r < 2 ^ 63) : double.word s r < 2 ^ 64 := by
  have e : double.signWeight = 2 ^ 63 := rfl
  unfold Format.word
  rw [e]
  split <;> omega
theorem write_lt {d : Datum} (hn : d.isNaN = false) : double.write d < 2 ^ 64 := by
  have e3 : double.infRung = 0x7ff0000000000000 := rfl
  cases d with
  | nan s f => cases hn
  | infinity s =>
    show double.word s double.infRung < _
    rw [e3]
    exact word_lt s (by omega)
  | number s m e =>
    show double.nearest s m e < _
    unfold Format.nearest
    split
    · exact word_lt s (by omega)
    · simp only [e3]
      exact word_lt s (by omega)
theorem mul_low {x y r : Nat} (h : bin .mul (some x) (some y) = some r) (hs : sgnD (double.read x) = sgnD (double.read y)) : r < 2 ^ 63 := by
  have h' : double.mul x y = some r := h
  unfold Format.mul at h'
  simp only [Option.map_eq_some_iff] at h'
  obtain ⟨d, hd, rfl⟩ := h'
  refine write_low (product_ok hd) ?_
  revert hd hs
  cases double.read x <;> cases double.read y <;> simp only [Datum.product, sgnD] <;> intro hs hd <;> subst hs
  all_goals first
    | (cases hd; simp; done)
    | (split at hd <;> first | (cases hd; simp; done) | cases hd)
    | cases hd
theorem sgn_read (b : Nat) : sgnD (double.read b) = (b / 2 ^ 63 % 2 == 1) := by
  unfold Format.read
  have e1 : double.signWeight = 2 ^ 63 := rfl
  simp only [e1]
  split
  · rfl
  · split
    · rfl
    · split <;> rfl
theorem word_sign (s : Bool) {r : Nat} (h : r < 2 ^ 63) : (double.word s r / 2 ^ 63 % 2 == 1) = s := by
  have e : double.signWeight = 2 ^ 63 := rfl
  unfold Format.word
  rw [e]
  cases s
  · simp; omega
  · simp; omega
theorem read_write {d : Datum} (hn : d.isNaN = false) : sgnD (double.read (double.write d)) = sgnD d := by
  rw [sgn_read]
  have e3 : double.infRung = 0x7ff0000000000000 := rfl
  cases d with
  | nan s f => cases hn
  | infinity s =>
    show (double.word s double.infRung / _ % 2 == 1) = s
    rw [e3]
    exact word_sign s (by omega)
  | number s m e =>
    show (double.nearest s m e / _ % 2 == 1) = s
    unfold Format.nearest
    split
    · exact word_sign s (by omega)
    · simp only [e3]
      exact word_sign s (by omega)
theorem quo_sign {x y r : Nat} (h : bin .quo (some x) (some y) = some r) : sgnD (double.read r) = (sgnD (double.read x) ^^ sgnD (double.read y)) := by
  have h' : double.div x y = some r := h
  unfold Format.div at h'
  simp only [Option.map_eq_some_iff] at h'
  obtain ⟨d, hd, rfl⟩ := h'
  rw [read_write (quotient_ok hd)]
  revert hd
  cases double.read x <;> cases double.read y <;> simp only [Datum.quotient, sgnD] <;> intro hd
  all_goals first
    | (cases hd; simp; done)
    | (split at hd <;> first | (cases hd; simp; done) | (split at hd <;> first | (cases hd; simp; done) | cases hd) | cases hd)
    | cases hd
end Go.Proofs.Ytcgbmcnefolgcaa
