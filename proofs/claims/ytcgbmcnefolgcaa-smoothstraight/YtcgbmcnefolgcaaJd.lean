/- Whole places on a line: Line tells just that line. -/
import Derived.Test.YtcgbmcnefolgcaaJc
namespace Go.Proofs.Ytcgbmcnefolgcaa
open Go.Fl Ieee

/-- A row of whole numbers u, u + v, u + 2 v, .. -/
structure Rw (d : Array Nat) (n : Nat) (u v : Int) : Prop where
  len : d.size = n
  wh : ∀ i, i < n → WH (ab d[i]!) (u + i * v)
theorem bd_mul {i b : Int} {v V : Int} (h1 : -b ≤ i) (h2 : i ≤ b) (k1 : -V ≤ v) (k2 : v ≤ V) : -(b * V) ≤ i * v ∧ i * v ≤ b * V := by
  have hb : 0 ≤ b := by omega
  have hV : 0 ≤ V := by omega
  have a1 : (i * v).natAbs ≤ (b * V).natAbs := by
    rw [Int.natAbs_mul, Int.natAbs_mul]
    exact Nat.mul_le_mul (by omega) (by omega)
  have a2 : 0 ≤ b * V := Int.mul_nonneg hb hV
  omega
theorem Rw.at_bd {n : Nat} {u v : Int} (hn : n ≤ 99) (hu : -2000000 ≤ u ∧ u ≤ 2000000) (hv : -1100000 ≤ v ∧ v ≤ 1100000) {i : Nat} (hi : i < n) : -109800000 ≤ u + i * v ∧ u + i * v ≤ 109800000 := by
  have := bd_mul (i := (i : Int)) (b := 98) (v := v) (V := 1100000) (by omega) (by omega) hv.1 hv.2
  omega
theorem Rw.mean {d : Array Nat} {h : Nat} {u v : Int} (R : Rw d (2 * h + 1) u v) (hn : 2 * h + 1 ≤ 99) (hu : -2000000 ≤ u ∧ u ≤ 2000000) (hv : -1100000 ≤ v ∧ v ≤ 1100000) : WH (mtF d) (u + h * v) := by
  unfold mtF sumD
  rw [R.len]
  have s := WH.sum (F := fun i => ab d[i]!) (f := fun i => u + i * v) (M := 109800000) (2 * h + 1) (by omega) R.wh (fun i hi => Rw.at_bd hn hu hv hi) (by unfold P53; omega)
  have b := Rw.at_bd (i := h) hn hu hv (by omega)
  exact WH.quo (s.cast (sumZ_mid h fun i _ => rfl)) (WH.int (by unfold P53; omega) (by unfold P53; omega)) (by omega) (by unfold P53; omega) (by unfold P53; omega)
theorem Rw.off {d : Array Nat} {h : Nat} {u v : Int} (R : Rw d (2 * h + 1) u v) (hn : 2 * h + 1 ≤ 99) (hu : -2000000 ≤ u ∧ u ≤ 2000000) (hv : -1100000 ≤ v ∧ v ≤ 1100000) {i : Nat} (hi : i < 2 * h + 1) : WH (bin .sub (ab d[i]!) (mtF d)) (((i : Int) - h) * v) := by
  have e : u + i * v - (u + h * v) = ((i : Int) - h) * v := by rw [Int.sub_mul]; omega
  have b := bd_mul (i := (i : Int) - h) (b := 49) (v := v) (V := 1100000) (by omega) (by omega) hv.1 hv.2
  exact (WH.sub (R.wh i hi) (R.mean hn hu hv) (by rw [e]; unfold P53; omega) (by rw [e]; unfold P53; omega)).cast e
/-- How far the places lie from the middle one, squared. -/
def qZ (h : Nat) : Int := sumZ (fun i => ((i : Int) - h) * ((i : Int) - h)) (2 * h + 1)
theorem sq_nonneg (x : Int) : 0 ≤ x * x := by
  rcases Int.le_total 0 x with h | h
  · exact Int.mul_nonneg h h
  · have := Int.mul_nonneg (show 0 ≤ -x by omega) (show 0 ≤ -x by omega)
    rwa [Int.neg_mul_neg] at this
theorem qZ_pos {h : Nat} (h0 : 0 < h) : 0 < qZ h := by
  refine sumZ_pos (2 * h + 1) (by omega) (fun i _ => sq_nonneg _) ?_
  have : 0 < (h : Int) * h := Int.mul_pos (by omega) (by omega)
  rw [Int.natCast_zero, Int.zero_sub, Int.neg_mul_neg]; exact this
theorem qZ_bd {h : Nat} (hn : 2 * h + 1 ≤ 99) : qZ h ≤ 99 * 2401 := by
  have := sumZ_bd (f := fun i => ((i : Int) - h) * ((i : Int) - h)) (M := 2401) (2 * h + 1) (fun i hi => by
    have := bd_mul (i := (i : Int) - h) (b := 49) (v := (i : Int) - h) (V := 49) (by omega) (by omega) (by omega) (by omega)
    exact this)
  unfold qZ
  have : ((2 * h + 1 : Nat) : Int) * 2401 ≤ 99 * 2401 := by omega
  omega
theorem Rw.cross {t x : Array Nat} {h : Nat} {u v a c : Int} (T : Rw t (2 * h + 1) u v) (X : Rw x (2 * h + 1) a (c * v)) (hn : 2 * h + 1 ≤ 99) (hu : -2000000 ≤ u ∧ u ≤ 2000000) (hv : -1023 ≤ v ∧ v ≤ 1023) (ha : -2000000 ≤ a ∧ a ≤ 2000000) (hc : -1023 ≤ c ∧ c ≤ 1023) : WH (sumN (fun i => crF (ab t[i]!) (mtF t) (ab x[i]!) (mtF x)) (2 * h + 1)) (c * (v * v * qZ h)) := by
  have bcv := bd_mul (i := c) (b := 1023) (v := v) (V := 1023) hc.1 hc.2 hv.1 hv.2
  have s := WH.sum (F := fun i => crF (ab t[i]!) (mtF t) (ab x[i]!) (mtF x)) (f := fun i => (((i : Int) - h) * v) * (((i : Int) - h) * (c * v))) (M := 50127 * 53900000) (2 * h + 1) (by omega) (fun i hi => by
      have b1 := bd_mul (i := (i : Int) - h) (b := 49) (v := v) (V := 1023) (by omega) (by omega) hv.1 hv.2
      have b2 := bd_mul (i := (i : Int) - h) (b := 49) (v := c * v) (V := 1100000) (by omega) (by omega) (by omega) (by omega)
      have b3 := bd_mul (i := ((i : Int) - h) * v) (b := 50127) (v := ((i : Int) - h) * (c * v)) (V := 53900000) (by omega) (by omega) (by omega) (by omega)
      exact WH.mul (T.off hn hu (by omega) hi) (X.off hn ha (by omega) hi) (by unfold P53; omega) (by unfold P53; omega)) (fun i hi => by
      have b1 := bd_mul (i := (i : Int) - h) (b := 49) (v := v) (V := 1023) (by omega) (by omega) hv.1 hv.2
      have b2 := bd_mul (i := (i : Int) - h) (b := 49) (v := c * v) (V := 1100000) (by omega) (by omega) (by omega) (by omega)
      exact bd_mul (i := ((i : Int) - h) * v) (b := 50127) (v := ((i : Int) - h) * (c * v)) (V := 53900000) (by omega) (by omega) (by omega) (by omega)) (by unfold P53; omega)
  refine s.cast ?_
  rw [sumZ_mul (k := c * (v * v)) (f := fun i => ((i : Int) - h) * ((i : Int) - h)) (2 * h + 1) (fun i _ => by grind)]
  unfold qZ
  rw [Int.mul_assoc c]
theorem Rw.squares {t : Array Nat} {h : Nat} {u v : Int} (T : Rw t (2 * h + 1) u v) (hn : 2 * h + 1 ≤ 99) (hu : -2000000 ≤ u ∧ u ≤ 2000000) (hv : -1023 ≤ v ∧ v ≤ 1023) : WH (sxxF t) (v * v * qZ h) := by
  have := Rw.cross (c := 1) T (by rw [Int.one_mul]; exact T) hn hu hv hu (by omega)
  rw [Int.one_mul] at this
  unfold sxxF
  rw [T.len]
  exact this
theorem Rw.speed {t x : Array Nat} {h : Nat} {u v a c : Int} (T : Rw t (2 * h + 1) u v) (X : Rw x (2 * h + 1) a (c * v)) (h0 : 0 < h) (hn : 2 * h + 1 ≤ 99) (hu : -2000000 ≤ u ∧ u ≤ 2000000) (hv : -1023 ≤ v ∧ v ≤ 1023) (hv0 : v ≠ 0) (ha : -2000000 ≤ a ∧ a ≤ 2000000) (hc : -1023 ≤ c ∧ c ≤ 1023) : WH (spdF t x) c := by
  unfold spdF sxyF
  rw [T.len]
  refine WH.quo (T.cross X hn hu hv ha hc) (T.squares hn hu hv) ?_ (by unfold P53; omega) (by unfold P53; omega)
  exact Int.mul_ne_zero (Int.mul_ne_zero hv0 hv0) (by have := qZ_pos h0; omega)
theorem Rw.place {t x : Array Nat} {h : Nat} {u v a c : Int} (T : Rw t (2 * h + 1) u v) (X : Rw x (2 * h + 1) a (c * v)) (h0 : 0 < h) (hn : 2 * h + 1 ≤ 99) (hu : -1023 ≤ u ∧ u ≤ 1023) (hv : -1023 ≤ v ∧ v ≤ 1023) (hv0 : v ≠ 0) (ha : -2000000 ≤ a ∧ a ≤ 2000000) (hc : -1023 ≤ c ∧ c ≤ 1023) : WH (atF t x) (a - c * u) := by
  have bcv := bd_mul (i := c) (b := 1023) (v := v) (V := 1023) hc.1 hc.2 hv.1 hv.2
  have bcu := bd_mul (i := c) (b := 1023) (v := u) (V := 1023) hc.1 hc.2 hu.1 hu.2
  have bh := bd_mul (i := (h : Int)) (b := 49) (v := v) (V := 1023) (by omega) (by omega) hv.1 hv.2
  have bm := bd_mul (i := c) (b := 1023) (v := u + h * v) (V := 52000) hc.1 hc.2 (by omega) (by omega)
  unfold atF
  have m := WH.mul (T.speed X h0 hn (by omega) hv hv0 ha hc) (T.mean hn (by omega) (by omega)) (by unfold P53; omega) (by unfold P53; omega)
  have e : a + h * (c * v) - c * (u + h * v) = a - c * u := by grind
  exact (WH.sub (X.mean hn ha (by omega)) m (by rw [e]; unfold P53; omega) (by rw [e]; unfold P53; omega)).cast e
end Go.Proofs.Ytcgbmcnefolgcaa
