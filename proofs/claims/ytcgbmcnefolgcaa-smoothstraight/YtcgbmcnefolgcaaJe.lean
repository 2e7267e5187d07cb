/- Whole places on a line: no error, the speed's bits, no turn. -/
import Derived.Test.YtcgbmcnefolgcaaJd
import Derived.Test.YtcgbmcnefolgcaaFy
import Derived.Test.YtcgbmcnefolgcaaGb
namespace Go.Proofs.Ytcgbmcnefolgcaa
open Go.Fl Ieee

theorem WH.fin {o : Option Nat} {z : Int} (h : WH o z) : Go.Fl.fin o = true := by
  obtain ⟨x, rfl, fx, _⟩ := h
  rw [← Fnt.ab fx]; exact fin_of fx
theorem Rw.fin {d : Array Nat} {n : Nat} {u v : Int} (R : Rw d n u v) : finL d = true := by
  unfold finL
  rw [R.len, allN_iff]
  exact fun i hi => (R.wh i hi).fin
theorem Rw.err {t x : Array Nat} {h : Nat} {u v a c : Int} (T : Rw t (2 * h + 1) u v) (X : Rw x (2 * h + 1) a (c * v)) (h0 : 0 < h) (hn : 2 * h + 1 ≤ 99) (hu : -1023 ≤ u ∧ u ≤ 1023) (hv : -1023 ≤ v ∧ v ≤ 1023) (hv0 : v ≠ 0) (ha : -2000000 ≤ a ∧ a ≤ 2000000) (hc : -1023 ≤ c ∧ c ≤ 1023) : linE t x = 0 := by
  unfold linE lenE
  have hq := qZ_pos h0
  have hne : v * v * qZ h ≠ 0 := Int.mul_ne_zero (Int.mul_ne_zero hv0 hv0) (by omega)
  have e0 : eqF (sxxF t) (ab 0) = false := by rw [(T.squares hn (by omega) hv).eq WH.zero]; simpa using hne
  rw [T.len, X.len, if_pos rfl, if_neg (show ¬ 1024 < 2 * h + 1 by omega), if_pos rfl, if_neg (show ¬ 2 * h + 1 < 2 by omega), T.fin, X.fin, e0, (T.speed X h0 hn (by omega) hv hv0 ha hc).fin, (T.place X h0 hn hu hv hv0 ha hc).fin]
  rfl
/-- A float that is a whole number other than 0 is told by it. -/
theorem WH.bits {r : Nat} {z : Int} (h : WH (some r) z) (hr : r < 2 ^ 64) (hz : z ≠ 0) (h1 : -P53 < z) (h2 : z < P53) (hf : floatOfInt .f64 z < 2 ^ 64) : r = floatOfInt .f64 z := by
  have e := h.eq (WH.int h1 h2)
  obtain ⟨x, hx, fx, vx⟩ := h
  simp only [Option.some.injEq] at hx
  subst hx
  have f0 := (whole_val h1 h2).1
  rw [← Fnt.ab fx, eqF_lin fx.num f0.num] at e
  have e1 : lin r = lin (floatOfInt .f64 z) := by simpa using e
  have ez := (WH.zero).eq (⟨r, rfl, fx, vx⟩ : WH (some r) z)
  rw [← Fnt.ab fx, eqF_lin (by decide) fx.num] at ez
  have ez1 : lin 0 ≠ lin r := by
    have : decide (lin 0 = lin r) = false := by rw [ez]; simpa using Ne.symm hz
    simpa using this
  have l0 : lin 0 = 0 := rfl
  rcases Nat.lt_or_ge r (2 ^ 63) with q1 | q1 <;> rcases Nat.lt_or_ge (floatOfInt .f64 z) (2 ^ 63) with q2 | q2
  · rw [lin_low q1, lin_low q2] at e1; omega
  · rw [lin_low q1, lin_high q2 hf] at e1; rw [lin_low q1] at ez1; omega
  · rw [lin_high q1 hr, lin_low q2] at e1; rw [lin_high q1 hr] at ez1; omega
  · rw [lin_high q1 hr, lin_high q2 hf] at e1; omega
end Go.Proofs.Ytcgbmcnefolgcaa
