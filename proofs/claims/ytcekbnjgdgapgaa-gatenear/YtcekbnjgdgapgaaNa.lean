/- How far Bin of Speed of a whole number is off: floats as a scale times a number that is near another one. -/
import Derived.Test.YtcekbnjgdgapgaaSb
import Derived.Test.YtcekbnjgdgapgaaBa
namespace Go.Proofs.Ytcekbnjgdgapgaa
open Go.Fl Ieee Go.RowKit

/-- A quotient, whatever sign. -/
theorem quo_near_s {x y r : Nat} (hx : Fnt x) (hy : Fnt y) (hy0 : 0 < val y) (h : bin .quo (some x) (some y) = some r) {κ B : Rat} (hκ : κ * val y = val x) (hB : κ ≤ B) (hB' : -B ≤ κ) (hB2 : B ≤ pw 990) : Fnt r ∧ Near (val r) κ (pw (-52) * B + pw (-1075)) := by
  by_cases h0 : 0 ≤ val x
  · obtain ⟨a, b, _⟩ := quo_near hx hy h0 hy0 h hκ hB hB2
    exact ⟨a, b⟩
  · have hn : bin .quo (some (Go.Fl.neg x)) (some y) = some (Go.Fl.neg r) := by
      have := quo_neg_l (o := some x) (p := some y) (fun z hz => by cases hz; exact hx.num)
      rw [Option.map_some, h] at this
      exact this
    obtain ⟨a, ⟨b1, b2⟩, _⟩ := quo_near (κ := -κ) (B := B) (fin_neg hx) hy (by rw [vneg]; grind) hy0 hn (by rw [vneg]; grind) (by grind) hB2
    rw [vneg] at b1 b2
    refine ⟨?_, by grind, by grind⟩
    have := fin_neg a
    rwa [neg_neg'] at this
theorem u52 : pw (-52) = 2 * u53 := by decide +kernel
theorem u53' : pw (-53) = u53 := by decide +kernel
theorem u53v : u53 = 1 / 9007199254740992 := rfl
/-- A float that is S times something that is off from T by at most e. -/
def RN (x : Nat) (S T e : Rat) : Prop := Fnt x ∧ ∃ φ, val x = S * φ ∧ φ ≤ T + e ∧ T ≤ φ + e
/-- A scale that is neither tiny nor great. -/
structure Sc (S : Rat) : Prop where
  lo : pw (-100) ≤ S
  hi : S ≤ pw 100
theorem Sc.pos {S : Rat} (h : Sc S) : 0 < S := by have := pw_pos (-100); have := h.lo; grind
theorem Sc.eta {S : Rat} (h : Sc S) : pw (-1075) ≤ S * (u53 * (1 / 1000)) := by
  have e : pw (-1075) = pw (-100) * pw (-975) := by rw [← pw_add]; rfl
  have e2 : pw (-975) ≤ pw (-80) := pw_mono (by omega)
  have e3 : pw (-80) ≤ u53 * (1 / 1000) := by decide +kernel
  rw [e]
  exact mul_bd (Rat.le_of_lt (pw_pos _)) h.lo (Rat.le_of_lt (pw_pos _)) (Rat.le_trans e2 e3)
theorem Sc.big {S : Rat} (h : Sc S) : S * (3 / 4) ≤ pw 990 := by
  have hp := h.pos
  have : pw 100 ≤ pw 990 := pw_mono (by omega)
  have := h.hi
  grind
/-- What a step leaves, at a scale S. -/
theorem rn_step {S φ T e z : Rat} (hS : Sc S) (h1 : φ ≤ T + e) (h2 : T ≤ φ + e) (hz : Near z (S * φ) (2 * u53 * (S * (3 / 4)) + pw (-1075))) : ∃ ψ, z = S * ψ ∧ ψ ≤ T + (e + 2 * u53) ∧ T ≤ ψ + (e + 2 * u53) := by
  obtain ⟨n1, n2⟩ := hz
  have hp := hS.pos
  have he := hS.eta
  obtain ⟨ψ, hψ⟩ : ∃ ψ : Rat, ψ * S = z := ⟨z / S, Rat.div_mul_cancel (by grind)⟩
  have a1 : ψ ≤ φ + 2 * u53 := le_of_mul hp (by rw [hψ, Rat.add_mul]; grind)
  have a2 : φ ≤ ψ + 2 * u53 := le_of_mul hp (by rw [Rat.add_mul, hψ]; grind)
  exact ⟨ψ, by rw [← hψ, Rat.mul_comm], by grind, by grind⟩
theorem rn_mag {S φ T e : Rat} (hS : 0 < S) (hT : T ≤ 1 / 2) (hT' : -(1 / 2) ≤ T) (he : e ≤ 1 / 8) (h1 : φ ≤ T + e) (h2 : T ≤ φ + e) : S * φ ≤ S * (3 / 4) ∧ -(S * (3 / 4)) ≤ S * φ := by
  have a := Rat.mul_le_mul_of_nonneg_left (show φ ≤ 3 / 4 by grind) (Rat.le_of_lt hS)
  have b := Rat.mul_le_mul_of_nonneg_left (show -(3 / 4) ≤ φ by grind) (Rat.le_of_lt hS)
  constructor
  · exact a
  · grind
theorem RN.mul {x y r : Nat} {S S' T e : Rat} (h : RN x S T e) (hy : Fnt y) (hr : bin .mul (some x) (some y) = some r) (hS' : S * val y = S') (hs : Sc S') (hT : T ≤ 1 / 2) (hT' : -(1 / 2) ≤ T) (he : e ≤ 1 / 8) : RN r S' T (e + 2 * u53) := by
  obtain ⟨hx, φ, v, h1, h2⟩ := h
  have hp : val x * val y = S' * φ := by rw [v, ← hS']; grind
  obtain ⟨m1, m2⟩ := rn_mag hs.pos hT hT' he h1 h2
  have hb : S' * (3 / 4) ≤ pw 1000 := Rat.le_trans hs.big (pw_mono (by omega))
  obtain ⟨f, n1, n2⟩ := mul_near hx hy hr (B := S' * (3 / 4)) (by rw [hp]; exact m1) (by rw [hp]; exact m2) hb
  rw [hp, u53'] at n1 n2
  have h0 : 0 ≤ S' * (3 / 4) := by have := hs.pos; grind
  have hu : 0 ≤ u53 * (S' * (3 / 4)) := Rat.mul_nonneg (by decide +kernel) h0
  obtain ⟨ψ, a, b, c⟩ := rn_step (z := val r) hs h1 h2 ⟨by grind, by grind⟩
  exact ⟨f, ψ, a, b, c⟩
theorem RN.quo {x y r : Nat} {S S' T e : Rat} (h : RN x S T e) (hy : Fnt y) (hy0 : 0 < val y) (hr : bin .quo (some x) (some y) = some r) (hS' : S' * val y = S) (hs : Sc S') (hT : T ≤ 1 / 2) (hT' : -(1 / 2) ≤ T) (he : e ≤ 1 / 8) : RN r S' T (e + 2 * u53) := by
  obtain ⟨hx, φ, v, h1, h2⟩ := h
  have hp : (S' * φ) * val y = val x := by rw [v, ← hS']; grind
  obtain ⟨m1, m2⟩ := rn_mag hs.pos hT hT' he h1 h2
  obtain ⟨f, n⟩ := quo_near_s hx hy hy0 hr hp m1 m2 hs.big
  rw [u52] at n
  obtain ⟨ψ, a, b, c⟩ := rn_step (z := val r) hs h1 h2 n
  exact ⟨f, ψ, a, b, c⟩
theorem RN.neg {x : Nat} {S T e : Rat} (h : RN x S T e) : RN (Go.Fl.neg x) S (-T) e := by
  obtain ⟨hx, φ, v, h1, h2⟩ := h
  exact ⟨fin_neg hx, -φ, by rw [vneg, v]; grind, by grind, by grind⟩
theorem ftwo : Fnt 4611686018427387904 ∧ val 4611686018427387904 = 2 := ⟨by unfold Fnt; decide, by decide +kernel⟩
theorem read2 : double.read 4611686018427387904 = .number false 4503599627370496 (-51) := by decide +kernel
/-- Twice a float: exact. -/
theorem twice_exact {x : Nat} (hx : Fnt x) (hB : val x ≤ pw 900) (hB' : -pw 900 ≤ val x) : ∃ r, bin .mul (ab 4611686018427387904) (some x) = some r ∧ Fnt r ∧ val r = 2 * val x := by
  obtain ⟨s, m, i, ex⟩ := fin_read hx
  have vx := val_read ex
  have hm := read_lt ex
  obtain ⟨r, hr⟩ := bin_some_mul ftwo.1 hx
  have hpw : pw 900 * 2 = pw 901 := by
    have : pw (900 + 1) = pw 900 * pw 1 := pw_add 900 1
    have e1 : pw 1 = 2 := by decide +kernel
    rw [e1] at this
    exact this.symm
  have hle : pw 901 ≤ pw 1000 := pw_mono (by omega)
  have hi : -1074 ≤ i := (read_num ex).2.2.1
  have hdv : dv s m (i + 1) = 2 * val x := by
    have e1 : pw (i + 1) = pw i * 2 := by
      rw [pw_add]
      have : pw 1 = 2 := by decide +kernel
      rw [this]
    rw [vx]
    unfold dv
    rw [e1]; grind
  have hmag : (m : Rat) * pw (i + 1) ≤ pw 1000 := by
    cases s
    · rw [dv_false] at hdv; grind
    · rw [dv_true] at hdv; grind
  obtain ⟨fz, vz⟩ := exact_write s (K := m) (e := i + 1) hm (by omega) hmag
  rw [hdv] at vz
  have b1 : val 4611686018427387904 * val x ≤ pw 1000 := by rw [ftwo.2]; grind
  have b2 : -pw 1000 ≤ val 4611686018427387904 * val x := by rw [ftwo.2]; grind
  have mo := mul_mono ftwo.1 hx hr b1 b2 (z := double.write (.number s m (i + 1)))
  rw [ftwo.2, vz] at mo
  refine ⟨r, by rw [Fnt.ab ftwo.1]; exact hr, (mul_near ftwo.1 hx hr (B := pw 1000) b1 b2 Rat.le_refl).1, ?_⟩
  have a := mo.1 Rat.le_refl
  have b := mo.2 Rat.le_refl
  grind
end Go.Proofs.Ytcekbnjgdgapgaa
