/- PlanShares: what stands behind 420 ticks. -/
import Derived.Test.YtjklaemhfhakhaaHa
namespace Go.Proofs.Ytjklaemhfhakhaa
open Go.ChangeShapes Go.WideShapes Go.ChangeAt Go.RowKit

theorem loadS_420 {a d e l : Nat} (hd : d ∣ 420) (he : e ∣ 420) (hl : l ≤ 12) {B : Nat} (ha : a + 12 ≤ B) (hB : B ≤ 4611686018427387904 / 421) : ∃ a' d', loadS a d e l = some (a', d') ∧ d' ∣ 420 ∧ a' + 12 ≤ 421 * B := by
  have d0 : 0 < d := Nat.pos_of_dvd_of_pos hd (by decide)
  have e0 : 0 < e := Nat.pos_of_dvd_of_pos he (by decide)
  have hg : 0 < Nat.gcd d e := Nat.gcd_pos_of_pos_left _ d0
  have k1 : e / Nat.gcd d e ≤ 420 := Nat.le_trans (Nat.div_le_self _ _) (Nat.le_of_dvd (by decide) he)
  have k2 : d / Nat.gcd d e ≤ 420 := Nat.le_trans (Nat.div_le_self _ _) (Nat.le_of_dvd (by decide) hd)
  have hD : d / Nat.gcd d e * e ∣ 420 := by
    have h1 := Nat.lcm_dvd hd he
    have h2 : Nat.lcm d e = d / Nat.gcd d e * e := by
      obtain ⟨d1, hd1⟩ := Nat.gcd_dvd_left d e
      unfold Nat.lcm
      have q1 : d / Nat.gcd d e = d1 := by rw [Nat.div_eq_of_eq_mul_right hg hd1]
      rw [q1]
      conv => lhs; arg 1; rw [hd1]
      rw [Nat.mul_assoc, Nat.mul_div_cancel_left _ hg]
    rwa [h2] at h1
  have hDle := Nat.le_of_dvd (by decide) hD
  have n1 : a * (e / Nat.gcd d e) ≤ a * 420 := Nat.mul_le_mul_left _ k1
  have n2 : l * (d / Nat.gcd d e) ≤ 12 * 420 := Nat.mul_le_mul hl k2
  unfold loadS
  simp only
  have hN : a * (e / Nat.gcd d e) + l * (d / Nat.gcd d e) ≤ a * 420 + 12 * 420 := by omega
  generalize a * (e / Nat.gcd d e) + l * (d / Nat.gcd d e) = N at *
  rw [if_neg (by omega)]
  refine ⟨_, _, rfl, Nat.dvd_trans (Nat.div_dvd_of_dvd (Nat.gcd_dvd_right _ _)) hD, ?_⟩
  have := Nat.div_le_self N (Nat.gcd N (d / Nat.gcd d e * e))
  omega
theorem loadN_420 {E L : Nat → Nat} : ∀ k, k ≤ 5 → (∀ i, i < k → E i ∣ 420 ∧ L i ≤ 12) → ∃ a d, loadN E L k = some (a, d) ∧ d ∣ 420 ∧ a + 12 ≤ 12 * 421 ^ k
  | 0, _, _ => ⟨0, 1, rfl, ⟨420, rfl⟩, by decide⟩
  | k + 1, hk, h => by
    obtain ⟨a, d, h1, h2, h3⟩ := loadN_420 k (by omega) (fun i hi => h i (by omega))
    have hp : 421 ^ k ≤ 421 ^ 4 := Nat.pow_le_pow_right (by decide) (by omega)
    have h5 : 421 ^ 4 = 31414372081 := by decide
    obtain ⟨a', d', k1, k2, k3⟩ := loadS_420 h2 (h k (by omega)).1 (h k (by omega)).2 h3 (by omega)
    rw [loadN, h1]
    refine ⟨a', d', k1, k2, ?_⟩
    rw [Nat.pow_succ]
    omega
theorem dvd420 {e : Int} (h1 : 1 ≤ e) (h2 : e ≤ 7) : e ∣ 420 := by
  rcases (show e = 1 ∨ e = 2 ∨ e = 3 ∨ e = 4 ∨ e = 5 ∨ e = 6 ∨ e = 7 by omega) with rfl | rfl | rfl | rfl | rfl | rfl | rfl <;> decide
theorem load_ok {N : Nat} {T : Nat → Tk} (hN : N ≤ 5) (h : ∀ i, i < N → MayT (T i).e (T i).l ∧ (T i).e ≤ 7) : ∃ a d, loadN (fun i => (T i).e.toNat) (fun i => (T i).l.toNat) N = some (a, d) ∧ d ≤ 420 ∧ a ≤ 200000000000000 := by
  obtain ⟨a, d, h1, h2, h3⟩ := loadN_420 (E := fun i => (T i).e.toNat) (L := fun i => (T i).l.toNat) N hN (fun i hi => by
    obtain ⟨⟨m1, m2, m3⟩, k⟩ := h i hi
    refine ⟨?_, by show (T i).l.toNat ≤ 12; omega⟩
    have e : (((T i).e.toNat : Nat) : Int) = (T i).e := by omega
    have d := dvd420 (e := (T i).e) (by omega) k
    rw [← e] at d
    exact Int.natCast_dvd_natCast.1 d)
  have hp : 421 ^ N ≤ 421 ^ 5 := Nat.pow_le_pow_right (by decide) hN
  have h5 : 421 ^ 5 = 13225450646101 := by decide
  exact ⟨a, d, h1, Nat.le_of_dvd (by decide) h2, by omega⟩
theorem last_of {c : Crs} (h : c.tl = []) : c.last = c.hd := by
  obtain ⟨hd, tl, dn⟩ := c
  subst h
  rfl
theorem share_all {N : Nat} {T : Nat → Tk} (hm : ∀ i, i < N → MayT (T i).e (T i).l ∧ (T i).e ≤ 7) : Chn 0 (untilN N 420 65536 (newP T)).1 420 ∧ (∀ i, i < N → ((untilN N 420 65536 (newP T)).2.c i).last.e = (T i).e ∧ ((untilN N 420 65536 (newP T)).2.c i).last.l = (T i).l) ∧ (Light N (fun i => (T i).e) (fun i => (T i).l) → ∀ i, i < N → ∀ q : Nat, ((q : Int) + 1) * (T i).e ≤ 420 → cntA (untilN N 420 65536 (newP T)).1 i (q * (T i).e) (T i).e.toNat = (T i).l) := by
  have hs := SI.start (T := T) (n := N) (fun i hi => (hm i hi).1)
  have z0 : (newP T).now = 0 := rfl
  obtain ⟨i1, i2, i3, i4, i5, i6⟩ := hs.until (tick := 420) (by omega) 65536 (newP T) (by rw [z0]; omega) (by rw [z0]; omega)
  rw [z0] at i3
  refine ⟨i3, fun i hi => ?_, fun hl i hi q hq => ?_⟩
  · rw [last_of (i1.fits.tl i hi)]
    exact ⟨i1.fits.e i hi, i1.fits.l i hi⟩
  · have ls := (LS.start (M := 7) hm hl).mono (B' := 420) (by omega)
    obtain ⟨u1, u2⟩ := ls.until hl 420 (by omega) (by omega) 65536
    obtain ⟨w1, w2⟩ := SI.untilW (tick := 420) (by omega) hl 65536 (newP T) hs ls.feas
    obtain ⟨⟨m1, m2, m3⟩, m4⟩ := hm i hi
    have hn := i1.nxNow u2.feas hi (by rw [i2]; exact dvd420 (by omega) m4)
    rw [i2] at hn
    have h1 := w2 i hi q
    have h2 : wq (fun i => (T i).e) (fun i => (T i).l) (untilN N 420 65536 (newP T)).2 i q = (T i).l := by
      unfold wq
      rw [hn, if_pos hq]
    have h3 : wq (fun i => (T i).e) (fun i => (T i).l) (newP T) i q = 0 := by
      unfold wq
      have : ¬ ((q : Int) + 1) * (T i).e ≤ 0 := by
        have := Int.mul_pos (show (0 : Int) < (q : Int) + 1 by omega) (show 0 < (T i).e by omega)
        omega
      rw [if_neg (by show ¬ ((q : Int) + 1) * (T i).e ≤ 0; exact this)]
      split <;> rfl
    rw [h2, h3] at h1
    have h4 := cnt_wn (E := (T i).e) (t := i) (by omega) (by omega) i3 (fun s hs' hi' => w1 s hs' i hi') q _ (Nat.le_refl _)
    rw [List.take_length] at h4
    rw [h4]
    omega
end Go.Proofs.Ytjklaemhfhakhaa
