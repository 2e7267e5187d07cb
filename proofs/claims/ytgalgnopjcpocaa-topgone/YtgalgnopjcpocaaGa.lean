/- Sums of finite floats that do not run over: a finite float and a small one. No program is spoken of here. -/
import Derived.Test.YtgalgnopjcpocaaWb
namespace Go.Proofs.Ytgalgnopjcpocaa
open Go.Fl Ieee Go.RowKit

theorem nearest_fin (s : Bool) {m : Nat} {e : Int} (h : 2 * ((m : Rat) * pw e) < ((18014398509481983 : Nat) : Rat) * pw 971) : Fnt (double.nearest s m e) := by
  have e1 : double.leastPlace = -1074 := rfl
  have e2 : double.binade = 2 ^ 52 := rfl
  have e3 : double.infRung = 0x7ff0000000000000 := rfl
  have e4 : double.fractionBits = 52 := rfl
  rcases Nat.eq_zero_or_pos m with h0 | hm
  · subst h0
    unfold Format.nearest
    rw [if_pos rfl]
    unfold Fnt
    cases s <;> decide
  by_cases hb : e + (m.log2 : Int) ≤ 1022
  · obtain ⟨last, kept, hr⟩ := rounds s hm hb
    exact hr.fin
  have hlog : 2 ^ m.log2 ≤ m := Nat.log2_self_le (by omega)
  have hlog2 : m < 2 ^ (m.log2 + 1) := Nat.lt_log2_self
  have htop : e + (m.log2 : Int) = 1023 := by
    rcases Int.lt_or_le 1023 (e + (m.log2 : Int)) with h1 | h1
    · exfalso
      have a1 : pw (e + (m.log2 : Int)) ≤ (m : Rat) * pw e := by
        rw [Int.add_comm, pw_add, pw_nat]
        exact Rat.mul_le_mul_of_nonneg_right (Rat.natCast_le_natCast.2 hlog) (Rat.le_of_lt (pw_pos e))
      have a2 := pw_mono (show (1024 : Int) ≤ e + (m.log2 : Int) by omega)
      have a3 : pw 1024 = pw 53 * pw 971 := by rw [← pw_add]; congr 1
      have a4 : pw 53 = 9007199254740992 := by decide +kernel
      have a5 := pw_pos 971
      have a6 : ((18014398509481983 : Nat) : Rat) = 18014398509481983 := by decide +kernel
      rw [a3, a4] at a2
      rw [a6] at h
      generalize pw 971 = Q at *
      generalize (m : Rat) * pw e = V at *
      generalize pw (e + (m.log2 : Int)) = V2 at *
      grind
    · omega
  unfold Format.nearest
  rw [if_neg (by omega)]
  simp only [e1, e2, e3, e4, shl]
  have hl : max (e + (m.log2 : Int) - ((52 : Nat) : Int)) (-1074) = 971 := by omega
  rw [hl]
  obtain ⟨n, hn⟩ : ∃ n, n = m * 2 ^ (e - 971).toNat := ⟨_, rfl⟩
  obtain ⟨d, hd⟩ : ∃ d, d = (971 - e).toNat := ⟨_, rfl⟩
  rw [← hn, ← hd]
  obtain ⟨k, hk⟩ : ∃ k, k = Toward.even.cut s n d := ⟨_, rfl⟩
  have herr := (cut_err s n d).1
  rw [← hk] at herr ⊢
  have hval : (n : Rat) * pw (971 - d) = (m : Rat) * pw e := by
    rw [hn, Rat.natCast_mul, Rat.mul_assoc, ← pw_nat, ← pw_add]
    congr 2
    omega
  have hunit : pw 971 = ((2 ^ d : Nat) : Rat) * pw (971 - d) := by
    rw [pw_split (show (971 : Int) - d ≤ 971 by omega), show ((971 : Int) - (971 - (d : Int))).toNat = d by omega]
  have hnat : 2 * n < 18014398509481983 * 2 ^ d := by
    have hp := pw_pos (971 - d)
    rw [← hval, hunit, ← Rat.mul_assoc, ← Rat.mul_assoc] at h
    have h2 : ((2 * n : Nat) : Rat) * pw (971 - d) < ((18014398509481983 * 2 ^ d : Nat) : Rat) * pw (971 - d) := by
      rw [Rat.natCast_mul, Rat.natCast_mul]
      exact h
    rcases Nat.lt_or_ge (2 * n) (18014398509481983 * 2 ^ d) with h3 | h3
    · exact h3
    · exfalso
      have h4 := Rat.mul_le_mul_of_nonneg_right (Rat.natCast_le_natCast.2 h3) (Rat.le_of_lt hp)
      grind
  have hk53 : k < 2 ^ 53 := by
    rcases Nat.lt_or_ge k (2 ^ 53) with h1 | h1
    · exact h1
    · exfalso
      have h2 := Nat.mul_le_mul_right (2 ^ d) h1
      have hp := Nat.two_pow_pos d
      generalize 2 ^ d = D at *
      generalize hB : k * D = B at *
      omega
  have hL : ((971 : Int) - -1074).toNat = 2045 := by decide
  rw [hL, Nat.min_eq_left (by omega)]
  unfold Fnt
  rw [word_mod s _ (by omega)]
  omega
/-- How great a finite float can be. -/
theorem fnt_most {x : Nat} (h : Fnt x) : val x ≤ ((9007199254740991 : Nat) : Rat) * pw 971 ∧ -(((9007199254740991 : Nat) : Rat) * pw 971) ≤ val x := by
  obtain ⟨K, hK⟩ : ∃ K : Nat, K = 2045 := ⟨_, rfl⟩
  have hm : mag (x % 2 ^ 63) ≤ 9007199254740991 * 2 ^ K := by
    unfold Fnt at h
    unfold mag
    generalize x % 2 ^ 63 = r at *
    have hq : r / 2 ^ 52 - 1 ≤ K := by omega
    have hp : 1 ≤ 2 ^ K := Nat.two_pow_pos K
    split
    · have h2 : r ≤ 9007199254740991 * 1 := by omega
      exact Nat.le_trans h2 (Nat.mul_le_mul_left _ hp)
    · exact Nat.mul_le_mul (show 2 ^ 52 + r % 2 ^ 52 ≤ 9007199254740991 by omega) (Nat.pow_le_pow_right (show 0 < 2 by omega) hq)
  have e : ((9007199254740991 : Nat) : Rat) * pw 971 = ((9007199254740991 * 2 ^ K : Nat) : Rat) * pw (-1074) := by
    rw [Rat.natCast_mul, Rat.mul_assoc, ← pw_nat, ← pw_add]
    congr 2
    omega
  have hle : (mag (x % 2 ^ 63) : Rat) * pw (-1074) ≤ ((9007199254740991 : Nat) : Rat) * pw 971 := by
    rw [e]
    exact Rat.mul_le_mul_of_nonneg_right (Rat.natCast_le_natCast.2 hm) (Rat.le_of_lt (pw_pos _))
  have h0 : 0 ≤ (mag (x % 2 ^ 63) : Rat) * pw (-1074) := Rat.mul_nonneg Rat.natCast_nonneg (Rat.le_of_lt (pw_pos _))
  rcases val_cases x with h1 | h1 <;> rw [h1] <;> constructor <;> grind
/-- A finite float and one of at most 4: their sum is finite. -/
theorem add_fin {x y : Nat} (hx : Fnt x) (hy : Fnt y) (h1 : val y ≤ 4) (h2 : -4 ≤ val y) : ∃ r, bin .add (some x) (some y) = some r ∧ Fnt r := by
  obtain ⟨s, m, i, ex⟩ := fin_read hx
  obtain ⟨t, n, j, ey⟩ := fin_read hy
  obtain ⟨g, k, e, hv⟩ := sum_val (s := s) (t := t) (m := m) (n := n) (i := i) (j := j)
  refine ⟨double.write (.number g k (min i j)), ?_, ?_⟩
  · show double.add x y = _
    unfold Format.add
    rw [ex, ey, e]; rfl
  · show Fnt (double.nearest g k (min i j))
    refine nearest_fin g ?_
    obtain ⟨b1, b2⟩ := fnt_most hx
    rw [val_read ex] at b1 b2
    rw [val_read ey] at h1 h2
    have p0 : (k : Rat) * pw (min i j) = dv g k (min i j) ∨ (k : Rat) * pw (min i j) = -dv g k (min i j) := by
      cases g
      · left; rw [dv_false]
      · right; rw [dv_true]; grind
    have c : (4 : Rat) * 2 < pw 971 := by
      have := pw_mono (show (4 : Int) ≤ 971 by omega)
      have e4 : pw 4 = 16 := by decide +kernel
      grind
    have a6 : ((18014398509481983 : Nat) : Rat) = 18014398509481983 := by decide +kernel
    have a7 : ((9007199254740991 : Nat) : Rat) = 9007199254740991 := by decide +kernel
    rw [a6]
    rw [a7] at b1 b2
    rw [hv] at p0
    generalize pw 971 = Q at *
    generalize dv s m i = X at *
    generalize dv t n j = Y at *
    generalize (k : Rat) * pw (min i j) = Z at *
    rcases p0 with p0 | p0 <;> rw [p0] <;> grind
/-- Nought times a finite float is nought, of either sign. -/
theorem zero_mul_fin {x : Nat} (hx : Fnt x) : ∃ r, bin .mul (some 0) (some x) = some r ∧ Fnt r ∧ val r = 0 := by
  have f0 : Fnt 0 := by unfold Fnt; decide
  obtain ⟨r, hr⟩ := bin_some_mul f0 hx
  have z : val 0 * val x = 0 := by rw [val0]; grind
  have p0 : (0 : Rat) ≤ pw 1000 := Rat.le_of_lt (pw_pos _)
  have h1 := mul_mono f0 hx hr (by rw [z]; exact p0) (by rw [z]; grind) (z := 0)
  rw [z, val0] at h1
  obtain ⟨f, _⟩ := mul_near f0 hx hr (B := 0) (by rw [z]; exact Rat.le_refl) (by rw [z]; grind) p0
  exact ⟨r, hr, f, Rat.le_antisymm (h1.1 Rat.le_refl) (h1.2 Rat.le_refl)⟩
end Go.Proofs.Ytgalgnopjcpocaa
