/- Rounding over the whole range of floats. No program. -/
import Derived.Test.YtlgejebgkkmacaaEa
namespace Go.Proofs.Ytlgejebgkkmacaa
open Go.Fl Ieee Go.RowKit

theorem nearest_fin (s : Bool) {m : Nat} {e : Int} (h : 2 * ((m : Rat) * pw e) < ((18014398509481983 : Nat) : Rat) * pw 971) : Fnt (double.nearest s m e) := by
  have e1 : double.leastPlace = -1074 := rfl
  have e2 : double.binade = 2 ^ 52 := rfl
  have e3 : double.infRung = 0x7ff0000000000000 := rfl
  have e4 : double.fractionBits = 52 := rfl
  rcases Nat.eq_zero_or_pos m with h0 | hm
  · subst h0
    unfold Format.nearest
    rw [if_pos rfl]
    unfold Fnt
    cases s <;> decide
  by_cases hb : e + (m.log2 : Int) ≤ 1022
  · obtain ⟨last, kept, hr⟩ := rounds s hm hb
    exact hr.fin
  have hlog : 2 ^ m.log2 ≤ m := Nat.log2_self_le (by omega)
  have hlog2 : m < 2 ^ (m.log2 + 1) := Nat.lt_log2_self
  have htop : e + (m.log2 : Int) = 1023 := by
    rcases Int.lt_or_le 1023 (e + (m.log2 : Int)) with h1 | h1
    · exfalso
      have a1 : pw (e + (m.log2 : Int)) ≤ (m : Rat) * pw e := by
        rw [Int.add_comm, pw_add, pw_nat]
        exact Rat.mul_le_mul_of_nonneg_right (Rat.natCast_le_natCast.2 hlog) (Rat.le_of_lt (pw_pos e))
      have a2 := pw_mono (show (1024 : Int) ≤ e + (m.log2 : Int) by omega)
      have a3 : pw 1024 = pw 53 * pw 971 := by rw [← pw_add]; congr 1
      have a4 : pw 53 = 9007199254740992 := by decide +kernel
      have a5 := pw_pos 971
      have a6 : ((18014398509481983 : Nat) : Rat) = 18014398509481983 := by decide +kernel
      rw [a3, a4] at a2
      rw [a6] at h
      generalize pw 971 = Q at *
      generalize (m : Rat) * pw e = V at *
      generalize pw (e + (m.log2 : Int)) = V2 at *
      grind
    · omega
  unfold Format.nearest
  rw [if_neg (by omega)]
  simp only [e1, e2, e3, e4, shl]
  have hl : max (e + (m.log2 : Int) - ((52 : Nat) : Int)) (-1074) = 971 := by omega
  rw [hl]
  obtain ⟨n, hn⟩ : ∃ n, n = m * 2 ^ (e - 971).toNat := ⟨_, rfl⟩
  obtain ⟨d, hd⟩ : ∃ d, d = (971 - e).toNat := ⟨_, rfl⟩
  rw [← hn, ← hd]
  obtain ⟨k, hk⟩ : ∃ k, k = Toward.even.cut s n d := ⟨_, rfl⟩
  have herr := (cut_err s n d).1
  rw [← hk] at herr ⊢
  have hval : (n : Rat) * pw (971 - d) = (m : Rat) * pw e := by
    rw [hn, Rat.natCast_mul, Rat.mul_assoc, ← pw_nat, ← pw_add]
    congr 2
    omega
  have hunit : pw 971 = ((2 ^ d : Nat) : Rat) * pw (971 - d) := by
    rw [pw_split (show (971 : Int) - d ≤ 971 by omega), show ((971 : Int) - (971 - (d : Int))).toNat = d by omega]
  have hnat : 2 * n < 18014398509481983 * 2 ^ d := by
    have hp := pw_pos (971 - d)
    rw [← hval, hunit, ← Rat.mul_assoc, ← Rat.mul_assoc] at h
    have h2 : ((2 * n : Nat) : Rat) * pw (971 - d) < ((18014398509481983 * 2 ^ d : Nat) : Rat) * pw (971 - d) := by
      rw [Rat.natCast_mul, Rat.natCast_mul]
      exact h
    rcases Nat.lt_or_ge (2 * n) (18014398509481983 * 2 ^ d) with h3 | h3
    · exact h3
    · exfalso
      have h4 := Rat.mul_le_mul_of_nonneg_right (Rat.natCast_le_natCast.2 h3) (Rat.le_of_lt hp)
      grind
  have hk53 : k < 2 ^ 53 := by
    rcases Nat.lt_or_ge k (2 ^ 53) with h1 | h1
    · exact h1
    · exfalso
      have h2 := Nat.mul_le_mul_right (2 ^ d) h1
      have hp := Nat.two_pow_pos d
      generalize 2 ^ d = D at *
      generalize hB : k * D = B at *
      omega
  have hL : ((971 : Int) - -1074).toNat = 2045 := by decide
  rw [hL, Nat.min_eq_left (by omega)]
  unfold Fnt
  rw [word_mod s _ (by omega)]
  omega
/-- How great a finite float can be. -/
theorem fnt_most {x : Nat} (h : Fnt x) : val x ≤ ((9007199254740991 : Nat) : Rat) * pw 971 ∧ -(((9007199254740991 : Nat) : Rat) * pw 971) ≤ val x := by
  obtain ⟨K, hK⟩ : ∃ K : Nat, K = 2045 := ⟨_, rfl⟩
  have hm : mag (x % 2 ^ 63) ≤ 9007199254740991 * 2 ^ K := by
    unfold Fnt at h
    unfold mag
    generalize x % 2 ^ 63 = r at *
    have hq : r / 2 ^ 52 - 1 ≤ K := by omega
    have hp : 1 ≤ 2 ^ K := Nat.two_pow_pos K
    split
    · have h2 : r ≤ 9007199254740991 * 1 := by omega
      exact Nat.le_trans h2 (Nat.mul_le_mul_left _ hp)
    · exact Nat.mul_le_mul (show 2 ^ 52 + r % 2 ^ 52 ≤ 9007199254740991 by omega) (Nat.pow_le_pow_right (show 0 < 2 by omega) hq)
  have e : ((9007199254740991 : Nat) : Rat) * pw 971 = ((9007199254740991 * 2 ^ K : Nat) : Rat) * pw (-1074) := by
    rw [Rat.natCast_mul, Rat.mul_assoc, ← pw_nat, ← pw_add]
    congr 2
    omega
  have hle : (mag (x % 2 ^ 63) : Rat) * pw (-1074) ≤ ((9007199254740991 : Nat) : Rat) * pw 971 := by
    rw [e]
    exact Rat.mul_le_mul_of_nonneg_right (Rat.natCast_le_natCast.2 hm) (Rat.le_of_lt (pw_pos _))
  have h0 : 0 ≤ (mag (x % 2 ^ 63) : Rat) * pw (-1074) := Rat.mul_nonneg Rat.natCast_nonneg (Rat.le_of_lt (pw_pos _))
  rcases val_cases x with h1 | h1 <;> rw [h1] <;> constructor <;> grind

theorem min_fnt {s : Bool} {R : Nat} (h : Fnt (double.word s (min R 0x7ff0000000000000))) : R < 0x7ff0000000000000 := by
  unfold Fnt at h
  rw [word_mod s _ (by omega)] at h
  omega
theorem rounds_fin (s : Bool) {m : Nat} {e : Int} (hm : 0 < m) (hfin : Fnt (double.nearest s m e)) : ∃ last kept, Rounds s m e (double.nearest s m e) last kept := by
  have e1 : double.leastPlace = -1074 := rfl
  have e2 : double.binade = 2 ^ 52 := rfl
  have e3 : double.infRung = 0x7ff0000000000000 := rfl
  have e4 : double.fractionBits = 52 := rfl
  have hlog : 2 ^ m.log2 ≤ m := Nat.log2_self_le (by omega)
  have hlog2 : m < 2 ^ (m.log2 + 1) := Nat.lt_log2_self
  revert hfin
  unfold Format.nearest
  rw [if_neg (by omega)]
  simp only [e1, e2, e3, e4, shl]
  generalize hl : max (e + (m.log2 : Int) - 52) (-1074) = last
  have hmpos : (0 : Rat) < m := Rat.natCast_pos.2 hm
  -- the shifted number, and its bounds
  obtain ⟨n, hn⟩ : ∃ n, n = m * 2 ^ (e - last).toNat := ⟨_, rfl⟩
  obtain ⟨d, hd⟩ : ∃ d, d = (last - e).toNat := ⟨_, rfl⟩
  rw [← hn, ← hd]
  intro hfin
  obtain ⟨k, hk⟩ : ∃ k, k = Toward.even.cut s n d := ⟨_, rfl⟩
  have herr := cut_err s n d
  rw [← hk] at herr hfin ⊢
  have hpd := Nat.two_pow_pos d
  -- n below 2^(53 + d), and from 2^(52 + d) on where it is no subnormal number
  have hnd : n < 2 ^ (53 + d) := by
    rcases Int.le_total e last with h | h
    · have : (e - last).toNat = 0 := by omega
      rw [hn, this, Nat.pow_zero, Nat.mul_one]
      exact Nat.lt_of_lt_of_le hlog2 (Nat.pow_le_pow_right (by omega) (by omega))
    · have h0 : d = 0 := by omega
      rw [hn, h0, Nat.add_zero]
      have : 2 ^ (m.log2 + 1) * 2 ^ (e - last).toNat ≤ 2 ^ 53 := by
        rw [← Nat.pow_add]; exact Nat.pow_le_pow_right (by omega) (by omega)
      exact Nat.lt_of_lt_of_le (Nat.mul_lt_mul_of_pos_right hlog2 (Nat.two_pow_pos _)) this
  have hnl : last = -1074 ∨ 2 ^ (52 + d) ≤ n := by
    rcases Int.le_total (e + m.log2 - 52) (-1074) with h | h
    · left; omega
    · right
      rcases Int.le_total e last with h' | h'
      · have h0 : (e - last).toNat = 0 := by omega
        rw [hn, h0, Nat.pow_zero, Nat.mul_one]
        exact Nat.le_trans (Nat.pow_le_pow_right (by omega) (by omega)) hlog
      · have h0 : d = 0 := by omega
        rw [hn, h0, Nat.add_zero]
        have : 2 ^ 52 ≤ 2 ^ m.log2 * 2 ^ (e - last).toNat := by
          rw [← Nat.pow_add]; exact Nat.pow_le_pow_right (by omega) (by omega)
        exact Nat.le_trans this (Nat.mul_le_mul_right _ hlog)
  have hk53 : k ≤ 2 ^ 53 := by
    have a : 2 ^ (53 + d) = 2 ^ 53 * 2 ^ d := Nat.pow_add _ _ _
    rcases Nat.lt_or_ge (2 ^ 53) k with h | h
    · exfalso
      have := Nat.mul_le_mul_right (2 ^ d) h
      have e : (2 ^ 53).succ * 2 ^ d = 2 ^ 53 * 2 ^ d + 2 ^ d := Nat.succ_mul _ _
      generalize 2 ^ 53 * 2 ^ d = A at *
      generalize k * 2 ^ d = B at *
      omega
    · exact h
  have hk52 : last = -1074 ∨ 2 ^ 52 ≤ k := by
    rcases hnl with h | h
    · exact Or.inl h
    · right
      have a : 2 ^ (52 + d) = 2 ^ 52 * 2 ^ d := Nat.pow_add _ _ _
      rcases Nat.lt_or_ge k (2 ^ 52) with h' | h'
      · exfalso
        have := Nat.mul_le_mul_right (2 ^ d) (show k + 1 ≤ 2 ^ 52 from h')
        have e : (k + 1) * 2 ^ d = k * 2 ^ d + 2 ^ d := Nat.succ_mul _ _
        generalize 2 ^ 52 * 2 ^ d = A at *
        generalize k * 2 ^ d = B at *
        omega
      · exact h'
  have hlast : -1074 ≤ last ∧ True := ⟨by omega, trivial⟩
  obtain ⟨L, hL⟩ := Int.eq_ofNat_of_zero_le (show 0 ≤ last - -1074 by omega)
  have hLt : (last - -1074).toNat = L := by omega
  rw [hLt] at hfin ⊢
  have hr : L * 2 ^ 52 + k < 0x7ff0000000000000 := min_fnt hfin
  rw [Nat.min_eq_left (by omega)]
  have hmag : mag (L * 2 ^ 52 + k) = k * 2 ^ L := mag_rung hk53 (by omega)
  have hpl : pw last = ((2 ^ L : Nat) : Rat) * pw (-1074) := by
    rw [pw_split hlast.1, show (last - -1074).toNat = L by omega]
  -- n and m: the same number in other units
  have hval : (n : Rat) * pw (last - d) = (m : Rat) * pw e := by
    rw [hn, Rat.natCast_mul, Rat.mul_assoc, ← pw_nat, ← pw_add]
    congr 2
    omega
  have hunit : pw last = ((2 ^ d : Nat) : Rat) * pw (last - d) := by
    rw [pw_split (show last - d ≤ last by omega), show (last - (last - (d : Int))).toNat = d by omega]
  have hpp := pw_pos (last - d)
  have hup : (2 : Rat) * ((k : Rat) * ((2 ^ d : Nat) : Rat)) ≤ 2 * (n : Rat) + ((2 ^ d : Nat) : Rat) := by
    have := Rat.natCast_le_natCast.2 herr.1
    rw [Rat.natCast_mul, Rat.natCast_add, Rat.natCast_mul, Rat.natCast_mul] at this
    exact this
  have hdn : (2 : Rat) * (n : Rat) ≤ 2 * ((k : Rat) * ((2 ^ d : Nat) : Rat)) + ((2 ^ d : Nat) : Rat) := by
    have := Rat.natCast_le_natCast.2 herr.2
    rw [Rat.natCast_mul, Rat.natCast_add, Rat.natCast_mul, Rat.natCast_mul] at this
    exact this
  have hup2 := Rat.mul_le_mul_of_nonneg_right hup (Rat.le_of_lt hpp)
  have hdn2 := Rat.mul_le_mul_of_nonneg_right hdn (Rat.le_of_lt hpp)
  refine ⟨last, k, hlast.1, ?_, ?_, ?_, ?_, ?_, ?_, hk53, hk52⟩
  · rw [val_word s (by omega), hmag]
    unfold dv
    rw [sgn_mul, Rat.intCast_mul, Rat.mul_assoc, hpl]
    rfl
  · unfold Fnt
    rw [word_mod s _ (by omega)]
    exact hr
  · rw [← hval, hunit]; grind
  · rw [← hval, hunit]; grind
  · rcases hnl with h | h
    · exact Or.inl h
    · right
      rw [← hval]
      have h1 : ((2 ^ (52 + d) : Nat) : Rat) ≤ (n : Rat) := Rat.natCast_le_natCast.2 h
      have h2 := Rat.mul_le_mul_of_nonneg_right h1 (Rat.le_of_lt hpp)
      have h3 : pw (last + 52) = ((2 ^ (52 + d) : Nat) : Rat) * pw (last - d) := by
        rw [← pw_nat, ← pw_add]; congr 1; omega
      rw [h3]; exact h2
  · intro hle
    have h0 : d = 0 := by omega
    have : k = n := by
      have h1 := herr.1
      have h2 := herr.2
      rw [h0] at h1 h2
      simp only [Nat.pow_zero, Nat.mul_one] at h1 h2
      omega
    rw [this, ← hval, h0]
    congr 2
    omega

theorem write_or (s : Bool) (m : Nat) (e : Int) : Fnt (double.write (.number s m e)) ∨ double.write (.number s m e) = double.word s 0x7ff0000000000000 := by
  show Fnt (double.nearest s m e) ∨ double.nearest s m e = _
  have e3 : double.infRung = 0x7ff0000000000000 := rfl
  unfold Format.nearest
  split
  · left; unfold Fnt; rw [word_mod _ _ (by omega)]; omega
  · simp only [e3]
    generalize (_ + _ : Nat) = R
    rcases Nat.lt_or_ge R 0x7ff0000000000000 with h | h
    · left; rw [Nat.min_eq_left (by omega)]; unfold Fnt; rw [word_mod _ _ (by omega)]; exact h
    · right; rw [Nat.min_eq_right h]
theorem small_fin (s : Bool) {m : Nat} {e : Int} {y : Nat} (hy : Fnt y) (h : (m : Rat) * pw e ≤ val y) : Fnt (double.write (.number s m e)) := by
  show Fnt (double.nearest s m e)
  refine nearest_fin s ?_
  have h1 := (fnt_most hy).1
  have h2 := pw_pos 971
  have e1 : ((18014398509481983 : Nat) : Rat) = 2 * ((9007199254740991 : Nat) : Rat) + 1 := by decide +kernel
  rw [e1]
  grind
theorem write_fmono (s : Bool) (m : Nat) (e : Int) (hf : Fnt (double.write (.number s m e))) {y : Nat} : (dv s m e ≤ val y → val (double.write (.number s m e)) ≤ val y) ∧ (val y ≤ dv s m e → val y ≤ val (double.write (.number s m e))) := by
  revert hf
  show Fnt (double.nearest s m e) → (_ → val (double.nearest s m e) ≤ _) ∧ (_ → _ ≤ val (double.nearest s m e))
  intro hf
  rcases Nat.eq_zero_or_pos m with h0 | h0
  · subst h0
    have e1 : double.nearest s 0 e = double.word s 0 := by simp [Format.nearest]
    have e2 : dv s 0 e = 0 := by cases s <;> simp [dv, sgn]
    rw [e1, val_zero, e2]
    exact ⟨id, id⟩
  · obtain ⟨last, kept, hr⟩ := rounds_fin s (e := e) h0 hf
    exact hr.mono
/-- A number that is written lies on the right side of every float. -/
theorem sub_self {x y : Nat} (hx : isN x = false) (hy : isN y = false) (h : eqF (some x) (some y) = true) : bin .sub (some x) (some y) = none ∨ ∃ r, bin .sub (some x) (some y) = some r ∧ Zr r := by
  have h' : double.order x y = some .eq := by
    have e := order_ab x y
    rw [ab_some hx, ab_some hy] at e
    unfold eqF at h
    rw [← e] at h
    exact eq_of_beq h
  show double.sub x y = none ∨ ∃ r, double.sub x y = some r ∧ _
  unfold Format.sub
  unfold Format.order at h'
  rcases not_nan hx with ⟨s, m, i, ex⟩ | ⟨s, ex⟩ <;> rcases not_nan hy with ⟨t, n, j, ey⟩ | ⟨t, ey⟩ <;> rw [ex, ey] <;> rw [ex, ey] at h'
  · right
    simp only [Datum.order, Option.some.injEq, Int.compare_eq_eq] at h'
    simp only [Datum.opposite, Datum.sum, Option.map_some, Option.some.injEq]
    refine ⟨_, rfl, ?_⟩
    have e1 : signed s m (i - min i j).toNat + signed (!t) n (j - min i j).toNat = 0 := by
      have e2 : signed (!t) n (j - min i j).toNat = -signed t n (j - min i j).toNat := by unfold signed; cases t <;> simp
      rw [e2, h']; omega
    rw [e1]
    exact write_zero _ _
  · cases t <;> cases h'
  · cases s <;> cases h'
  · left
    cases s <;> cases t <;> first | rfl | (exfalso; revert h'; decide)
end Go.Proofs.Ytlgejebgkkmacaa
