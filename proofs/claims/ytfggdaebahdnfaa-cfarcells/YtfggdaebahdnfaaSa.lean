/- A number times a power of two is rounded as the number is. No program is spoken of here. -/
import Derived.Test.YtfggdaebahdnfaaYb
namespace Go.Proofs.Ytfggdaebahdnfaa
open Go.Fl Ieee Go.RowKit

theorem rle {a b : Rat} (h : a = b) : a ≤ b := by rw [h]; exact Rat.le_refl

/-- What is kept of a number of so many digits. -/
def keptOf (s : Bool) (m : Nat) : Nat := Toward.even.cut s (m * 2 ^ (52 - m.log2)) (m.log2 - 52)
theorem nearest_val (s : Bool) {m : Nat} {e : Int} (hm : 0 < m) (hbig : e + m.log2 ≤ 1022) (hlow : -1022 ≤ e + m.log2) : val (double.nearest s m e) = dv s (keptOf s m) (e + m.log2 - 52) := by
  have key : ∀ last, max (e + (m.log2 : Int) - 52) (-1074) = last → val (double.nearest s m e) = dv s (Toward.even.cut s (m * 2 ^ (e - last).toNat) (last - e).toNat) last := by
    intro last hl
    have e1 : double.leastPlace = -1074 := rfl
    have e2 : double.binade = 2 ^ 52 := rfl
    have e3 : double.infRung = 0x7ff0000000000000 := rfl
    have e4 : double.fractionBits = 52 := rfl
    have hlog : 2 ^ m.log2 ≤ m := Nat.log2_self_le (by omega)
    have hlog2 : m < 2 ^ (m.log2 + 1) := Nat.lt_log2_self
    unfold Format.nearest
    rw [if_neg (by omega)]
    simp only [e1, e2, e3, e4, shl]
    rw [show max (e + (m.log2 : Int) - ((52 : Nat) : Int)) (-1074) = last from hl]
    have hmpos : (0 : Rat) < m := Rat.natCast_pos.2 hm
    -- the shifted number, and its bounds
    obtain ⟨n, hn⟩ : ∃ n, n = m * 2 ^ (e - last).toNat := ⟨_, rfl⟩
    obtain ⟨d, hd⟩ : ∃ d, d = (last - e).toNat := ⟨_, rfl⟩
    rw [← hn, ← hd]
    obtain ⟨k, hk⟩ : ∃ k, k = Toward.even.cut s n d := ⟨_, rfl⟩
    have herr := cut_err s n d
    rw [← hk] at herr ⊢
    have hpd := Nat.two_pow_pos d
    -- n below 2^(53 + d), and from 2^(52 + d) on where it is no subnormal number
    have hnd : n < 2 ^ (53 + d) := by
      rcases Int.le_total e last with h | h
      · have : (e - last).toNat = 0 := by omega
        rw [hn, this, Nat.pow_zero, Nat.mul_one]
        exact Nat.lt_of_lt_of_le hlog2 (Nat.pow_le_pow_right (by omega) (by omega))
      · have h0 : d = 0 := by omega
        rw [hn, h0, Nat.add_zero]
        have : 2 ^ (m.log2 + 1) * 2 ^ (e - last).toNat ≤ 2 ^ 53 := by
          rw [← Nat.pow_add]; exact Nat.pow_le_pow_right (by omega) (by omega)
        exact Nat.lt_of_lt_of_le (Nat.mul_lt_mul_of_pos_right hlog2 (Nat.two_pow_pos _)) this
    have hnl : last = -1074 ∨ 2 ^ (52 + d) ≤ n := by
      rcases Int.le_total (e + m.log2 - 52) (-1074) with h | h
      · left; omega
      · right
        rcases Int.le_total e last with h' | h'
        · have h0 : (e - last).toNat = 0 := by omega
          rw [hn, h0, Nat.pow_zero, Nat.mul_one]
          exact Nat.le_trans (Nat.pow_le_pow_right (by omega) (by omega)) hlog
        · have h0 : d = 0 := by omega
          rw [hn, h0, Nat.add_zero]
          have : 2 ^ 52 ≤ 2 ^ m.log2 * 2 ^ (e - last).toNat := by
            rw [← Nat.pow_add]; exact Nat.pow_le_pow_right (by omega) (by omega)
          exact Nat.le_trans this (Nat.mul_le_mul_right _ hlog)
    have hk53 : k ≤ 2 ^ 53 := by
      have a : 2 ^ (53 + d) = 2 ^ 53 * 2 ^ d := Nat.pow_add _ _ _
      rcases Nat.lt_or_ge (2 ^ 53) k with h | h
      · exfalso
        have := Nat.mul_le_mul_right (2 ^ d) h
        have e : (2 ^ 53).succ * 2 ^ d = 2 ^ 53 * 2 ^ d + 2 ^ d := Nat.succ_mul _ _
        generalize 2 ^ 53 * 2 ^ d = A at *
        generalize k * 2 ^ d = B at *
        omega
      · exact h
    have hk52 : last = -1074 ∨ 2 ^ 52 ≤ k := by
      rcases hnl with h | h
      · exact Or.inl h
      · right
        have a : 2 ^ (52 + d) = 2 ^ 52 * 2 ^ d := Nat.pow_add _ _ _
        rcases Nat.lt_or_ge k (2 ^ 52) with h' | h'
        · exfalso
          have := Nat.mul_le_mul_right (2 ^ d) (show k + 1 ≤ 2 ^ 52 from h')
          have e : (k + 1) * 2 ^ d = k * 2 ^ d + 2 ^ d := Nat.succ_mul _ _
          generalize 2 ^ 52 * 2 ^ d = A at *
          generalize k * 2 ^ d = B at *
          omega
        · exact h'
    have hlast : -1074 ≤ last ∧ last ≤ 970 := by omega
    obtain ⟨L, hL⟩ := Int.eq_ofNat_of_zero_le (show 0 ≤ last - -1074 by omega)
    have hLt : (last - -1074).toNat = L := by omega
    rw [hLt]
    have hr : L * 2 ^ 52 + k < 0x7ff0000000000000 := by omega
    rw [Nat.min_eq_left (by omega)]
    have hmag : mag (L * 2 ^ 52 + k) = k * 2 ^ L := mag_rung hk53 (by omega)
    have hpl : pw last = ((2 ^ L : Nat) : Rat) * pw (-1074) := by
      rw [pw_split hlast.1, show (last - -1074).toNat = L by omega]
    rw [val_word s (by omega), hmag]
    unfold dv
    rw [sgn_mul, Rat.intCast_mul, Rat.mul_assoc, hpl]
    rfl
  rw [key (e + m.log2 - 52) (by omega)]
  unfold keptOf
  rw [show (e - (e + (m.log2 : Int) - 52)).toNat = 52 - m.log2 by omega, show (e + (m.log2 : Int) - 52 - e).toNat = m.log2 - 52 by omega]
theorem dv_pw (s : Bool) (m : Nat) (e c : Int) : dv s m (e + c) = dv s m e * pw c := by
  unfold dv
  rw [pw_add, Rat.mul_assoc]
theorem nearest_scale (s : Bool) {m : Nat} {e c : Int} (hm : 0 < m) (h1 : e + m.log2 ≤ 1022) (h2 : -1022 ≤ e + m.log2) (h3 : e + c + m.log2 ≤ 1022) (h4 : -1022 ≤ e + c + m.log2) : val (double.nearest s m (e + c)) = val (double.nearest s m e) * pw c := by
  rw [nearest_val s hm h1 h2, nearest_val s hm h3 h4, show e + c + (m.log2 : Int) - 52 = (e + m.log2 - 52) + c by omega, dv_pw]
theorem log_ge {m : Nat} {e N : Int} (h : pw N ≤ (m : Rat) * pw e) : N ≤ e + m.log2 := by
  have h1 : m < 2 ^ (m.log2 + 1) := Nat.lt_log2_self
  have h2 : (m : Rat) < ((2 ^ (m.log2 + 1) : Nat) : Rat) := Rat.natCast_lt_natCast.2 h1
  have h3 := Rat.mul_lt_mul_of_pos_right h2 (pw_pos e)
  rw [← pw_nat, ← pw_add] at h3
  rcases Int.lt_or_le (e + m.log2) N with h4 | h4
  · exfalso
    have h5 := pw_mono (show ((m.log2 + 1 : Nat) : Int) + e ≤ N by omega)
    grind
  · exact h4
theorem read_norm {x : Nat} {s : Bool} {m : Nat} {e : Int} (h : double.read x = .number s m e) : e = -1074 ∨ 2 ^ 52 ≤ m := by
  unfold Format.read at h
  have e1 : double.signWeight = 2 ^ 63 := rfl
  have e2 : double.binade = 2 ^ 52 := rfl
  have e3 : double.infRung = 0x7ff0000000000000 := rfl
  have e4 : double.leastPlace = -1074 := rfl
  simp only [e1, e2, e3, e4] at h
  split at h
  · left; simp at h; omega
  · split at h
    · right; simp at h; omega
    · split at h <;> cases h
/-- A number that is neither too small nor too great, opened. -/
structure Sz (x : Nat) (lo hi : Int) (s : Bool) (m : Nat) (e : Int) : Prop where
  fin : Fnt x
  rd : double.read x = .number s m e
  pos : 0 < m
  lt : m < 2 ^ 53
  low : pw lo ≤ (m : Rat) * pw e
  high : (m : Rat) * pw e ≤ pw hi
  v : val x = dv s m e
theorem size_of {x : Nat} {lo hi : Int} (hx : Fnt x) (h : (pw lo ≤ val x ∧ val x ≤ pw hi) ∨ (-pw hi ≤ val x ∧ val x ≤ -pw lo)) : ∃ s m e, Sz x lo hi s m e := by
  obtain ⟨s, m, e, er⟩ := fin_read hx
  have vx := val_read er
  have hp := pw_pos lo
  have h0 : 0 ≤ (m : Rat) * pw e := Rat.mul_nonneg Rat.natCast_nonneg (Rat.le_of_lt (pw_pos e))
  have hh : pw lo ≤ (m : Rat) * pw e ∧ (m : Rat) * pw e ≤ pw hi := by
    rw [vx] at h
    cases s
    · rw [dv_false] at h
      grind
    · rw [dv_true] at h
      grind
  refine ⟨s, m, e, hx, er, ?_, read_lt er, hh.1, hh.2, vx⟩
  rcases Nat.eq_zero_or_pos m with h1 | h1
  · exfalso
    subst h1
    have := hh.1
    have e0 : ((0 : Nat) : Rat) * pw e = 0 := by rw [show ((0 : Nat) : Rat) = 0 from rfl, Rat.zero_mul]
    rw [e0] at this
    grind
  · exact h1
theorem Sz.place {x : Nat} {lo hi : Int} {s : Bool} {m : Nat} {e : Int} (h : Sz x lo hi s m e) : lo - 53 < e := by
  have h2 : (m : Rat) < ((2 ^ 53 : Nat) : Rat) := Rat.natCast_lt_natCast.2 h.lt
  have h3 := Rat.mul_lt_mul_of_pos_right h2 (pw_pos e)
  have e53 : ((2 ^ 53 : Nat) : Rat) = pw 53 := (pw_nat 53).symm
  rw [e53, ← pw_add] at h3
  rcases Int.lt_or_le (lo - 53) e with h4 | h4
  · exact h4
  · exfalso
    have h5 := pw_mono (show 53 + e ≤ lo by omega)
    have := h.low
    grind
theorem Sz.norm {x : Nat} {lo hi : Int} {s : Bool} {m : Nat} {e : Int} (h : Sz x lo hi s m e) (hl : -1000 ≤ lo) : 2 ^ 52 ≤ m := by
  rcases read_norm h.rd with h1 | h1
  · have := h.place
    omega
  · exact h1
/-- A number times a power of two: exact. -/
theorem mul_pw {x f r : Nat} {lo hi c : Int} {s : Bool} {m : Nat} {e : Int} (h : Sz x lo hi s m e) (hf : Fnt f) (vf : val f = pw c) (hl : -800 ≤ lo) (hh : hi ≤ 800) (h1 : -100 ≤ c) (h2 : c ≤ 100) (hr : bin .mul (some x) (some f) = some r) : Fnt r ∧ val r = val x * pw c := by
  have hp := h.place
  have hb : (m : Rat) * pw (e + c) ≤ pw 1000 := by
    rw [pw_add, ← Rat.mul_assoc]
    have a1 := Rat.mul_le_mul_of_nonneg_right h.high (Rat.le_of_lt (pw_pos c))
    rw [← pw_add] at a1
    have a2 := pw_mono (show hi + c ≤ 1000 by omega)
    grind
  obtain ⟨fy, vy⟩ := exact_write s (K := m) (e := e + c) h.lt (by omega) hb
  have ev : val x * val f = val (double.write (.number s m (e + c))) := by rw [vy, dv_pw, h.v, vf]
  have b1 : val x * val f ≤ pw 1000 ∧ -pw 1000 ≤ val x * val f := by
    rw [ev, vy]
    have h0 : 0 ≤ (m : Rat) * pw (e + c) := Rat.mul_nonneg Rat.natCast_nonneg (Rat.le_of_lt (pw_pos _))
    have h1000 := pw_pos 1000
    cases s
    · rw [dv_false]; grind
    · rw [dv_true]; grind
  refine ⟨(mul_near h.fin hf hr (B := pw 1000) b1.1 b1.2 Rat.le_refl).1, ?_⟩
  have mono := mul_mono h.fin hf hr b1.1 b1.2 (z := double.write (.number s m (e + c)))
  rw [← vf, ev]
  exact Rat.le_antisymm (mono.1 (by rw [ev]; exact Rat.le_refl)) (mono.2 (by rw [ev]; exact Rat.le_refl))
theorem norm_uniq {m n : Nat} {e d : Int} (hm : 2 ^ 52 ≤ m) (hm2 : m < 2 ^ 53) (hn : 2 ^ 52 ≤ n) (hn2 : n < 2 ^ 53) (h : (m : Rat) * pw e = (n : Rat) * pw d) : m = n ∧ e = d := by
  have key : ∀ (m n : Nat) (e d : Int), 2 ^ 52 ≤ m → n < 2 ^ 53 → (m : Rat) * pw e = (n : Rat) * pw d → e ≤ d := by
    intro m n e d hm hn h
    rcases Int.lt_or_le d e with h1 | h1
    · exfalso
      rw [pw_split (show d ≤ e by omega), ← Rat.mul_assoc, ← Rat.natCast_mul] at h
      have h2 : ((m * 2 ^ (e - d).toNat : Nat) : Rat) = (n : Rat) := by
        have hp := pw_pos d
        have a := le_of_mul hp (rle h)
        have b := le_of_mul hp (rle h.symm)
        exact Rat.le_antisymm a b
      have h3 := Rat.natCast_inj.1 h2
      have h4 : 2 ^ 1 ≤ 2 ^ (e - d).toNat := Nat.pow_le_pow_right (by omega) (by omega)
      have h5 := Nat.mul_le_mul hm h4
      omega
    · exact h1
  have e1 := key m n e d hm hn2 h
  have e2 := key n m d e hn hm2 h.symm
  have e3 : e = d := by omega
  subst e3
  refine ⟨?_, rfl⟩
  have hp := pw_pos e
  exact Rat.natCast_inj.1 (Rat.le_antisymm (le_of_mul hp (rle h)) (le_of_mul hp (rle h.symm)))
theorem mul_bd {a b c d : Rat} (ha : 0 ≤ a) (hb : a ≤ b) (hc : 0 ≤ c) (hd : c ≤ d) : a * c ≤ b * d :=
  Rat.le_trans (Rat.mul_le_mul_of_nonneg_left hd ha) (Rat.mul_le_mul_of_nonneg_right hb (Rat.le_trans hc hd))
theorem dv_inj {s t : Bool} {m n : Nat} {e d : Int} (hm : 0 < m) (hn : 0 < n) (h : dv s m e = dv t n d) : s = t ∧ (m : Rat) * pw e = (n : Rat) * pw d := by
  have h1 : 0 < (m : Rat) * pw e := Rat.mul_pos (Rat.natCast_pos.2 hm) (pw_pos e)
  have h2 : 0 < (n : Rat) * pw d := Rat.mul_pos (Rat.natCast_pos.2 hn) (pw_pos d)
  cases s <;> cases t <;> simp only [dv_false, dv_true] at h
  · exact ⟨rfl, h⟩
  · exfalso; grind
  · exfalso; grind
  · exact ⟨rfl, by grind⟩
theorem mul_bits {x y : Nat} {s t : Bool} {m n : Nat} {e d : Int} (hx : double.read x = .number s m e) (hy : double.read y = .number t n d) {r : Nat} (h : bin .mul (some x) (some y) = some r) : r = double.nearest (s ^^ t) (m * n) (e + d) := by
  have h1 : double.mul x y = some r := h
  unfold Format.mul at h1
  rw [hx, hy] at h1
  simp only [Datum.product, Option.map_some, Option.some.injEq] at h1
  exact h1.symm
/-- A product with a number, and with the number times a power of two. -/
theorem scaled {h W f p wf q p' : Nat} {c : Int} {s1 s2 : Bool} {m1 m2 : Nat} {e1 e2 : Int} (hh : Sz h (-50) 3 s1 m1 e1) (hW : Sz W (-333) 333 s2 m2 e2) (hf : Fnt f) (vf : val f = pw c) (h1 : -100 ≤ c) (h2 : c ≤ 100)
    (ep : bin .mul (some h) (some W) = some p) (ew : bin .mul (some W) (some f) = some wf) (eq : bin .mul (some h) (some wf) = some q) (ep' : bin .mul (some p) (some f) = some p') : Fnt q ∧ Fnt p' ∧ val q = val p' := by
  obtain ⟨fw, vw⟩ := mul_pw hW hf vf (by omega) (by omega) h1 h2 ew
  have pos2 : 0 < (m2 : Rat) * pw e2 := Rat.mul_pos (Rat.natCast_pos.2 hW.pos) (pw_pos e2)
  -- the number times a power of two, opened
  have hsz : (pw (-433) ≤ val wf ∧ val wf ≤ pw 433) ∨ (-pw 433 ≤ val wf ∧ val wf ≤ -pw (-433)) := by
    rw [vw, hW.v, ← dv_pw]
    have a1 := Rat.mul_le_mul_of_nonneg_right hW.high (Rat.le_of_lt (pw_pos c))
    have a2 := Rat.mul_le_mul_of_nonneg_right hW.low (Rat.le_of_lt (pw_pos c))
    rw [← pw_add, Rat.mul_assoc, ← pw_add] at a1 a2
    have a3 := pw_mono (show 333 + c ≤ 433 by omega)
    have a4 := pw_mono (show -433 ≤ -333 + c by omega)
    cases s2
    · rw [dv_false]; left; grind
    · rw [dv_true]; right; grind
  obtain ⟨s3, m3, e3, h3⟩ := size_of fw hsz
  have hv : dv s3 m3 e3 = dv s2 m2 (e2 + c) := by rw [← h3.v, vw, hW.v, dv_pw]
  obtain ⟨rfl, hm⟩ := dv_inj h3.pos hW.pos hv
  obtain ⟨rfl, rfl⟩ := norm_uniq (h3.norm (by omega)) h3.lt (hW.norm (by omega)) hW.lt hm
  -- the two products
  have bp := mul_bits hh.rd hW.rd ep
  have bq := mul_bits hh.rd h3.rd eq
  have hpos : 0 < m1 * m3 := Nat.mul_pos hh.pos hW.pos
  have hlo : pw (-383) ≤ ((m1 * m3 : Nat) : Rat) * pw (e1 + e2) := by
    have a := mul_bd (Rat.le_of_lt (pw_pos (-50))) hh.low (Rat.le_of_lt (pw_pos (-333))) hW.low
    rw [← pw_add] at a
    rw [Rat.natCast_mul, pw_add]
    have e : (m1 : Rat) * pw e1 * ((m3 : Rat) * pw e2) = (m1 : Rat) * (m3 : Rat) * (pw e1 * pw e2) := by grind
    rw [← e]; exact a
  have hhi : ((m1 * m3 : Nat) : Rat) * pw (e1 + e2) ≤ pw 336 := by
    have p1 : 0 ≤ (m1 : Rat) * pw e1 := Rat.mul_nonneg Rat.natCast_nonneg (Rat.le_of_lt (pw_pos e1))
    have a := mul_bd p1 hh.high (Rat.le_of_lt pos2) hW.high
    rw [← pw_add] at a
    rw [Rat.natCast_mul, pw_add]
    have e : (m1 : Rat) * pw e1 * ((m3 : Rat) * pw e2) = (m1 : Rat) * (m3 : Rat) * (pw e1 * pw e2) := by grind
    rw [← e]; exact a
  have l1 := log_ge hlo
  have l2 := log_le hpos hhi
  have hs := nearest_scale (s1 ^^ s3) (m := m1 * m3) (e := e1 + e2) (c := c) hpos (by omega) (by omega) (by omega) (by omega)
  have vq : val q = val p * pw c := by
    rw [bq, bp, show e1 + (e2 + c) = e1 + e2 + c by omega]; exact hs
  -- how great the product is
  have ve : val h * val W = dv (s1 ^^ s3) (m1 * m3) (e1 + e2) := by
    rw [hh.v, hW.v]
    have e : (m1 : Rat) * pw e1 * ((m3 : Rat) * pw e2) = ((m1 * m3 : Nat) : Rat) * pw (e1 + e2) := by rw [Rat.natCast_mul, pw_add]; grind
    cases s1 <;> cases s3 <;> simp only [dv_false, dv_true, Bool.not_true, Bool.not_false, Bool.xor_false, Bool.xor_true] <;> rw [← e] <;> grind
  have w336 := pw_mono (show (336 : Int) ≤ 1000 by omega)
  have p383 := pw_pos (-383)
  have b1 : val h * val W ≤ pw 1000 ∧ -pw 1000 ≤ val h * val W := by
    rw [ve]
    cases (s1 ^^ s3)
    · rw [dv_false]; grind
    · rw [dv_true]; grind
  obtain ⟨fp, _⟩ := mul_near hh.fin hW.fin ep (B := pw 1000) b1.1 b1.2 Rat.le_refl
  have mono := fun z => mul_mono hh.fin hW.fin ep b1.1 b1.2 (z := z)
  have psz : (pw (-383) ≤ val p ∧ val p ≤ pw 336) ∨ (-pw 336 ≤ val p ∧ val p ≤ -pw (-383)) := by
    have one : ((1 : Nat) : Rat) = 1 := rfl
    have w383 := pw_mono (show (-383 : Int) ≤ 1000 by omega)
    have z1 := (exact_write false (K := 1) (e := -383) (by omega) (by omega) (by rw [one]; grind)).2
    have z2 := (exact_write false (K := 1) (e := 336) (by omega) (by omega) (by rw [one]; grind)).2
    have z3 := (exact_write true (K := 1) (e := -383) (by omega) (by omega) (by rw [one]; grind)).2
    have z4 := (exact_write true (K := 1) (e := 336) (by omega) (by omega) (by rw [one]; grind)).2
    rw [dv_false, one, Rat.one_mul] at z1 z2
    rw [dv_true, one, Rat.one_mul] at z3 z4
    rw [ve] at mono
    cases hsx : (s1 ^^ s3)
    · rw [hsx, dv_false] at mono
      left
      have a := (mono (double.write (.number false 1 (-383)))).2 (by rw [z1]; exact hlo)
      have b := (mono (double.write (.number false 1 336))).1 (by rw [z2]; exact hhi)
      rw [z1] at a
      rw [z2] at b
      exact ⟨a, b⟩
    · rw [hsx, dv_true] at mono
      right
      have a := (mono (double.write (.number true 1 (-383)))).1 (by rw [z3]; grind)
      have b := (mono (double.write (.number true 1 336))).2 (by rw [z4]; grind)
      rw [z3] at a
      rw [z4] at b
      exact ⟨b, a⟩
  obtain ⟨s4, m4, e4, h4⟩ := size_of fp psz
  obtain ⟨fp', vp'⟩ := mul_pw h4 hf vf (by omega) (by omega) h1 h2 ep'
  refine ⟨?_, fp', by rw [vq, vp']⟩
  have bq1 : val h * val wf ≤ pw 1000 ∧ -pw 1000 ≤ val h * val wf := by
    have e : val h * val wf = dv (s1 ^^ s3) (m1 * m3) (e1 + e2 + c) := by rw [vw, ← Rat.mul_assoc, ve, ← dv_pw]
    have a1 := Rat.mul_le_mul_of_nonneg_right hhi (Rat.le_of_lt (pw_pos c))
    rw [← pw_add, Rat.mul_assoc, ← pw_add] at a1
    have a3 := pw_mono (show 336 + c ≤ 1000 by omega)
    have h0 : 0 ≤ ((m1 * m3 : Nat) : Rat) * pw (e1 + e2 + c) := Rat.mul_nonneg Rat.natCast_nonneg (Rat.le_of_lt (pw_pos _))
    have h1000 := pw_pos 1000
    rw [e]
    cases (s1 ^^ s3)
    · rw [dv_false]; grind
    · rw [dv_true]; grind
  exact (mul_near hh.fin fw eq (B := pw 1000) bq1.1 bq1.2 Rat.le_refl).1
/-- 0 times what is finite. -/
theorem mul_zero {x y r : Nat} (hx : Fnt x) (hy : Fnt y) (h0 : val x = 0) (h : bin .mul (some x) (some y) = some r) : Fnt r ∧ val r = 0 := by
  have h1000 := pw_pos 1000
  have b1 : val x * val y ≤ pw 1000 := by rw [h0, Rat.zero_mul]; grind
  have b2 : -pw 1000 ≤ val x * val y := by rw [h0, Rat.zero_mul]; grind
  refine ⟨(mul_near hx hy h (B := pw 1000) b1 b2 Rat.le_refl).1, ?_⟩
  have mono := mul_mono hx hy h b1 b2 (z := 0)
  rw [h0, Rat.zero_mul, val0] at mono
  exact Rat.le_antisymm (mono.1 Rat.le_refl) (mono.2 Rat.le_refl)
end Go.Proofs.Ytfggdaebahdnfaa
/- Numbers times a power of two: what is reckoned with them is so many times what it was. No program. -/
namespace Go.Proofs.Ytfggdaebahdnfaa
open Go.ChangeShapes Go.WideShapes Go.ChangeAt Go.RowKit Go.Fl Ieee

/-- Neither too small nor too great, or nought. -/
def Md (lo hi : Int) (v : Rat) : Prop := v = 0 ∨ (pw lo ≤ v ∧ v ≤ pw hi) ∨ (-pw hi ≤ v ∧ v ≤ -pw lo)
/-- A number, and 2^p times it. -/
structure Tm (p : Int) (x y : Nat) : Prop where
  fx : Fnt x
  fy : Fnt y
  lx : x < 2 ^ 64
  ly : y < 2 ^ 64
  v : val y = val x * pw p
  z : val x = 0 → y = x
theorem Tm.zero {p : Int} {x y : Nat} (h : Tm p x y) : val y = 0 ↔ val x = 0 := by
  have hp := pw_pos p
  constructor
  · intro e
    rw [h.v] at e
    rcases Classical.em (val x = 0) with q | q
    · exact q
    · exfalso
      have : 0 < val x ∨ val x < 0 := by grind
      rcases this with g | g
      · have := Rat.mul_pos g hp; grind
      · have := Rat.mul_pos (show 0 < -val x by grind) hp; grind
  · intro e; rw [h.v, e, Rat.zero_mul]
theorem Tm.lt {p : Int} {x y x' y' : Nat} (h : Tm p x x') (k : Tm p y y') : val x < val y ↔ val x' < val y' := by
  have hp := pw_pos p
  rw [h.v, k.v]
  constructor
  · exact fun g => Rat.mul_lt_mul_of_pos_right g hp
  · intro g
    rcases rat_lt_or_le (val x) (val y) with q | q
    · exact q
    · exfalso
      have := Rat.mul_le_mul_of_nonneg_right q (Rat.le_of_lt hp)
      grind
theorem Tm.gt {p : Int} {x y x' y' : Nat} (h : Tm p x x') (k : Tm p y y') : gtF (ab x') (ab y') = gtF (ab x) (ab y) := by
  rw [gtF_val h.fy k.fy, gtF_val h.fx k.fx]
  exact decide_eq_decide.2 (k.lt h).symm
theorem Tm.ltF {p : Int} {x y x' y' : Nat} (h : Tm p x x') (k : Tm p y y') : Go.Fl.ltF (ab x') (ab y') = Go.Fl.ltF (ab x) (ab y) := by
  rw [ltF_val h.fy k.fy, ltF_val h.fx k.fx]
  exact decide_eq_decide.2 (h.lt k).symm
/-- Both, opened. -/
theorem Tm.open {p lo hi : Int} {x y : Nat} (h : Tm p x y) (hb : Md lo hi (val x)) (h0 : val x ≠ 0) (h1 : -700 ≤ lo) (p1 : -100 ≤ p) : ∃ s m e, Sz x lo hi s m e ∧ Sz y (lo + p) (hi + p) s m (e + p) := by
  have hp := pw_pos p
  rcases hb with g | g
  · exact absurd g h0
  obtain ⟨s, m, e, S⟩ := size_of h.fx g
  have g' : (pw (lo + p) ≤ val y ∧ val y ≤ pw (hi + p)) ∨ (-pw (hi + p) ≤ val y ∧ val y ≤ -pw (lo + p)) := by
    rw [h.v, pw_add, pw_add]
    rcases g with ⟨a, b⟩ | ⟨a, b⟩
    · exact Or.inl ⟨Rat.mul_le_mul_of_nonneg_right a (Rat.le_of_lt hp), Rat.mul_le_mul_of_nonneg_right b (Rat.le_of_lt hp)⟩
    · right
      have a' := Rat.mul_le_mul_of_nonneg_right a (Rat.le_of_lt hp)
      have b' := Rat.mul_le_mul_of_nonneg_right b (Rat.le_of_lt hp)
      grind
  obtain ⟨s', m', e', S'⟩ := size_of h.fy g'
  refine ⟨s, m, e, S, ?_⟩
  have hv : dv s' m' e' = dv s m (e + p) := by rw [← S'.v, h.v, S.v, dv_pw]
  obtain ⟨rfl, hm⟩ := dv_inj S'.pos S.pos hv
  obtain ⟨rfl, rfl⟩ := norm_uniq (S'.norm (by omega)) S'.lt (S.norm (by omega)) S.lt hm
  exact S'
/-- What is written of a number, and of 2^p times it. -/
theorem write_tm {s : Bool} {k : Nat} {e p lo hi : Int} (hk : 0 < k) (hb : pw lo ≤ (k : Rat) * pw e ∧ (k : Rat) * pw e ≤ pw hi) (h1 : -800 ≤ lo) (h2 : hi ≤ 800) (p1 : -100 ≤ p) (p2 : p ≤ 100) : Tm p (double.write (.number s k e)) (double.write (.number s k (e + p))) := by
  have a := log_ge hb.1
  have b := log_le hk hb.2
  have hw : ∀ e, double.write (.number s k e) = double.nearest s k e := fun e => rfl
  have f1 : Fnt (double.write (.number s k e)) := by
    rw [hw]; obtain ⟨_, _, R⟩ := rounds s (e := e) hk (by omega); exact R.fin
  have f2 : Fnt (double.write (.number s k (e + p))) := by
    rw [hw]; obtain ⟨_, _, R⟩ := rounds s (e := e + p) hk (by omega); exact R.fin
  have hv : val (double.write (.number s k (e + p))) = val (double.write (.number s k e)) * pw p := by
    rw [hw, hw]; exact nearest_scale s hk (by omega) (by omega) (by omega) (by omega)
  refine ⟨f1, f2, write_lt _ _ _, write_lt _ _ _, hv, fun h0 => ?_⟩
  exfalso
  -- a number that is not nought is not written as nought
  obtain ⟨z, hz⟩ := pw_float (E := lo) (by omega) (by omega)
  have hB : (k : Rat) * pw e ≤ pw 1000 := Rat.le_trans hb.2 (pw_mono (by omega))
  have hp := pw_pos lo
  cases s
  · have := (write_mono false k e hB (y := z)).2 (by rw [hz, dv_false]; exact hb.1)
    rw [h0, hz] at this
    grind
  · have := (write_mono true k e hB (y := neg z)).1 (by rw [vneg, hz, dv_true]; grind)
    rw [h0, vneg, hz] at this
    grind
theorem zero_read {x : Nat} {s : Bool} {m : Nat} {e : Int} (h : double.read x = .number s m e) (h0 : val x = 0) : m = 0 := by
  have hv := val_read h
  rw [h0] at hv
  rcases Nat.eq_zero_or_pos m with g | g
  · exact g
  · exfalso
    have := Rat.mul_pos (Rat.natCast_pos.2 g) (pw_pos e)
    cases s
    · rw [dv_false] at hv; grind
    · rw [dv_true] at hv; grind
theorem write_nought (s : Bool) (e d : Int) : double.write (.number s 0 e) = double.write (.number s 0 d) := by
  show double.nearest s 0 e = double.nearest s 0 d
  unfold Format.nearest
  rw [if_pos rfl, if_pos rfl]
theorem nought_fnt (s : Bool) (e : Int) : Fnt (double.write (.number s 0 e)) ∧ val (double.write (.number s 0 e)) = 0 := by
  have h : double.write (.number s 0 e) = double.word s 0 := by
    show double.nearest s 0 e = _
    unfold Format.nearest
    rw [if_pos rfl]
  rw [h]
  refine ⟨by cases s <;> (unfold Fnt; decide), val_zero s⟩
theorem nought_tm (p : Int) (s : Bool) (e d : Int) : Tm p (double.write (.number s 0 e)) (double.write (.number s 0 d)) := by
  rw [write_nought s d e]
  obtain ⟨f, v⟩ := nought_fnt s e
  exact ⟨f, f, write_lt _ _ _, write_lt _ _ _, by rw [v, Rat.zero_mul], fun _ => rfl⟩
theorem prod_some' {u t : Nat} (hu : Fnt u) (ht : Fnt t) : ∃ p, bin .mul (some u) (some t) = some p := by
  obtain ⟨s1, m1, e1, r1⟩ := fin_read hu
  obtain ⟨s3, m3, e3, r3⟩ := fin_read ht
  refine ⟨double.write (.number (s1 ^^ s3) (m1 * m3) (e1 + e3)), ?_⟩
  show double.mul u t = _
  unfold Format.mul
  rw [r1, r3]
  rfl
theorem write_md {s : Bool} {k : Nat} {e lo hi : Int} (hb : pw lo ≤ (k : Rat) * pw e ∧ (k : Rat) * pw e ≤ pw hi) (h1 : -1000 ≤ lo) (h2 : hi ≤ 1000) : Md lo hi (val (double.write (.number s k e))) := by
  have hlo : lo ≤ hi := by
    rcases Int.lt_or_le hi lo with q | q
    · exfalso; have := pw_lt q; grind
    · exact q
  obtain ⟨z, hz⟩ := pw_float (E := lo) (by omega) (by omega)
  obtain ⟨y, hy⟩ := pw_float (E := hi) (by omega) (by omega)
  have hB : (k : Rat) * pw e ≤ pw 1000 := Rat.le_trans hb.2 (pw_mono (by omega))
  right
  cases s
  · left
    have a := (write_mono false k e hB (y := z)).2 (by rw [hz, dv_false]; exact hb.1)
    have b := (write_mono false k e hB (y := y)).1 (by rw [hy, dv_false]; exact hb.2)
    rw [hz] at a; rw [hy] at b
    exact ⟨a, b⟩
  · right
    have a := (write_mono true k e hB (y := neg z)).1 (by rw [vneg, hz, dv_true]; grind)
    have b := (write_mono true k e hB (y := neg y)).2 (by rw [vneg, hy, dv_true]; grind)
    rw [vneg, hz] at a; rw [vneg, hy] at b
    exact ⟨b, a⟩
theorem same_tm {p : Int} {r : Nat} (f : Fnt r) (l : r < 2 ^ 64) (v : val r = 0) : Tm p r r := ⟨f, f, l, l, by rw [v, Rat.zero_mul], fun _ => rfl⟩
/-- A product with one number. -/
theorem mul_tm {p lo hi lo' hi' : Int} {x y t : Nat} (h : Tm p x y) (hb : Md lo hi (val x)) (h1 : -400 ≤ lo) (h2 : hi ≤ 400) (p1 : -100 ≤ p) (p2 : p ≤ 100) (ht : Fnt t) (hbt : Md lo' hi' (val t)) (h3 : -400 ≤ lo') (h4 : hi' ≤ 400) :
    ∃ r q, bin .mul (some x) (some t) = some r ∧ bin .mul (some y) (some t) = some q ∧ Tm p r q ∧ Md (lo + lo') (hi + hi') (val r) := by
  obtain ⟨s3, m3, e3, r3⟩ := fin_read ht
  obtain ⟨r, hr⟩ := prod_some' h.fx ht
  obtain ⟨q, hq⟩ := prod_some' h.fy ht
  refine ⟨r, q, hr, hq, ?_⟩
  rcases Classical.em (val x = 0) with g | g
  · have e := h.z g
    subst e
    rw [hr] at hq
    simp only [Option.some.injEq] at hq
    subst hq
    obtain ⟨s1, m1, e1, r1⟩ := fin_read h.fx
    have w := mul_word r1 r3 hr
    have hm := zero_read r1 g
    subst hm
    rw [Nat.zero_mul] at w
    obtain ⟨f, v⟩ := nought_fnt (s1 ^^ s3) (e1 + e3)
    rw [← w] at f v
    exact ⟨same_tm f (by rw [w]; exact write_lt _ _ _) v, Or.inl v⟩
  · obtain ⟨s, m, e, S, S'⟩ := h.open hb g (by omega) p1
    have w := mul_word S.rd r3 hr
    have w' := mul_word S'.rd r3 hq
    rcases hbt with k | k
    · have hm := zero_read r3 k
      subst hm
      rw [Nat.mul_zero] at w w'
      rw [w, w']
      exact ⟨nought_tm p _ _ _, Or.inl (nought_fnt _ _).2⟩
    · obtain ⟨s', m', e', T⟩ := size_of ht k
      rw [T.rd] at r3
      simp only [Datum.number.injEq] at r3
      obtain ⟨rfl, rfl, rfl⟩ := r3
      have v : ((m * m' : Nat) : Rat) * pw (e + e') = ((m : Rat) * pw e) * ((m' : Rat) * pw e') := by rw [Rat.natCast_mul, pw_add]; grind
      have n1 : 0 ≤ (m : Rat) * pw e := Rat.le_trans (Rat.le_of_lt (pw_pos _)) S.low
      have n2 : 0 ≤ (m' : Rat) * pw e' := Rat.le_trans (Rat.le_of_lt (pw_pos _)) T.low
      have B : pw (lo + lo') ≤ ((m * m' : Nat) : Rat) * pw (e + e') ∧ ((m * m' : Nat) : Rat) * pw (e + e') ≤ pw (hi + hi') := by
        rw [v, pw_add, pw_add]
        exact ⟨mul_bd (Rat.le_of_lt (pw_pos _)) S.low (Rat.le_of_lt (pw_pos _)) T.low, mul_bd n1 S.high n2 T.high⟩
      rw [show e + p + e' = e + e' + p by omega] at w'
      rw [w, w']
      exact ⟨write_tm (Nat.mul_pos S.pos T.pos) B (by omega) (by omega) p1 p2, write_md B (by omega) (by omega)⟩
/-- A quotient by one whole number. -/
theorem quo_tm {p lo hi : Int} {x y c N : Nat} (h : Tm p x y) (hb : Md lo hi (val x)) (h1 : -600 ≤ lo) (h2 : hi ≤ 600) (p1 : -100 ≤ p) (p2 : p ≤ 100) (hc : Fnt c) (vc : val c = (N : Rat)) (hN : 0 < N) (hN2 : N ≤ 1048576) :
    ∃ r q, bin .quo (some x) (some c) = some r ∧ bin .quo (some y) (some c) = some q ∧ Tm p r q ∧ Md (lo - 21) (hi + 1) (val r) := by
  have hc0 : 0 < val c := by rw [vc]; exact Rat.natCast_pos.2 hN
  obtain ⟨s3, n, j, r3⟩ := fin_read hc
  obtain ⟨rfl, hn⟩ := pos_of r3 hc0
  have quo : ∀ {x : Nat} {s : Bool} {m : Nat} {i : Int}, double.read x = .number s m i → bin .quo (some x) (some c) = some (double.write (.number s (2 * (m * 2 ^ (54 + n.log2 - m.log2) / n) + (m * 2 ^ (54 + n.log2 - m.log2) % n != 0).toNat) (i - j - (54 + n.log2 - m.log2 : Nat) - 1))) := fun {x s m i} ex => by
    show double.div x c = _
    unfold Format.div
    rw [ex, r3]
    have e4 : double.fractionBits + 2 = 54 := rfl
    simp only [Datum.quotient, e4, shl, if_neg (show ¬ n = 0 by omega), Option.map_some, Bool.xor_false]
  rcases Classical.em (val x = 0) with g | g
  · have e := h.z g
    subst e
    obtain ⟨s1, m1, e1, r1⟩ := fin_read h.fx
    have hm := zero_read r1 g
    subst hm
    have k := quo r1
    simp only [Nat.zero_mul, Nat.zero_div, Nat.mul_zero, Nat.zero_mod, Nat.zero_add] at k
    have k' : bin .quo (some y) (some c) = some (double.write (.number s1 0 (e1 - j - (54 + n.log2 - Nat.log2 0 : Nat) - 1))) := k
    obtain ⟨f, v⟩ := nought_fnt s1 (e1 - j - (54 + n.log2 - Nat.log2 0 : Nat) - 1)
    exact ⟨_, _, k', k', same_tm f (write_lt _ _ _) v, Or.inl v⟩
  · obtain ⟨s, m, e, S, S'⟩ := h.open hb g (by omega) p1
    have k := quo S.rd
    have k' := quo S'.rd
    obtain ⟨more, hmore⟩ : ∃ more, more = 54 + n.log2 - m.log2 := ⟨_, rfl⟩
    obtain ⟨D, hD⟩ : ∃ D, D = m * 2 ^ more := ⟨_, rfl⟩
    rw [← hmore, ← hD] at k k'
    obtain ⟨K, hK⟩ : ∃ K, K = 2 * (D / n) + (D % n != 0).toNat := ⟨_, rfl⟩
    rw [← hK] at k k'
    rw [show e + p - j - (more : Int) - 1 = (e - j - more - 1) + p by omega] at k'
    have hDn : n * 2 ^ 53 ≤ D := by
      have a1 : 2 ^ m.log2 ≤ m := Nat.log2_self_le (by have := S.pos; omega)
      have a2 : n < 2 ^ (n.log2 + 1) := Nat.lt_log2_self
      have a3 : m.log2 ≤ 52 := by
        have := S.lt
        rcases Nat.lt_or_ge 52 m.log2 with h1 | h1
        · have := Nat.pow_le_pow_right (show 0 < 2 by omega) (show 53 ≤ m.log2 by omega)
          omega
        · exact h1
      have a4 : 2 ^ m.log2 * 2 ^ more = 2 ^ (n.log2 + 1) * 2 ^ 53 := by
        rw [← Nat.pow_add, ← Nat.pow_add]
        exact congrArg (fun k => 2 ^ k) (by omega)
      have a5 := Nat.mul_le_mul_right (2 ^ more) a1
      have a6 := Nat.mul_le_mul_right (2 ^ 53) (Nat.le_of_lt a2)
      rw [hD]; omega
    have hq : 2 ^ 53 ≤ D / n := (Nat.le_div_iff_mul_le hn).2 (by rw [Nat.mul_comm]; exact hDn)
    have hdm := Nat.div_add_mod D n
    have hlt := Nat.mod_lt D hn
    have st : (D % n != 0).toNat ≤ 1 := Bool.toNat_le _
    have q1 : K * n ≤ 4 * D := by
      have : K ≤ 4 * (D / n) := by omega
      have a := Nat.mul_le_mul_right n this
      have b : 4 * (D / n) * n ≤ 4 * D := by rw [Nat.mul_assoc, Nat.mul_comm (D / n) n]; omega
      omega
    have q2 : D ≤ K * n := by
      have : D / n + 1 ≤ K := by omega
      have a := Nat.mul_le_mul_right n this
      rw [Nat.add_mul, Nat.mul_comm (D / n) n] at a
      omega
    obtain ⟨u, hu⟩ : ∃ u : Int, u = e - j - more - 1 := ⟨_, rfl⟩
    rw [← hu] at k k'
    have hpu := pw_pos u
    have vcn : (n : Rat) * pw j = (N : Rat) := by rw [← vc, val_read r3, dv_false]
    have hDx : 2 * ((D : Rat) * pw u) * pw j = (m : Rat) * pw e := by
      have e1 : pw u * pw j = pw (e - more - 1) := by rw [hu, ← pw_add]; exact congrArg pw (by omega)
      have e2 : pw (e - more - 1) * pw (more : Int) = pw (e - 1) := by rw [← pw_add]; exact congrArg pw (by omega)
      have e3 := pw_half e
      have : 2 * ((D : Rat) * pw u) * pw j = 2 * ((D : Rat) * (pw u * pw j)) := by grind
      rw [this, e1, hD, Rat.natCast_mul, ← pw_nat]
      grind
    have hpj := pw_pos j
    have hN' : (1 : Rat) ≤ (N : Rat) := Rat.natCast_le_natCast.2 (show 1 ≤ N by omega)
    have hN2' : (N : Rat) ≤ pw 20 := by
      have := Rat.natCast_le_natCast.2 hN2
      have e : ((1048576 : Nat) : Rat) = pw 20 := by decide +kernel
      rw [e] at this; exact this
    have hKn : (K : Rat) * pw u * (N : Rat) ≤ 2 * ((m : Rat) * pw e) := by
      have a := Rat.mul_le_mul_of_nonneg_right (Rat.natCast_le_natCast.2 q1) (Rat.le_of_lt (Rat.mul_pos hpu hpj))
      rw [Rat.natCast_mul, Rat.natCast_mul, show ((4 : Nat) : Rat) = 4 from rfl] at a
      rw [← vcn, ← hDx]
      grind
    have hKl : (m : Rat) * pw e ≤ 2 * ((K : Rat) * pw u * (N : Rat)) := by
      have a := Rat.mul_le_mul_of_nonneg_right (Rat.natCast_le_natCast.2 q2) (Rat.le_of_lt (Rat.mul_pos hpu hpj))
      rw [Rat.natCast_mul] at a
      rw [← vcn, ← hDx]
      grind
    have hK0 : 0 ≤ (K : Rat) * pw u := Rat.mul_nonneg Rat.natCast_nonneg (Rat.le_of_lt hpu)
    have B : pw (lo - 21) ≤ (K : Rat) * pw u ∧ (K : Rat) * pw u ≤ pw (hi + 1) := by
      constructor
      · have c1 : (K : Rat) * pw u * (N : Rat) ≤ (K : Rat) * pw u * pw 20 := Rat.mul_le_mul_of_nonneg_left hN2' hK0
        have c2 : pw lo = 2 * (pw (lo - 21) * pw 20) := by
          rw [← pw_add, show lo - 21 + 20 = lo - 1 by omega, ← pw_half lo]; grind
        have c3 := S.low
        exact le_of_mul (pw_pos 20) (by grind)
      · have c1 : (K : Rat) * pw u * 1 ≤ (K : Rat) * pw u * (N : Rat) := Rat.mul_le_mul_of_nonneg_left hN' hK0
        have c2 : pw (hi + 1) = 2 * pw hi := by rw [← pw_half (hi + 1), show hi + 1 - 1 = hi by omega]; grind
        have c3 := S.high
        grind
    exact ⟨_, _, k, k', write_tm (by omega) B (by omega) (by omega) p1 p2, write_md B (by omega) (by omega)⟩
end Go.Proofs.Ytfggdaebahdnfaa
/- Sums of numbers times a power of two. No program. -/
namespace Go.Proofs.Ytfggdaebahdnfaa
open Go.ChangeShapes Go.WideShapes Go.ChangeAt Go.RowKit Go.Fl Ieee

/-- A whole number of units, at most so great. -/
structure Um (x : Nat) (A : Rat) : Prop where
  up : val x ≤ A
  dn : -A ≤ val x
  units : ∃ c : Int, val x = (c : Rat) * pw (-352)
theorem int_le {c d : Int} (h : (c : Rat) ≤ (d : Rat)) : c ≤ d := by exact_mod_cast h
theorem Um.md {x : Nat} {A : Rat} (h : Um x A) (hA : A ≤ pw 340) : Md (-352) 340 (val x) := by
  obtain ⟨c, hc⟩ := h.units
  have hp := pw_pos (-352)
  have u := h.up
  have d := h.dn
  rcases Int.lt_trichotomy c 0 with g | g | g
  · right; right
    refine ⟨by grind, ?_⟩
    have h1 : (c : Rat) ≤ ((-1 : Int) : Rat) := by exact_mod_cast (show c ≤ -1 by omega)
    have h2 := Rat.mul_le_mul_of_nonneg_right h1 (Rat.le_of_lt hp)
    rw [← hc] at h2
    have e : ((-1 : Int) : Rat) = -1 := rfl
    rw [e] at h2
    grind
  · left; rw [hc, g]; grind
  · right; left
    refine ⟨?_, by grind⟩
    have h1 : ((1 : Int) : Rat) ≤ (c : Rat) := by exact_mod_cast (show 1 ≤ c by omega)
    have h2 := Rat.mul_le_mul_of_nonneg_right h1 (Rat.le_of_lt hp)
    rw [← hc] at h2
    have e : ((1 : Int) : Rat) = 1 := rfl
    rw [e] at h2
    grind
/-- What is nearest to a whole number of units is one. -/
theorem um_round {ξ : Rat} {r : Nat} {c : Int} (hc : ξ = (c : Rat) * pw (-352)) (sd : ∀ z : Nat, (ξ ≤ val z → val r ≤ val z) ∧ (val z ≤ ξ → val z ≤ val r)) : ∃ c : Int, val r = (c : Rat) * pw (-352) := by
  have hp := pw_pos (-352)
  rcases Nat.lt_or_ge (2 ^ 52) c.natAbs with g | g
  · -- great: the float itself is a whole number of units
    obtain ⟨z, hz⟩ := pw_float (E := -300) (by omega) (by omega)
    have e300 : pw (-300) = ((2 ^ 52 : Nat) : Rat) * pw (-352) := by rw [← pw_nat, ← pw_add]; rfl
    rcases Int.lt_or_le c 0 with q | q
    · have a : ξ ≤ val (neg z) := by
        rw [vneg, hz, e300, hc]
        have h1 : (c : Rat) ≤ ((-(2 ^ 52 : Nat) : Int) : Rat) := by exact_mod_cast (show c ≤ -((2 ^ 52 : Nat) : Int) by omega)
        have h2 := Rat.mul_le_mul_of_nonneg_right h1 (Rat.le_of_lt hp)
        have e : ((-(2 ^ 52 : Nat) : Int) : Rat) * pw (-352) = -(((2 ^ 52 : Nat) : Rat) * pw (-352)) := by rw [Rat.intCast_neg]; grind
        rw [e] at h2; exact h2
      have b := (sd (neg z)).1 a
      rw [vneg, hz] at b
      obtain ⟨k, hk⟩ := whole_units (y := r) (last := -352) (Y := -val r) (by omega) (Or.inr (by grind)) (by have := pw_pos (-300); grind) (Or.inr (by rw [show (-352 : Int) + 52 = -300 by omega]; grind))
      exact ⟨-(k : Int), by rw [Rat.intCast_neg]; have : ((k : Int) : Rat) = (k : Rat) := rfl; rw [this]; grind⟩
    · have a : val z ≤ ξ := by
        rw [hz, e300, hc]
        have h1 : (((2 ^ 52 : Nat) : Int) : Rat) ≤ (c : Rat) := by exact_mod_cast (show ((2 ^ 52 : Nat) : Int) ≤ c by omega)
        exact Rat.mul_le_mul_of_nonneg_right h1 (Rat.le_of_lt hp)
      have b := (sd z).2 a
      rw [hz] at b
      obtain ⟨k, hk⟩ := whole_units (y := r) (last := -352) (Y := val r) (by omega) (Or.inl rfl) (by have := pw_pos (-300); grind) (Or.inr (by rw [show (-352 : Int) + 52 = -300 by omega]; exact b))
      exact ⟨(k : Int), hk⟩
  · -- small: exact
    obtain ⟨_, w⟩ := exact_write (decide (c < 0)) (K := c.natAbs) (e := -352) (Nat.lt_of_le_of_lt g (by decide)) (by omega) (by
      have h1 := Rat.mul_le_mul_of_nonneg_right (Rat.natCast_le_natCast.2 g) (Rat.le_of_lt hp)
      rw [← pw_nat, ← pw_add] at h1
      exact Rat.le_trans h1 (pw_mono (by omega)))
    have e : dv (decide (c < 0)) c.natAbs (-352) = ξ := by
      rw [hc]
      rcases Int.lt_or_le c 0 with q | q
      · rw [decide_eq_true q, dv_true]
        obtain ⟨N, hN⟩ : ∃ N : Nat, c.natAbs = N := ⟨_, rfl⟩
        have h1 : c = -(N : Int) := by omega
        have h2 : (c : Rat) = -(N : Rat) := by rw [h1, Rat.intCast_neg]; rfl
        rw [hN, h2]; grind
      · rw [decide_eq_false (by omega), dv_false]
        obtain ⟨N, hN⟩ : ∃ N : Nat, c.natAbs = N := ⟨_, rfl⟩
        have h1 : c = (N : Int) := by omega
        have h2 : (c : Rat) = (N : Rat) := by rw [h1]; rfl
        rw [hN, h2]
    rw [e] at w
    have k1 := (sd _).1 (by rw [w]; exact Rat.le_refl)
    have k2 := (sd _).2 (by rw [w]; exact Rat.le_refl)
    rw [w] at k1 k2
    exact ⟨c, by rw [← hc]; exact Rat.le_antisymm k1 k2⟩
theorem add_word {x y : Nat} {s t : Bool} {m n : Nat} {i j : Int} (hx : double.read x = .number s m i) (hy : double.read y = .number t n j) : bin .add (some x) (some y) = some (double.write (.number (if signed s m (i - min i j).toNat + signed t n (j - min i j).toNat = 0 then s && t else decide (signed s m (i - min i j).toNat + signed t n (j - min i j).toNat < 0)) (signed s m (i - min i j).toNat + signed t n (j - min i j).toNat).natAbs (min i j))) := by
  show double.add x y = _
  unfold Format.add
  rw [hx, hy]
  rfl
/-- A sum. -/
theorem add_tm {p : Int} {a a' b b' : Nat} {A B : Rat} (h : Tm p a a') (k : Tm p b b') (ua : Um a A) (ub : Um b B) (hC : ∃ z, val z = A + B) (hAB : A + B ≤ pw 330) (p1 : -100 ≤ p) (p2 : p ≤ 100) (a0 : 0 ≤ A) (b0 : 0 ≤ B) :
    ∃ r r', bin .add (some a) (some b) = some r ∧ bin .add (some a') (some b') = some r' ∧ Tm p r r' ∧ Um r (A + B) := by
  obtain ⟨s, m, i, ra⟩ := fin_read h.fx
  obtain ⟨t, n, j, rb⟩ := fin_read k.fx
  obtain ⟨s', m', i', ra'⟩ := fin_read h.fy
  obtain ⟨t', n', j', rb'⟩ := fin_read k.fy
  have hr := add_word ra rb
  have hr' := add_word ra' rb'
  have p340 : pw 330 ≤ pw 340 := pw_mono (by omega)
  have p1000 : pw 340 ≤ pw 1000 := pw_mono (by omega)
  have mda := ua.md (by grind)
  have mdb := ub.md (by grind)
  have bd1 : val a + val b ≤ pw 1000 := by have := ua.up; have := ub.up; grind
  have bd2 : -pw 1000 ≤ val a + val b := by have := ua.dn; have := ub.dn; grind
  obtain ⟨r, er⟩ : ∃ r, bin .add (some a) (some b) = some r := ⟨_, hr⟩
  obtain ⟨r', er'⟩ : ∃ r, bin .add (some a') (some b') = some r := ⟨_, hr'⟩
  have wr : r < 2 ^ 64 := by
    rw [er] at hr; simp only [Option.some.injEq] at hr; rw [hr]; exact write_lt _ _ _
  have wr' : r' < 2 ^ 64 := by
    rw [er'] at hr'; simp only [Option.some.injEq] at hr'; rw [hr']; exact write_lt _ _ _
  have sd : ∀ z : Nat, (val a + val b ≤ val z → val r ≤ val z) ∧ (val z ≤ val a + val b → val z ≤ val r) := fun z => add_mono h.fx k.fx er bd1 bd2
  have fr : Fnt r := (add_near h.fx k.fx er bd1 bd2 Rat.le_refl).1
  have um : Um r (A + B) := by
    obtain ⟨z, hz⟩ := hC
    obtain ⟨c, hc⟩ := ua.units
    obtain ⟨d, hd⟩ := ub.units
    refine ⟨?_, ?_, um_round (ξ := val a + val b) (c := c + d) (by rw [hc, hd, Rat.intCast_add]; grind) sd⟩
    · have := (sd z).1 (by rw [hz]; have := ua.up; have := ub.up; grind)
      rw [hz] at this; exact this
    · have := (sd (neg z)).2 (by rw [vneg, hz]; have := ua.dn; have := ub.dn; grind)
      rw [vneg, hz] at this; exact this
  refine ⟨r, r', er, er', ?_, um⟩
  have hpp := pw_pos p
  have pb : ∀ v : Rat, -pw 340 ≤ v → v ≤ pw 340 → v * pw p ≤ pw 500 ∧ -pw 500 ≤ v * pw p := fun v l u => by
    have q := pw_mono p2
    have c1 := Rat.mul_le_mul_of_nonneg_right u (Rat.le_of_lt hpp)
    have c2 := Rat.mul_le_mul_of_nonneg_right l (Rat.le_of_lt hpp)
    have c3 : pw 340 * pw p ≤ pw 500 := by rw [← pw_add]; exact pw_mono (by omega)
    constructor <;> grind
  rcases Classical.em (val a = 0) with za | za
  · have ea := h.z za
    subst ea
    rcases Classical.em (val b = 0) with zb | zb
    · have eb := k.z zb
      subst eb
      rw [er] at er'
      simp only [Option.some.injEq] at er'
      subst er'
      have e0 : val a' + val b' = 0 := by rw [za, zb]; grind
      have k1 := (sd 0).1 (by rw [e0, val0]; exact Rat.le_refl)
      have k2 := (sd 0).2 (by rw [e0, val0]; exact Rat.le_refl)
      rw [val0] at k1 k2
      exact same_tm fr wr (Rat.le_antisymm k1 k2)
    · have v1 : val r = val b := by
        have e0 : val a' + val b = val b := by rw [za]; grind
        rw [e0] at sd
        exact Rat.le_antisymm ((sd b).1 Rat.le_refl) ((sd b).2 Rat.le_refl)
      have e1 : val a' + val b' = val b' := by rw [za]; grind
      have q := pb (val b) (by have := ub.dn; grind) (by have := ub.up; grind)
      rw [← k.v] at q
      have p5 : pw 500 ≤ pw 1000 := pw_mono (by omega)
      have mono := fun z => add_mono h.fy k.fy er' (by rw [e1]; grind) (by rw [e1]; grind) (z := z)
      have f' : Fnt r' := (add_near h.fy k.fy er' (B := pw 1000) (by rw [e1]; grind) (by rw [e1]; grind) Rat.le_refl).1
      have v2 : val r' = val b' := by
        rw [e1] at mono
        exact Rat.le_antisymm ((mono b').1 Rat.le_refl) ((mono b').2 Rat.le_refl)
      exact ⟨fr, f', wr, wr', by rw [v1, v2]; exact k.v, fun h0 => by rw [v1] at h0; exact absurd h0 zb⟩
  · rcases Classical.em (val b = 0) with zb | zb
    · have eb := k.z zb
      subst eb
      have v1 : val r = val a := by
        have e0 : val a + val b' = val a := by rw [zb]; grind
        rw [e0] at sd
        exact Rat.le_antisymm ((sd a).1 Rat.le_refl) ((sd a).2 Rat.le_refl)
      have e1 : val a' + val b' = val a' := by rw [zb]; grind
      have q := pb (val a) (by have := ua.dn; grind) (by have := ua.up; grind)
      rw [← h.v] at q
      have p5 : pw 500 ≤ pw 1000 := pw_mono (by omega)
      have mono := fun z => add_mono h.fy k.fy er' (by rw [e1]; grind) (by rw [e1]; grind) (z := z)
      have f' : Fnt r' := (add_near h.fy k.fy er' (B := pw 1000) (by rw [e1]; grind) (by rw [e1]; grind) Rat.le_refl).1
      have v2 : val r' = val a' := by
        rw [e1] at mono
        exact Rat.le_antisymm ((mono a').1 Rat.le_refl) ((mono a').2 Rat.le_refl)
      exact ⟨fr, f', wr, wr', by rw [v1, v2]; exact h.v, fun h0 => by rw [v1] at h0; exact absurd h0 za⟩
    · obtain ⟨s1, m1, e1, S1, S1'⟩ := h.open mda za (by omega) p1
      obtain ⟨s2, m2, e2, S2, S2'⟩ := k.open mdb zb (by omega) p1
      have w := add_word S1.rd S2.rd
      have w' := add_word S1'.rd S2'.rd
      have mn : min (e1 + p) (e2 + p) = min e1 e2 + p := by omega
      rw [mn, show e1 + p - (min e1 e2 + p) = e1 - min e1 e2 by omega, show e2 + p - (min e1 e2 + p) = e2 - min e1 e2 by omega] at w'
      obtain ⟨total, ht⟩ : ∃ total, total = signed s1 m1 (e1 - min e1 e2).toNat + signed s2 m2 (e2 - min e1 e2).toNat := ⟨_, rfl⟩
      rw [← ht] at w w'
      rw [er] at w
      rw [er'] at w'
      simp only [Option.some.injEq] at w w'
      rcases Classical.em (total = 0) with g | g
      · rw [if_pos g, g] at w w'
        rw [w, w']
        exact nought_tm p _ _ _
      · rw [if_neg g] at w w'
        have hk : 0 < total.natAbs := by omega
        rw [w, w']
        refine write_tm (lo := -352) (hi := 340) hk ?_ (by omega) (by omega) p1 p2
        obtain ⟨g', k', e, hd⟩ := sum_val (s := s1) (t := s2) (m := m1) (n := m2) (i := e1) (j := e2)
        have e' : (Datum.number s1 m1 e1).sum (.number s2 m2 e2) = some (.number (if total = 0 then s1 && s2 else decide (total < 0)) total.natAbs (min e1 e2)) := by rw [ht]; rfl
        rw [e'] at e
        simp only [Option.some.injEq, Datum.number.injEq, and_true] at e
        obtain ⟨_, rfl⟩ := e
        rw [← S1.v, ← S2.v] at hd
        have hpos : 0 < (total.natAbs : Rat) * pw (min e1 e2) := Rat.mul_pos (Rat.natCast_pos.2 hk) (pw_pos _)
        obtain ⟨c, hc⟩ := ua.units
        obtain ⟨d, hdd⟩ := ub.units
        have hs : val a + val b = ((c + d : Int) : Rat) * pw (-352) := by rw [hc, hdd, Rat.intCast_add]; grind
        have u1 := ua.up
        have u2 := ub.up
        have d1 := ua.dn
        have d2 := ub.dn
        have hu := pw_pos (-352)
        cases g'
        · rw [dv_false] at hd
          refine ⟨?_, by grind⟩
          rw [hd, hs]
          have h1 : (1 : Int) ≤ c + d := by
            rcases Int.lt_or_le (c + d) 1 with q | q
            · exfalso
              have h2 : ((c + d : Int) : Rat) ≤ ((0 : Int) : Rat) := by exact_mod_cast (show c + d ≤ 0 by omega)
              have h3 := Rat.mul_le_mul_of_nonneg_right h2 (Rat.le_of_lt hu)
              rw [← hs, show ((0 : Int) : Rat) = 0 from rfl, Rat.zero_mul] at h3
              grind
            · exact q
          have h2 : ((1 : Int) : Rat) ≤ ((c + d : Int) : Rat) := by exact_mod_cast h1
          have h3 := Rat.mul_le_mul_of_nonneg_right h2 (Rat.le_of_lt hu)
          rw [show ((1 : Int) : Rat) = 1 from rfl, Rat.one_mul] at h3
          exact h3
        · rw [dv_true] at hd
          refine ⟨?_, by grind⟩
          have hs2 : (total.natAbs : Rat) * pw (min e1 e2) = ((-(c + d) : Int) : Rat) * pw (-352) := by rw [Rat.intCast_neg]; grind
          rw [hs2]
          have h1 : (1 : Int) ≤ -(c + d) := by
            rcases Int.lt_or_le (-(c + d)) 1 with q | q
            · exfalso
              have h2 : ((-(c + d) : Int) : Rat) ≤ ((0 : Int) : Rat) := by exact_mod_cast (show -(c + d) ≤ 0 by omega)
              have h3 := Rat.mul_le_mul_of_nonneg_right h2 (Rat.le_of_lt hu)
              rw [← hs2, show ((0 : Int) : Rat) = 0 from rfl, Rat.zero_mul] at h3
              grind
            · exact q
          have h2 : ((1 : Int) : Rat) ≤ ((-(c + d) : Int) : Rat) := by exact_mod_cast h1
          have h3 := Rat.mul_le_mul_of_nonneg_right h2 (Rat.le_of_lt hu)
          rw [show ((1 : Int) : Rat) = 1 from rfl, Rat.one_mul] at h3
          exact h3
end Go.Proofs.Ytfggdaebahdnfaa
