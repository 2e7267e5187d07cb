/- A number times a power of two is rounded as the number is. No program is spoken of here. -/
import Derived.Test.YtcocliilapeelaaBa
namespace Go.Proofs.Ytcocliilapeelaa
open Go.Fl Ieee Go.RowKit

theorem rle {a b : Rat} (h : a = b) : a ≤ b := by rw [h]; exact Rat.le_refl

/-- What is kept of a number of so many digits. -/
def keptOf (s : Bool) (m : Nat) : Nat := Toward.even.cut s (m * 2 ^ (52 - m.log2)) (m.log2 - 52)
theorem nearest_val (s : Bool) {m : Nat} {e : Int} (hm : 0 < m) (hbig : e + m.log2 ≤ 1022) (hlow : -1022 ≤ e + m.log2) : val (double.nearest s m e) = dv s (keptOf s m) (e + m.log2 - 52) := by
  have key : ∀ last, max (e + (m.log2 : Int) - 52) (-1074) = last → val (double.nearest s m e) = dv s (Toward.even.cut s (m * 2 ^ (e - last).toNat) (last - e).toNat) last := by
    intro last hl
    have e1 : double.leastPlace = -1074 := rfl
    have e2 : double.binade = 2 ^ 52 := rfl
    have e3 : double.infRung = 0x7ff0000000000000 := rfl
    have e4 : double.fractionBits = 52 := rfl
    have hlog : 2 ^ m.log2 ≤ m := Nat.log2_self_le (by omega)
    have hlog2 : m < 2 ^ (m.log2 + 1) := Nat.lt_log2_self
    unfold Format.nearest
    rw [if_neg (by omega)]
    simp only [e1, e2, e3, e4, shl]
    rw [show max (e + (m.log2 : Int) - ((52 : Nat) : Int)) (-1074) = last from hl]
    have hmpos : (0 : Rat) < m := Rat.natCast_pos.2 hm
    -- the shifted number, and its bounds
    obtain ⟨n, hn⟩ : ∃ n, n = m * 2 ^ (e - last).toNat := ⟨_, rfl⟩
    obtain ⟨d, hd⟩ : ∃ d, d = (last - e).toNat := ⟨_, rfl⟩
    rw [← hn, ← hd]
    obtain ⟨k, hk⟩ : ∃ k, k = Toward.even.cut s n d := ⟨_, rfl⟩
    have herr := cut_err s n d
    rw [← hk] at herr ⊢
    have hpd := Nat.two_pow_pos d
    -- n below 2^(53 + d), and from 2^(52 + d) on where it is no subnormal number
    have hnd : n < 2 ^ (53 + d) := by
      rcases Int.le_total e last with h | h
      · have : (e - last).toNat = 0 := by omega
        rw [hn, this, Nat.pow_zero, Nat.mul_one]
        exact Nat.lt_of_lt_of_le hlog2 (Nat.pow_le_pow_right (by omega) (by omega))
      · have h0 : d = 0 := by omega
        rw [hn, h0, Nat.add_zero]
        have : 2 ^ (m.log2 + 1) * 2 ^ (e - last).toNat ≤ 2 ^ 53 := by
          rw [← Nat.pow_add]; exact Nat.pow_le_pow_right (by omega) (by omega)
        exact Nat.lt_of_lt_of_le (Nat.mul_lt_mul_of_pos_right hlog2 (Nat.two_pow_pos _)) this
    have hnl : last = -1074 ∨ 2 ^ (52 + d) ≤ n := by
      rcases Int.le_total (e + m.log2 - 52) (-1074) with h | h
      · left; omega
      · right
        rcases Int.le_total e last with h' | h'
        · have h0 : (e - last).toNat = 0 := by omega
          rw [hn, h0, Nat.pow_zero, Nat.mul_one]
          exact Nat.le_trans (Nat.pow_le_pow_right (by omega) (by omega)) hlog
        · have h0 : d = 0 := by omega
          rw [hn, h0, Nat.add_zero]
          have : 2 ^ 52 ≤ 2 ^ m.log2 * 2 ^ (e - last).toNat := by
            rw [← Nat.pow_add]; exact Nat.pow_le_pow_right (by omega) (by omega)
          exact Nat.le_trans this (Nat.mul_le_mul_right _ hlog)
    have hk53 : k ≤ 2 ^ 53 := by
      have a : 2 ^ (53 + d) = 2 ^ 53 * 2 ^ d := Nat.pow_add _ _ _
      rcases Nat.lt_or_ge (2 ^ 53) k with h | h
      · exfalso
        have := Nat.mul_le_mul_right (2 ^ d) h
        have e : (2 ^ 53).succ * 2 ^ d = 2 ^ 53 * 2 ^ d + 2 ^ d := Nat.succ_mul _ _
        generalize 2 ^ 53 * 2 ^ d = A at *
        generalize k * 2 ^ d = B at *
        omega
      · exact h
    have hk52 : last = -1074 ∨ 2 ^ 52 ≤ k := by
      rcases hnl with h | h
      · exact Or.inl h
      · right
        have a : 2 ^ (52 + d) = 2 ^ 52 * 2 ^ d := Nat.pow_add _ _ _
        rcases Nat.lt_or_ge k (2 ^ 52) with h' | h'
        · exfalso
          have := Nat.mul_le_mul_right (2 ^ d) (show k + 1 ≤ 2 ^ 52 from h')
          have e : (k + 1) * 2 ^ d = k * 2 ^ d + 2 ^ d := Nat.succ_mul _ _
          generalize 2 ^ 52 * 2 ^ d = A at *
          generalize k * 2 ^ d = B at *
          omega
        · exact h'
    have hlast : -1074 ≤ last ∧ last ≤ 970 := by omega
    obtain ⟨L, hL⟩ := Int.eq_ofNat_of_zero_le (show 0 ≤ last - -1074 by omega)
    have hLt : (last - -1074).toNat = L := by omega
    rw [hLt]
    have hr : L * 2 ^ 52 + k < 0x7ff0000000000000 := by omega
    rw [Nat.min_eq_left (by omega)]
    have hmag : mag (L * 2 ^ 52 + k) = k * 2 ^ L := mag_rung hk53 (by omega)
    have hpl : pw last = ((2 ^ L : Nat) : Rat) * pw (-1074) := by
      rw [pw_split hlast.1, show (last - -1074).toNat = L by omega]
    rw [val_word s (by omega), hmag]
    unfold dv
    rw [sgn_mul, Rat.intCast_mul, Rat.mul_assoc, hpl]
    rfl
  rw [key (e + m.log2 - 52) (by omega)]
  unfold keptOf
  rw [show (e - (e + (m.log2 : Int) - 52)).toNat = 52 - m.log2 by omega, show (e + (m.log2 : Int) - 52 - e).toNat = m.log2 - 52 by omega]
theorem dv_pw (s : Bool) (m : Nat) (e c : Int) : dv s m (e + c) = dv s m e * pw c := by
  unfold dv
  rw [pw_add, Rat.mul_assoc]
theorem nearest_scale (s : Bool) {m : Nat} {e c : Int} (hm : 0 < m) (h1 : e + m.log2 ≤ 1022) (h2 : -1022 ≤ e + m.log2) (h3 : e + c + m.log2 ≤ 1022) (h4 : -1022 ≤ e + c + m.log2) : val (double.nearest s m (e + c)) = val (double.nearest s m e) * pw c := by
  rw [nearest_val s hm h1 h2, nearest_val s hm h3 h4, show e + c + (m.log2 : Int) - 52 = (e + m.log2 - 52) + c by omega, dv_pw]
theorem log_ge {m : Nat} {e N : Int} (h : pw N ≤ (m : Rat) * pw e) : N ≤ e + m.log2 := by
  have h1 : m < 2 ^ (m.log2 + 1) := Nat.lt_log2_self
  have h2 : (m : Rat) < ((2 ^ (m.log2 + 1) : Nat) : Rat) := Rat.natCast_lt_natCast.2 h1
  have h3 := Rat.mul_lt_mul_of_pos_right h2 (pw_pos e)
  rw [← pw_nat, ← pw_add] at h3
  rcases Int.lt_or_le (e + m.log2) N with h4 | h4
  · exfalso
    have h5 := pw_mono (show ((m.log2 + 1 : Nat) : Int) + e ≤ N by omega)
    grind
  · exact h4
theorem read_norm {x : Nat} {s : Bool} {m : Nat} {e : Int} (h : double.read x = .number s m e) : e = -1074 ∨ 2 ^ 52 ≤ m := by
  unfold Format.read at h
  have e1 : double.signWeight = 2 ^ 63 := rfl
  have e2 : double.binade = 2 ^ 52 := rfl
  have e3 : double.infRung = 0x7ff0000000000000 := rfl
  have e4 : double.leastPlace = -1074 := rfl
  simp only [e1, e2, e3, e4] at h
  split at h
  · left; simp at h; omega
  · split at h
    · right; simp at h; omega
    · split at h <;> cases h
/-- A number that is neither too small nor too great, opened. -/
structure Sz (x : Nat) (lo hi : Int) (s : Bool) (m : Nat) (e : Int) : Prop where
  fin : Fnt x
  rd : double.read x = .number s m e
  pos : 0 < m
  lt : m < 2 ^ 53
  low : pw lo ≤ (m : Rat) * pw e
  high : (m : Rat) * pw e ≤ pw hi
  v : val x = dv s m e
theorem size_of {x : Nat} {lo hi : Int} (hx : Fnt x) (h : (pw lo ≤ val x ∧ val x ≤ pw hi) ∨ (-pw hi ≤ val x ∧ val x ≤ -pw lo)) : ∃ s m e, Sz x lo hi s m e := by
  obtain ⟨s, m, e, er⟩ := fin_read hx
  have vx := val_read er
  have hp := pw_pos lo
  have h0 : 0 ≤ (m : Rat) * pw e := Rat.mul_nonneg Rat.natCast_nonneg (Rat.le_of_lt (pw_pos e))
  have hh : pw lo ≤ (m : Rat) * pw e ∧ (m : Rat) * pw e ≤ pw hi := by
    rw [vx] at h
    cases s
    · rw [dv_false] at h
      grind
    · rw [dv_true] at h
      grind
  refine ⟨s, m, e, hx, er, ?_, read_lt er, hh.1, hh.2, vx⟩
  rcases Nat.eq_zero_or_pos m with h1 | h1
  · exfalso
    subst h1
    have := hh.1
    have e0 : ((0 : Nat) : Rat) * pw e = 0 := by rw [show ((0 : Nat) : Rat) = 0 from rfl, Rat.zero_mul]
    rw [e0] at this
    grind
  · exact h1
theorem Sz.place {x : Nat} {lo hi : Int} {s : Bool} {m : Nat} {e : Int} (h : Sz x lo hi s m e) : lo - 53 < e := by
  have h2 : (m : Rat) < ((2 ^ 53 : Nat) : Rat) := Rat.natCast_lt_natCast.2 h.lt
  have h3 := Rat.mul_lt_mul_of_pos_right h2 (pw_pos e)
  have e53 : ((2 ^ 53 : Nat) : Rat) = pw 53 := (pw_nat 53).symm
  rw [e53, ← pw_add] at h3
  rcases Int.lt_or_le (lo - 53) e with h4 | h4
  · exact h4
  · exfalso
    have h5 := pw_mono (show 53 + e ≤ lo by omega)
    have := h.low
    grind
theorem Sz.norm {x : Nat} {lo hi : Int} {s : Bool} {m : Nat} {e : Int} (h : Sz x lo hi s m e) (hl : -1000 ≤ lo) : 2 ^ 52 ≤ m := by
  rcases read_norm h.rd with h1 | h1
  · have := h.place
    omega
  · exact h1
/-- A number times a power of two: exact. -/
theorem mul_pw {x f r : Nat} {lo hi c : Int} {s : Bool} {m : Nat} {e : Int} (h : Sz x lo hi s m e) (hf : Fnt f) (vf : val f = pw c) (hl : -800 ≤ lo) (hh : hi ≤ 800) (h1 : -100 ≤ c) (h2 : c ≤ 100) (hr : bin .mul (some x) (some f) = some r) : Fnt r ∧ val r = val x * pw c := by
  have hp := h.place
  have hb : (m : Rat) * pw (e + c) ≤ pw 1000 := by
    rw [pw_add, ← Rat.mul_assoc]
    have a1 := Rat.mul_le_mul_of_nonneg_right h.high (Rat.le_of_lt (pw_pos c))
    rw [← pw_add] at a1
    have a2 := pw_mono (show hi + c ≤ 1000 by omega)
    grind
  obtain ⟨fy, vy⟩ := exact_write s (K := m) (e := e + c) h.lt (by omega) hb
  have ev : val x * val f = val (double.write (.number s m (e + c))) := by rw [vy, dv_pw, h.v, vf]
  have b1 : val x * val f ≤ pw 1000 ∧ -pw 1000 ≤ val x * val f := by
    rw [ev, vy]
    have h0 : 0 ≤ (m : Rat) * pw (e + c) := Rat.mul_nonneg Rat.natCast_nonneg (Rat.le_of_lt (pw_pos _))
    have h1000 := pw_pos 1000
    cases s
    · rw [dv_false]; grind
    · rw [dv_true]; grind
  refine ⟨(mul_near h.fin hf hr (B := pw 1000) b1.1 b1.2 Rat.le_refl).1, ?_⟩
  have mono := mul_mono h.fin hf hr b1.1 b1.2 (z := double.write (.number s m (e + c)))
  rw [← vf, ev]
  exact Rat.le_antisymm (mono.1 (by rw [ev]; exact Rat.le_refl)) (mono.2 (by rw [ev]; exact Rat.le_refl))
theorem norm_uniq {m n : Nat} {e d : Int} (hm : 2 ^ 52 ≤ m) (hm2 : m < 2 ^ 53) (hn : 2 ^ 52 ≤ n) (hn2 : n < 2 ^ 53) (h : (m : Rat) * pw e = (n : Rat) * pw d) : m = n ∧ e = d := by
  have key : ∀ (m n : Nat) (e d : Int), 2 ^ 52 ≤ m → n < 2 ^ 53 → (m : Rat) * pw e = (n : Rat) * pw d → e ≤ d := by
    intro m n e d hm hn h
    rcases Int.lt_or_le d e with h1 | h1
    · exfalso
      rw [pw_split (show d ≤ e by omega), ← Rat.mul_assoc, ← Rat.natCast_mul] at h
      have h2 : ((m * 2 ^ (e - d).toNat : Nat) : Rat) = (n : Rat) := by
        have hp := pw_pos d
        have a := le_of_mul hp (rle h)
        have b := le_of_mul hp (rle h.symm)
        exact Rat.le_antisymm a b
      have h3 := Rat.natCast_inj.1 h2
      have h4 : 2 ^ 1 ≤ 2 ^ (e - d).toNat := Nat.pow_le_pow_right (by omega) (by omega)
      have h5 := Nat.mul_le_mul hm h4
      omega
    · exact h1
  have e1 := key m n e d hm hn2 h
  have e2 := key n m d e hn hm2 h.symm
  have e3 : e = d := by omega
  subst e3
  refine ⟨?_, rfl⟩
  have hp := pw_pos e
  exact Rat.natCast_inj.1 (Rat.le_antisymm (le_of_mul hp (rle h)) (le_of_mul hp (rle h.symm)))
theorem mul_bd {a b c d : Rat} (ha : 0 ≤ a) (hb : a ≤ b) (hc : 0 ≤ c) (hd : c ≤ d) : a * c ≤ b * d :=
  Rat.le_trans (Rat.mul_le_mul_of_nonneg_left hd ha) (Rat.mul_le_mul_of_nonneg_right hb (Rat.le_trans hc hd))
theorem dv_inj {s t : Bool} {m n : Nat} {e d : Int} (hm : 0 < m) (hn : 0 < n) (h : dv s m e = dv t n d) : s = t ∧ (m : Rat) * pw e = (n : Rat) * pw d := by
  have h1 : 0 < (m : Rat) * pw e := Rat.mul_pos (Rat.natCast_pos.2 hm) (pw_pos e)
  have h2 : 0 < (n : Rat) * pw d := Rat.mul_pos (Rat.natCast_pos.2 hn) (pw_pos d)
  cases s <;> cases t <;> simp only [dv_false, dv_true] at h
  · exact ⟨rfl, h⟩
  · exfalso; grind
  · exfalso; grind
  · exact ⟨rfl, by grind⟩
theorem mul_bits {x y : Nat} {s t : Bool} {m n : Nat} {e d : Int} (hx : double.read x = .number s m e) (hy : double.read y = .number t n d) {r : Nat} (h : bin .mul (some x) (some y) = some r) : r = double.nearest (s ^^ t) (m * n) (e + d) := by
  have h1 : double.mul x y = some r := h
  unfold Format.mul at h1
  rw [hx, hy] at h1
  simp only [Datum.product, Option.map_some, Option.some.injEq] at h1
  exact h1.symm
/-- A product with a number, and with the number times a power of two. -/
theorem scaled {h W f p wf q p' : Nat} {c : Int} {s1 s2 : Bool} {m1 m2 : Nat} {e1 e2 : Int} (hh : Sz h (-50) 3 s1 m1 e1) (hW : Sz W (-333) 333 s2 m2 e2) (hf : Fnt f) (vf : val f = pw c) (h1 : -100 ≤ c) (h2 : c ≤ 100)
    (ep : bin .mul (some h) (some W) = some p) (ew : bin .mul (some W) (some f) = some wf) (eq : bin .mul (some h) (some wf) = some q) (ep' : bin .mul (some p) (some f) = some p') : Fnt q ∧ Fnt p' ∧ val q = val p' := by
  obtain ⟨fw, vw⟩ := mul_pw hW hf vf (by omega) (by omega) h1 h2 ew
  have pos2 : 0 < (m2 : Rat) * pw e2 := Rat.mul_pos (Rat.natCast_pos.2 hW.pos) (pw_pos e2)
  -- the number times a power of two, opened
  have hsz : (pw (-433) ≤ val wf ∧ val wf ≤ pw 433) ∨ (-pw 433 ≤ val wf ∧ val wf ≤ -pw (-433)) := by
    rw [vw, hW.v, ← dv_pw]
    have a1 := Rat.mul_le_mul_of_nonneg_right hW.high (Rat.le_of_lt (pw_pos c))
    have a2 := Rat.mul_le_mul_of_nonneg_right hW.low (Rat.le_of_lt (pw_pos c))
    rw [← pw_add, Rat.mul_assoc, ← pw_add] at a1 a2
    have a3 := pw_mono (show 333 + c ≤ 433 by omega)
    have a4 := pw_mono (show -433 ≤ -333 + c by omega)
    cases s2
    · rw [dv_false]; left; grind
    · rw [dv_true]; right; grind
  obtain ⟨s3, m3, e3, h3⟩ := size_of fw hsz
  have hv : dv s3 m3 e3 = dv s2 m2 (e2 + c) := by rw [← h3.v, vw, hW.v, dv_pw]
  obtain ⟨rfl, hm⟩ := dv_inj h3.pos hW.pos hv
  obtain ⟨rfl, rfl⟩ := norm_uniq (h3.norm (by omega)) h3.lt (hW.norm (by omega)) hW.lt hm
  -- the two products
  have bp := mul_bits hh.rd hW.rd ep
  have bq := mul_bits hh.rd h3.rd eq
  have hpos : 0 < m1 * m3 := Nat.mul_pos hh.pos hW.pos
  have hlo : pw (-383) ≤ ((m1 * m3 : Nat) : Rat) * pw (e1 + e2) := by
    have a := mul_bd (Rat.le_of_lt (pw_pos (-50))) hh.low (Rat.le_of_lt (pw_pos (-333))) hW.low
    rw [← pw_add] at a
    rw [Rat.natCast_mul, pw_add]
    have e : (m1 : Rat) * pw e1 * ((m3 : Rat) * pw e2) = (m1 : Rat) * (m3 : Rat) * (pw e1 * pw e2) := by grind
    rw [← e]; exact a
  have hhi : ((m1 * m3 : Nat) : Rat) * pw (e1 + e2) ≤ pw 336 := by
    have p1 : 0 ≤ (m1 : Rat) * pw e1 := Rat.mul_nonneg Rat.natCast_nonneg (Rat.le_of_lt (pw_pos e1))
    have a := mul_bd p1 hh.high (Rat.le_of_lt pos2) hW.high
    rw [← pw_add] at a
    rw [Rat.natCast_mul, pw_add]
    have e : (m1 : Rat) * pw e1 * ((m3 : Rat) * pw e2) = (m1 : Rat) * (m3 : Rat) * (pw e1 * pw e2) := by grind
    rw [← e]; exact a
  have l1 := log_ge hlo
  have l2 := log_le hpos hhi
  have hs := nearest_scale (s1 ^^ s3) (m := m1 * m3) (e := e1 + e2) (c := c) hpos (by omega) (by omega) (by omega) (by omega)
  have vq : val q = val p * pw c := by
    rw [bq, bp, show e1 + (e2 + c) = e1 + e2 + c by omega]; exact hs
  -- how great the product is
  have ve : val h * val W = dv (s1 ^^ s3) (m1 * m3) (e1 + e2) := by
    rw [hh.v, hW.v]
    have e : (m1 : Rat) * pw e1 * ((m3 : Rat) * pw e2) = ((m1 * m3 : Nat) : Rat) * pw (e1 + e2) := by rw [Rat.natCast_mul, pw_add]; grind
    cases s1 <;> cases s3 <;> simp only [dv_false, dv_true, Bool.not_true, Bool.not_false, Bool.xor_false, Bool.xor_true] <;> rw [← e] <;> grind
  have w336 := pw_mono (show (336 : Int) ≤ 1000 by omega)
  have p383 := pw_pos (-383)
  have b1 : val h * val W ≤ pw 1000 ∧ -pw 1000 ≤ val h * val W := by
    rw [ve]
    cases (s1 ^^ s3)
    · rw [dv_false]; grind
    · rw [dv_true]; grind
  obtain ⟨fp, _⟩ := mul_near hh.fin hW.fin ep (B := pw 1000) b1.1 b1.2 Rat.le_refl
  have mono := fun z => mul_mono hh.fin hW.fin ep b1.1 b1.2 (z := z)
  have psz : (pw (-383) ≤ val p ∧ val p ≤ pw 336) ∨ (-pw 336 ≤ val p ∧ val p ≤ -pw (-383)) := by
    have one : ((1 : Nat) : Rat) = 1 := rfl
    have w383 := pw_mono (show (-383 : Int) ≤ 1000 by omega)
    have z1 := (exact_write false (K := 1) (e := -383) (by omega) (by omega) (by rw [one]; grind)).2
    have z2 := (exact_write false (K := 1) (e := 336) (by omega) (by omega) (by rw [one]; grind)).2
    have z3 := (exact_write true (K := 1) (e := -383) (by omega) (by omega) (by rw [one]; grind)).2
    have z4 := (exact_write true (K := 1) (e := 336) (by omega) (by omega) (by rw [one]; grind)).2
    rw [dv_false, one, Rat.one_mul] at z1 z2
    rw [dv_true, one, Rat.one_mul] at z3 z4
    rw [ve] at mono
    cases hsx : (s1 ^^ s3)
    · rw [hsx, dv_false] at mono
      left
      have a := (mono (double.write (.number false 1 (-383)))).2 (by rw [z1]; exact hlo)
      have b := (mono (double.write (.number false 1 336))).1 (by rw [z2]; exact hhi)
      rw [z1] at a
      rw [z2] at b
      exact ⟨a, b⟩
    · rw [hsx, dv_true] at mono
      right
      have a := (mono (double.write (.number true 1 (-383)))).1 (by rw [z3]; grind)
      have b := (mono (double.write (.number true 1 336))).2 (by rw [z4]; grind)
      rw [z3] at a
      rw [z4] at b
      exact ⟨b, a⟩
  obtain ⟨s4, m4, e4, h4⟩ := size_of fp psz
  obtain ⟨fp', vp'⟩ := mul_pw h4 hf vf (by omega) (by omega) h1 h2 ep'
  refine ⟨?_, fp', by rw [vq, vp']⟩
  have bq1 : val h * val wf ≤ pw 1000 ∧ -pw 1000 ≤ val h * val wf := by
    have e : val h * val wf = dv (s1 ^^ s3) (m1 * m3) (e1 + e2 + c) := by rw [vw, ← Rat.mul_assoc, ve, ← dv_pw]
    have a1 := Rat.mul_le_mul_of_nonneg_right hhi (Rat.le_of_lt (pw_pos c))
    rw [← pw_add, Rat.mul_assoc, ← pw_add] at a1
    have a3 := pw_mono (show 336 + c ≤ 1000 by omega)
    have h0 : 0 ≤ ((m1 * m3 : Nat) : Rat) * pw (e1 + e2 + c) := Rat.mul_nonneg Rat.natCast_nonneg (Rat.le_of_lt (pw_pos _))
    have h1000 := pw_pos 1000
    rw [e]
    cases (s1 ^^ s3)
    · rw [dv_false]; grind
    · rw [dv_true]; grind
  exact (mul_near hh.fin fw eq (B := pw 1000) bq1.1 bq1.2 Rat.le_refl).1
/-- 0 times what is finite. -/
theorem mul_zero {x y r : Nat} (hx : Fnt x) (hy : Fnt y) (h0 : val x = 0) (h : bin .mul (some x) (some y) = some r) : Fnt r ∧ val r = 0 := by
  have h1000 := pw_pos 1000
  have b1 : val x * val y ≤ pw 1000 := by rw [h0, Rat.zero_mul]; grind
  have b2 : -pw 1000 ≤ val x * val y := by rw [h0, Rat.zero_mul]; grind
  refine ⟨(mul_near hx hy h (B := pw 1000) b1 b2 Rat.le_refl).1, ?_⟩
  have mono := mul_mono hx hy h b1 b2 (z := 0)
  rw [h0, Rat.zero_mul, val0] at mono
  exact Rat.le_antisymm (mono.1 Rat.le_refl) (mono.2 Rat.le_refl)
end Go.Proofs.Ytcocliilapeelaa
