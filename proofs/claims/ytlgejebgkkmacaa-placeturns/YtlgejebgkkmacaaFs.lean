/- The steps of float64 arithmetic, as rational numbers with a bound. No program is spoken of here. -/
import Derived.Test.YtlgejebgkkmacaaFr
namespace Go.Fl
open Ieee Go.RowKit

/-- Two numbers are near each other. -/
def Near (a b E : Rat) : Prop := a ≤ b + E ∧ b ≤ a + E
theorem sgn_neg (m : Nat) : sgn true m = -(m : Int) := rfl
theorem dv_false (m : Nat) (e : Int) : dv false m e = (m : Rat) * pw e := rfl
theorem dv_true (m : Nat) (e : Int) : dv true m e = -((m : Rat) * pw e) := by
  show ((-(m : Int) : Int) : Rat) * pw e = _
  rw [Rat.intCast_neg, Rat.neg_mul]
  rfl
theorem pw_half (e : Int) : pw (e - 1) * 2 = pw e := by
  rw [show (2 : Rat) = pw 1 by decide +kernel, ← pw_add]; congr 1; omega
theorem Rounds.near {s : Bool} {m : Nat} {e : Int} {r : Nat} {last : Int} {kept : Nat} (h : Rounds s m e r last kept) : Near (val r) (dv s m e) (pw (-53) * ((m : Rat) * pw e) + pw (-1075)) ∧ (-1074 ≤ e → Near (val r) (dv s m e) (pw (-53) * ((m : Rat) * pw e))) := by
  have hv0 : 0 ≤ (m : Rat) * pw e := Rat.mul_nonneg Rat.natCast_nonneg (Rat.le_of_lt (pw_pos e))
  have hu : pw last ≤ 2 * (pw (-53) * ((m : Rat) * pw e)) ∨ last = -1074 := by
    rcases h.rel with h1 | h1
    · exact Or.inr h1
    · left
      have h2 := Rat.mul_le_mul_of_nonneg_left h1 (Rat.le_of_lt (pw_pos (-53)))
      have h3 : pw (-53) * pw (last + 52) = pw (last - 1) := by rw [← pw_add]; congr 1; omega
      have h4 := pw_half last
      grind
  have hup := h.up
  have hdn := h.down
  have hE : pw last ≤ 2 * (pw (-53) * ((m : Rat) * pw e) + pw (-1075)) := by
    have hp := pw_pos (-1075)
    have hp2 := Rat.mul_nonneg (Rat.le_of_lt (pw_pos (-53))) hv0
    rcases hu with h1 | h1
    · grind
    · rw [h1]
      have := pw_half (-1074)
      have e1 : (-1074 : Int) - 1 = -1075 := by omega
      rw [e1] at this
      grind
  have key : ∀ E : Rat, (kept : Rat) * pw last ≤ (m : Rat) * pw e + E → (m : Rat) * pw e ≤ (kept : Rat) * pw last + E → Near (val r) (dv s m e) E := by
    intro E h1 h2
    rw [h.value]
    unfold Near
    cases s
    · rw [dv_false, dv_false]; exact ⟨h1, h2⟩
    · rw [dv_true, dv_true]; constructor <;> grind
  refine ⟨key _ (by grind) (by grind), fun he => ?_⟩
  have hE2 := Rat.mul_nonneg (Rat.le_of_lt (pw_pos (-53))) hv0
  rcases hu with h1 | h1
  · exact key _ (by grind) (by grind)
  · have := h.exact (by omega)
    exact key _ (by grind) (by grind)
theorem pw_lt {a b : Int} (h : a < b) : pw a < pw b := by
  have h1 := pw_mono (show a + 1 ≤ b by omega)
  have h2 := pw_half (a + 1)
  rw [show a + 1 - 1 = a by omega] at h2
  have := pw_pos a
  grind
theorem log_le {m : Nat} {e N : Int} (hm : 0 < m) (h : (m : Rat) * pw e ≤ pw N) : e + m.log2 ≤ N := by
  rcases Int.lt_or_le N (e + m.log2) with h1 | h1
  · exfalso
    have h2 : ((2 ^ m.log2 : Nat) : Rat) ≤ (m : Rat) := Rat.natCast_le_natCast.2 (Nat.log2_self_le (by omega))
    have h3 := Rat.mul_le_mul_of_nonneg_right h2 (Rat.le_of_lt (pw_pos e))
    rw [← pw_nat, ← pw_add] at h3
    have h4 := pw_lt h1
    rw [show e + (m.log2 : Int) = (m.log2 : Int) + e by omega] at h4
    grind
  · exact h1
theorem val_zero (s : Bool) : val (double.word s 0) = 0 := by
  rw [val_word s (by omega), show mag 0 = 0 by decide +kernel]
  cases s <;> simp [dv, sgn]
/-- The float that is written for a number. -/
theorem write_near (s : Bool) (m : Nat) (e : Int) {B : Rat} (hB : (m : Rat) * pw e ≤ B) (hB2 : B ≤ pw 1000) :
    Fnt (double.write (.number s m e)) ∧ Near (val (double.write (.number s m e))) (dv s m e) (pw (-53) * B + pw (-1075)) ∧ (-1074 ≤ e → Near (val (double.write (.number s m e))) (dv s m e) (pw (-53) * B)) := by
  have hp := pw_pos (-53)
  have hp2 := pw_pos (-1075)
  have hv0 : 0 ≤ (m : Rat) * pw e := Rat.mul_nonneg Rat.natCast_nonneg (Rat.le_of_lt (pw_pos e))
  have hBm := Rat.mul_le_mul_of_nonneg_left hB (Rat.le_of_lt hp)
  have hB0 := Rat.mul_nonneg (Rat.le_of_lt hp) hv0
  show Fnt (double.nearest s m e) ∧ Near (val (double.nearest s m e)) _ _ ∧ (_ → Near (val (double.nearest s m e)) _ _)
  rcases Nat.eq_zero_or_pos m with h0 | h0
  · subst h0
    have e1 : double.nearest s 0 e = double.word s 0 := by simp [Format.nearest]
    have e2 : dv s 0 e = 0 := by cases s <;> simp [dv, sgn]
    rw [e1, val_zero, e2]
    refine ⟨?_, ?_, fun _ => ?_⟩
    · unfold Fnt; rw [word_mod s 0 (by omega)]; omega
    · unfold Near; constructor <;> grind
    · unfold Near; constructor <;> grind
  · have hlog : e + m.log2 ≤ 1000 := log_le h0 (Rat.le_trans hB hB2)
    obtain ⟨last, kept, hr⟩ := rounds s (e := e) h0 (by omega)
    obtain ⟨n1, n2⟩ := hr.near
    refine ⟨hr.fin, ?_, fun he => ?_⟩
    · unfold Near at *; constructor <;> grind
    · have := n2 he
      unfold Near at *; constructor <;> grind
theorem val_bits {x y : Nat} (h : x = y) : val x = val y := by rw [h]
/-- x times y. -/
theorem mul_near {x y r : Nat} (hx : Fnt x) (hy : Fnt y) (h : bin .mul (some x) (some y) = some r) {B : Rat} (hB : val x * val y ≤ B) (hB' : -B ≤ val x * val y) (hB2 : B ≤ pw 1000) :
    Fnt r ∧ Near (val r) (val x * val y) (pw (-53) * B + pw (-1075)) := by
  obtain ⟨s, m, i, ex⟩ := fin_read hx
  obtain ⟨t, n, j, ey⟩ := fin_read hy
  have hr : r = double.write (.number (s ^^ t) (m * n) (i + j)) := by
    have h' : double.mul x y = some r := h
    unfold Format.mul at h'
    rw [ex, ey] at h'
    simp only [Datum.product, Option.map_some, Option.some.injEq] at h'
    exact h'.symm
  have hv : val x * val y = dv (s ^^ t) (m * n) (i + j) := by
    rw [val_read ex, val_read ey]
    cases s <;> cases t <;> simp only [dv_false, dv_true, Bool.xor_false, Bool.xor_true, Bool.not_false, Bool.not_true, Rat.natCast_mul, pw_add] <;> grind
  have hb : ((m * n : Nat) : Rat) * pw (i + j) ≤ B := by
    rw [hv] at hB hB'
    cases hst : (s ^^ t)
    · rw [hst, dv_false] at hB; exact hB
    · rw [hst, dv_true] at hB'; grind
  obtain ⟨w1, w2, _⟩ := write_near (s ^^ t) (m * n) (i + j) hb hB2
  rw [hr, hv]
  exact ⟨w1, w2⟩
theorem sum_val {s t : Bool} {m n : Nat} {i j : Int} : ∃ (g : Bool) (k : Nat), (Datum.number s m i).sum (.number t n j) = some (.number g k (min i j)) ∧ dv g k (min i j) = dv s m i + dv t n j := by
  refine ⟨_, _, rfl, ?_⟩
  generalize hb : min i j = b
  have h1 : dv s m i = ((signed s m (i - b).toNat : Int) : Rat) * pw b := by
    unfold dv signed
    rw [pw_split (show b ≤ i by omega), ← Rat.mul_assoc]
    congr 1
    cases s <;> simp [sgn, shl, Rat.intCast_neg, Rat.neg_mul, Rat.intCast_natCast]
  have h2 : dv t n j = ((signed t n (j - b).toNat : Int) : Rat) * pw b := by
    unfold dv signed
    rw [pw_split (show b ≤ j by omega), ← Rat.mul_assoc]
    congr 1
    cases t <;> simp [sgn, shl, Rat.intCast_neg, Rat.neg_mul, Rat.intCast_natCast]
  rw [h1, h2, ← Rat.add_mul, ← Rat.intCast_add]
  generalize signed s m (i - b).toNat + signed t n (j - b).toNat = T
  unfold dv
  congr 2
  by_cases h0 : T = 0
  · subst h0; simp [sgn]
  · rw [if_neg h0]
    by_cases hn : T < 0
    · simp [hn, sgn]; omega
    · simp [hn, sgn]; omega

theorem val_neg {x : Nat} (hx : x < 2 ^ 64) : val (neg x) = -val x := by
  have h1 : neg x % 2 ^ 63 = x % 2 ^ 63 := by
    show (x ^^^ 2 ^ 63) % 2 ^ 63 = _
    rw [Nat.xor_mod_two_pow]; simp
  have h2 : neg x / 2 ^ 63 = if x < 2 ^ 63 then 1 else 0 := by
    show (x ^^^ 2 ^ 63) / 2 ^ 63 = _
    rw [Nat.xor_div_two_pow]
    split
    · rw [Nat.div_eq_of_lt (by assumption)]; simp
    · have : x / 2 ^ 63 = 1 := by omega
      rw [this]; simp
  unfold val
  rw [h1, h2]
  rcases Nat.lt_or_ge x (2 ^ 63) with h | h
  · rw [if_pos h, show x / 2 ^ 63 = 0 by omega]
    simp [sgn, Rat.intCast_neg, Rat.neg_mul]
  · rw [if_neg (by omega), show x / 2 ^ 63 = 1 by omega]
    simp [sgn, Rat.intCast_neg, Rat.neg_mul, Rat.neg_neg]
/-- x plus y, x less y: no bound below. -/
theorem add_near {x y r : Nat} (hx : Fnt x) (hy : Fnt y) (h : bin .add (some x) (some y) = some r) {B : Rat} (hB : val x + val y ≤ B) (hB' : -B ≤ val x + val y) (hB2 : B ≤ pw 1000) :
    Fnt r ∧ Near (val r) (val x + val y) (pw (-53) * B) := by
  obtain ⟨s, m, i, ex⟩ := fin_read hx
  obtain ⟨t, n, j, ey⟩ := fin_read hy
  obtain ⟨g, k, e1, e2⟩ := sum_val (s := s) (t := t) (m := m) (n := n) (i := i) (j := j)
  have hr : r = double.write (.number g k (min i j)) := by
    have h' : double.add x y = some r := h
    unfold Format.add at h'
    rw [ex, ey, e1] at h'
    simp only [Option.map_some, Option.some.injEq] at h'
    exact h'.symm
  have hv : val x + val y = dv g k (min i j) := by rw [val_read ex, val_read ey, e2]
  have hb : (k : Rat) * pw (min i j) ≤ B := by
    rw [hv] at hB hB'
    cases g
    · rw [dv_false] at hB; exact hB
    · rw [dv_true] at hB'; grind
  obtain ⟨w1, _, w3⟩ := write_near g k (min i j) hb hB2
  have hi := (read_num ex).2.2.1
  have hj := (read_num ey).2.2.1
  rw [hr, hv]
  exact ⟨w1, w3 (by omega)⟩
theorem dv_not (s : Bool) (m : Nat) (e : Int) : dv (!s) m e = -dv s m e := by
  cases s
  · rw [Bool.not_false, dv_true, dv_false]
  · rw [Bool.not_true, dv_true, dv_false, Rat.neg_neg]
theorem sub_near {x y r : Nat} (hx : Fnt x) (hy : Fnt y) (h : bin .sub (some x) (some y) = some r) {B : Rat} (hB : val x - val y ≤ B) (hB' : -B ≤ val x - val y) (hB2 : B ≤ pw 1000) :
    Fnt r ∧ Near (val r) (val x - val y) (pw (-53) * B) := by
  obtain ⟨s, m, i, ex⟩ := fin_read hx
  obtain ⟨t, n, j, ey⟩ := fin_read hy
  obtain ⟨g, k, e1, e2⟩ := sum_val (s := s) (t := !t) (m := m) (n := n) (i := i) (j := j)
  have hr : r = double.write (.number g k (min i j)) := by
    have h' : double.sub x y = some r := h
    unfold Format.sub at h'
    rw [ex, ey] at h'
    simp only [Datum.opposite] at h'
    rw [e1] at h'
    simp only [Option.map_some, Option.some.injEq] at h'
    exact h'.symm
  have hv : val x - val y = dv g k (min i j) := by rw [val_read ex, val_read ey, e2, dv_not, Rat.sub_eq_add_neg]
  have hb : (k : Rat) * pw (min i j) ≤ B := by
    rw [hv] at hB hB'
    cases g
    · rw [dv_false] at hB; exact hB
    · rw [dv_true] at hB'; grind
  obtain ⟨w1, _, w3⟩ := write_near g k (min i j) hb hB2
  have hi := (read_num ex).2.2.1
  have hj := (read_num ey).2.2.1
  rw [hr, hv]
  exact ⟨w1, w3 (by omega)⟩
/-- Order is the numbers' order. -/
theorem ord_val {x y : Nat} (hx : Fnt x) (hy : Fnt y) : ord (ab x) (ab y) = some (if val x < val y then .lt else if val x = val y then .eq else .gt) := by
  rw [← order_ab]
  show double.order x y = _
  rw [order_lin hx.num hy.num]
  unfold lin
  rw [← sgn_mono]
  unfold val
  have hp := pw_pos (-1074)
  generalize sgn (x / 2 ^ 63 % 2 == 1) (mag (x % 2 ^ 63)) = a
  generalize sgn (y / 2 ^ 63 % 2 == 1) (mag (y % 2 ^ 63)) = b
  congr 1
  rw [Int.compare_eq_ite_lt]
  have hlt : ((a : Rat) * pw (-1074) < (b : Rat) * pw (-1074)) ↔ a < b := by
    constructor
    · intro h
      rcases Int.lt_or_le a b with h1 | h1
      · exact h1
      · exfalso
        have := Rat.mul_le_mul_of_nonneg_right (Rat.intCast_le_intCast.2 h1) (Rat.le_of_lt hp)
        grind
    · intro h
      have := Rat.mul_lt_mul_of_pos_right (Rat.intCast_lt_intCast.2 h) hp
      exact this
  have heq : ((a : Rat) * pw (-1074) = (b : Rat) * pw (-1074)) ↔ a = b := by
    constructor
    · intro h
      rcases Int.lt_trichotomy a b with h1 | h1 | h1
      · have := hlt.2 h1; grind
      · exact h1
      · have := Rat.mul_lt_mul_of_pos_right (Rat.intCast_lt_intCast.2 h1) hp
        grind
    · intro h; rw [h]
  simp only [hlt, heq]
  split
  · rfl
  · split
    · split
      · omega
      · rfl
    · split
      · rfl
      · omega
end Go.Fl
