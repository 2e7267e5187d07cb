/- Powers times whole numbers, and their sums. No program. -/
import Derived.Test.YtephkmahnbhmbaaFr
import Derived.Test.YtephkmahnbhmbaaFr
import Derived.Test.YtephkmahnbhmbaaSf
namespace Go.Proofs.Ytephkmahnbhmbaa
open Go.Fl Go.Sort Ieee

/-- What is a whole number of the least units is rounded without loss below. -/
theorem write_whole (s : Bool) (m : Nat) (e : Int) {c : Nat} (hc : (m : Rat) * pw e = (c : Rat) * pw (-1074)) (hB : (m : Rat) * pw e ≤ pw 1000) :
    Fnt (double.write (.number s m e)) ∧ Near (val (double.write (.number s m e))) (dv s m e) (pw (-53) * ((m : Rat) * pw e)) := by
  have hp := pw_pos (-53)
  have hv0 : 0 ≤ (m : Rat) * pw e := Rat.mul_nonneg Rat.natCast_nonneg (Rat.le_of_lt (pw_pos e))
  have hB0 := Rat.mul_nonneg (Rat.le_of_lt hp) hv0
  refine ⟨(write_near s m e hB Rat.le_refl).1, ?_⟩
  show Near (val (double.nearest s m e)) _ _
  rcases Nat.eq_zero_or_pos m with h0 | h0
  · subst h0
    have e1 : double.nearest s 0 e = double.word s 0 := by simp [Format.nearest]
    have e2 : dv s 0 e = 0 := by cases s <;> simp [dv, sgn]
    rw [e1, val_zero, e2]
    unfold Near; constructor <;> grind
  · have hlog : e + m.log2 ≤ 1000 := log_le h0 hB
    obtain ⟨last, kept, hr⟩ := rounds s (e := e) h0 (by omega)
    have hpl := pw_pos last
    have key : (kept : Rat) * pw last ≤ (m : Rat) * pw e + pw (-53) * ((m : Rat) * pw e) ∧ (m : Rat) * pw e ≤ (kept : Rat) * pw last + pw (-53) * ((m : Rat) * pw e) := by
      have hu := hr.up
      have hd := hr.down
      rcases hr.rel with h1 | h1
      · have hp4 := pw_pos (-1074)
        have ek : kept = c := by
          rw [h1, hc] at hu hd
          have a1 : ((2 * kept : Nat) : Rat) * pw (-1074) ≤ ((2 * c + 1 : Nat) : Rat) * pw (-1074) := by
            rw [Rat.natCast_mul, Rat.natCast_add, Rat.natCast_mul]
            grind
          have a2 : ((2 * c : Nat) : Rat) * pw (-1074) ≤ ((2 * kept + 1 : Nat) : Rat) * pw (-1074) := by
            rw [Rat.natCast_mul, Rat.natCast_add, Rat.natCast_mul]
            grind
          have b1 := Rat.natCast_le_natCast.1 (le_of_mul hp4 a1)
          have b2 := Rat.natCast_le_natCast.1 (le_of_mul hp4 a2)
          omega
        rw [h1, ek, ← hc]
        constructor <;> grind
      · have e1 : pw last = 2 * (pw (-53) * pw (last + 52)) := by
          have := pw_half last
          rw [← this, show last - 1 = -53 + (last + 52) by omega, pw_add]
          grind
        have h2 := Rat.mul_le_mul_of_nonneg_left h1 (Rat.le_of_lt hp)
        constructor <;> grind
    rw [hr.value]
    unfold Near
    cases s
    · rw [dv_false, dv_false]; constructor <;> grind
    · rw [dv_true, dv_true]; constructor <;> grind
theorem int_valZ {K : Int} (hK : K.natAbs < 2 ^ 53) : Fnt (floatOfInt .f64 K) ∧ val (floatOfInt .f64 K) = (K : Rat) := by
  have e : floatOfInt .f64 K = double.write (.number (decide (K < 0)) K.natAbs 0) := rfl
  obtain ⟨h1, h2⟩ := int_write (decide (K < 0)) hK
  have e0 : pw 0 = 1 := by decide +kernel
  rw [e]
  refine ⟨h1, ?_⟩
  rw [h2]
  unfold dv
  rw [e0, Rat.mul_one]
  congr 1
  unfold sgn
  split
  · rename_i h; simp at h; omega
  · rename_i h; simp at h; omega
theorem absR_mul_nat (a : Rat) (h : 0 ≤ a) : absR a = a := by unfold absR; split <;> grind
/-- A float times a whole number. -/
theorem mul_whole {x y r : Nat} (hx : Fnt x) (hy : Fnt y) {K : Int} (hK : val y = (K : Rat)) (h : bin .mul (some x) (some y) = some r) (hB : absR (val x * val y) ≤ pw 1000) :
    Fnt r ∧ Near (val r) (val x * val y) (pw (-53) * absR (val x * val y)) := by
  obtain ⟨s, m, i, ex⟩ := fin_read hx
  obtain ⟨t, n, j, ey⟩ := fin_read hy
  have hr : r = double.write (.number (s ^^ t) (m * n) (i + j)) := by
    have h' : double.mul x y = some r := h
    unfold Format.mul at h'
    rw [ex, ey] at h'
    simp only [Datum.product, Option.map_some, Option.some.injEq] at h'
    exact h'.symm
  have hv : val x * val y = dv (s ^^ t) (m * n) (i + j) := by
    rw [val_read ex, val_read ey]
    cases s <;> cases t <;> simp only [dv_false, dv_true, Bool.xor_false, Bool.xor_true, Bool.not_false, Bool.not_true, Rat.natCast_mul, pw_add] <;> grind
  have hp0 : 0 ≤ ((m * n : Nat) : Rat) * pw (i + j) := Rat.mul_nonneg Rat.natCast_nonneg (Rat.le_of_lt (pw_pos _))
  have ha : absR (val x * val y) = ((m * n : Nat) : Rat) * pw (i + j) := by
    rw [hv]
    cases (s ^^ t)
    · rw [dv_false]; unfold absR; split <;> grind
    · rw [dv_true]; unfold absR; split <;> grind
  have hw : ∃ c : Nat, ((m * n : Nat) : Rat) * pw (i + j) = (c : Rat) * pw (-1074) := by
    refine ⟨mag (x % 2 ^ 63) * K.natAbs, ?_⟩
    rw [← ha, hK, Rat.natCast_mul]
    have hp4 := pw_pos (-1074)
    have hm0 : (0 : Rat) ≤ (mag (x % 2 ^ 63) : Rat) := Rat.natCast_nonneg
    have hmp := Rat.mul_nonneg hm0 (Rat.le_of_lt hp4)
    have hk : (K : Rat) = (K.natAbs : Rat) ∨ (K : Rat) = -(K.natAbs : Rat) := by
      rcases Int.natAbs_eq K with q | q
      · left; exact congrArg (fun z : Int => (z : Rat)) q
      · right
        have := congrArg (fun z : Int => (z : Rat)) q
        have h9 : (K : Rat) = -((K.natAbs : Int) : Rat) := by simpa using this
        exact h9
    have hk0 : (0 : Rat) ≤ (K.natAbs : Rat) := Rat.natCast_nonneg
    have hall := Rat.mul_nonneg hmp hk0
    rcases val_cases x with q | q <;> rcases hk with q2 | q2 <;> rw [q, q2] <;> unfold absR <;> split <;> grind
  obtain ⟨c, hc⟩ := hw
  obtain ⟨w1, w2⟩ := write_whole (s ^^ t) (m * n) (i + j) hc (by rw [← ha]; exact hB)
  rw [hr, hv, ← hv, ha]
  rw [hv]
  exact ⟨w1, w2⟩
end Go.Proofs.Ytephkmahnbhmbaa
/- Two sums beside each other: powers, and powers times whole numbers. No program. -/
namespace Go.Proofs.Ytephkmahnbhmbaa
open Go.Fl Go.Sort Ieee

theorem absR_near {a b u : Rat} (h : Near a b (u * absR b)) : a ≤ b + u * absR b ∧ b ≤ a + u * absR b := h
/-- One step, on the upper side. -/
theorem step_up {h u r r' S p S' E q E' : Rat} (h0 : 0 ≤ h) (u0 : 0 ≤ u) (u1 : u ≤ 1) (S0 : 0 ≤ S) (p0 : 0 ≤ p) (hE : E ≤ h * r * S) (hq : q ≤ h * (1 + u) * p) (hr : 1 + u ≤ r) (hE' : E' ≤ (E + q) + u * absR (E + q)) (hS' : (S + p) * (1 - u) ≤ S') (hS0 : 0 ≤ S') (hrr : (1 + u) * r ≤ r' * (1 - u)) (r0 : 0 ≤ r') : E' ≤ h * r' * S' := by
  have hr0 : 0 ≤ r := by grind
  have hp1 : h * (1 + u) * p ≤ h * r * p := Rat.mul_le_mul_of_nonneg_right (Rat.mul_le_mul_of_nonneg_left hr h0) p0
  have hY : E + q ≤ h * r * (S + p) := by grind
  have hT : 0 ≤ S + p := by grind
  have hfin : 0 ≤ h * r' * S' := Rat.mul_nonneg (Rat.mul_nonneg h0 r0) hS0
  rcases rat_lt_or_le (E + q) 0 with k | k
  · have ea : absR (E + q) = -(E + q) := by unfold absR; rw [if_pos k]
    rw [ea] at hE'
    have h1 : 0 ≤ (1 - u) * -(E + q) := Rat.mul_nonneg (by grind) (by grind)
    grind
  · have ea : absR (E + q) = E + q := by unfold absR; rw [if_neg (by grind)]
    rw [ea] at hE'
    have h1 : (1 + u) * (E + q) ≤ (1 + u) * (h * r * (S + p)) := Rat.mul_le_mul_of_nonneg_left hY (by grind)
    have h2 : (1 + u) * r * (S + p) ≤ r' * (1 - u) * (S + p) := Rat.mul_le_mul_of_nonneg_right hrr hT
    have h3 : r' * ((S + p) * (1 - u)) ≤ r' * S' := Rat.mul_le_mul_of_nonneg_left hS' r0
    have h4 : (1 + u) * r * (S + p) ≤ r' * S' := by grind
    have h5 := Rat.mul_le_mul_of_nonneg_left h4 h0
    grind
def uu : Rat := pw (-53)
theorem uu_is : uu = 1 / 9007199254740992 := pw53
/-- How far the two sums may part. -/
def rk (k : Nat) : Rat := 1 + 4 * (k : Rat) * uu
theorem rk_step {k : Nat} (hk : k ≤ 500) : (1 + uu) * rk k ≤ rk (k + 1) * (1 - uu) := by
  unfold rk
  rw [uu_is, Rat.natCast_add]
  have h0 : (0 : Rat) ≤ (k : Rat) := Rat.natCast_nonneg
  have h1 : (k : Rat) ≤ 500 := Rat.natCast_le_natCast.2 hk
  have e1 : ((1 : Nat) : Rat) = 1 := rfl
  rw [e1]
  grind
/-- The sums so far. -/
structure SB (P : Nat → Nat) (F : Nat → Option Nat) (lo hi : Rat) (k S E : Nat) : Prop where
  s : sumN (fun i => ab (P i)) k = some S
  e : sumN F k = some E
  fs : Fnt S
  fe : Fnt E
  s0 : 0 ≤ val S
  sb : val S ≤ 2 * (k : Rat) * pw 900
  up : val E ≤ hi * rk k * val S
  dn : lo * rk k * val S ≤ val E
  ge : ∀ i, i < k → val (P i) ≤ val S
end Go.Proofs.Ytephkmahnbhmbaa
/- The two sums, step by step. No program. -/
namespace Go.Proofs.Ytephkmahnbhmbaa
open Go.Fl Go.Sort Ieee

theorem prod3 {a b c A B C : Rat} (a0 : 0 ≤ a) (b0 : 0 ≤ b) (c0 : 0 ≤ c) (ha : a ≤ A) (hb : b ≤ B) (hc : c ≤ C) : a * b * c ≤ A * B * C := by
  have h1 : a * b ≤ A * B := Rat.le_trans (Rat.mul_le_mul_of_nonneg_right ha b0) (Rat.mul_le_mul_of_nonneg_left hb (by grind))
  have h2 : 0 ≤ A * B := Rat.mul_nonneg (by grind) (by grind)
  exact Rat.le_trans (Rat.mul_le_mul_of_nonneg_right h1 c0) (Rat.mul_le_mul_of_nonneg_left hc h2)
theorem pw1000 : pw 1000 = 1267650600228229401496703205376 * pw 900 := by
  rw [show (1000 : Int) = 100 + 900 by omega, pw_add]
  congr 1
theorem uu0 : 0 ≤ uu := Rat.le_of_lt (pw_pos _)
theorem one_sub : 0 ≤ 1 - uu := by rw [uu_is]; decide +kernel
theorem one_add : 0 ≤ 1 + uu := by rw [uu_is]; decide +kernel
theorem uu1 : uu ≤ 1 := by rw [uu_is]; decide +kernel
theorem two_add : 1 + uu ≤ 2 := by rw [uu_is]; decide +kernel
/-- What a power times a whole number gives. -/
theorem part_near {p : Nat} {e lo hi : Int} (hp : Fnt p) (p0 : 0 ≤ val p) (pb : val p ≤ pw 900) (he1 : lo ≤ e) (he2 : e ≤ hi) (l0 : lo ≤ 0) (h0 : 0 ≤ hi) (l1 : -65536 ≤ lo) (h1 : hi ≤ 65536) :
    ∃ q, bin .mul (ab p) (flI e) = some q ∧ Fnt q ∧ val q ≤ (hi : Rat) * (1 + uu) * val p ∧ (lo : Rat) * (1 + uu) * val p ≤ val q := by
  obtain ⟨fe, ve⟩ := int_valZ (K := e) (by omega)
  obtain ⟨q, hq⟩ := bin_some_mul hp fe
  have heq : bin .mul (ab p) (flI e) = some q := by rw [Fnt.ab hp]; show bin .mul (some p) (ab (floatOfInt .f64 e)) = _; rw [Fnt.ab fe]; exact hq
  have c1 : (lo : Rat) ≤ (e : Rat) := Rat.intCast_le_intCast.2 he1
  have c2 : (e : Rat) ≤ (hi : Rat) := Rat.intCast_le_intCast.2 he2
  have c3 : (lo : Rat) ≤ 0 := Rat.intCast_le_intCast.2 l0
  have c4 : (0 : Rat) ≤ (hi : Rat) := Rat.intCast_le_intCast.2 h0
  have c5 : (-65536 : Rat) ≤ (lo : Rat) := Rat.intCast_le_intCast.2 l1
  have c6 : (hi : Rat) ≤ 65536 := Rat.intCast_le_intCast.2 h1
  have m1 : val p * (e : Rat) ≤ val p * (hi : Rat) := Rat.mul_le_mul_of_nonneg_left c2 p0
  have m2 : val p * (lo : Rat) ≤ val p * (e : Rat) := Rat.mul_le_mul_of_nonneg_left c1 p0
  have m3 : 0 ≤ val p * (hi : Rat) := Rat.mul_nonneg p0 c4
  have m4 : 0 ≤ val p * -(lo : Rat) := Rat.mul_nonneg p0 (by grind)
  have m5 : val p * (hi : Rat) ≤ val p * 65536 := Rat.mul_le_mul_of_nonneg_left c6 p0
  have m6 : val p * -(lo : Rat) ≤ val p * 65536 := Rat.mul_le_mul_of_nonneg_left (by grind) p0
  have hpos := pw_pos 900
  have hb : absR (val p * val (floatOfInt .f64 e)) ≤ pw 1000 := by
    rw [ve, pw1000]
    unfold absR
    split <;> grind
  obtain ⟨fq, nq⟩ := mul_whole hp fe ve hq hb
  obtain ⟨n1, n2⟩ := absR_near nq
  rw [ve] at n1 n2
  have hu : pw (-53) = uu := rfl
  rw [hu] at n1 n2
  have u0 := uu0
  have ud := uu_is
  refine ⟨q, heq, fq, ?_, ?_⟩
  · rcases rat_lt_or_le (val p * (e : Rat)) 0 with k | k
    · have ea : absR (val p * (e : Rat)) = -(val p * (e : Rat)) := by unfold absR; rw [if_pos k]
      rw [ea] at n1
      have : 0 ≤ (1 - uu) * -(val p * (e : Rat)) := Rat.mul_nonneg one_sub (by grind)
      have : 0 ≤ (1 + uu) * (val p * (hi : Rat)) := Rat.mul_nonneg one_add m3
      grind
    · have ea : absR (val p * (e : Rat)) = val p * (e : Rat) := by unfold absR; rw [if_neg (by grind)]
      rw [ea] at n1
      have : (1 + uu) * (val p * (e : Rat)) ≤ (1 + uu) * (val p * (hi : Rat)) := Rat.mul_le_mul_of_nonneg_left m1 one_add
      grind
  · rcases rat_lt_or_le (val p * (e : Rat)) 0 with k | k
    · have ea : absR (val p * (e : Rat)) = -(val p * (e : Rat)) := by unfold absR; rw [if_pos k]
      rw [ea] at n2
      have : (1 + uu) * (val p * (lo : Rat)) ≤ (1 + uu) * (val p * (e : Rat)) := Rat.mul_le_mul_of_nonneg_left m2 one_add
      grind
    · have ea : absR (val p * (e : Rat)) = val p * (e : Rat) := by unfold absR; rw [if_neg (by grind)]
      rw [ea] at n2
      have : 0 ≤ (1 - uu) * (val p * (e : Rat)) := Rat.mul_nonneg one_sub k
      have : 0 ≤ (1 + uu) * (val p * -(lo : Rat)) := Rat.mul_nonneg one_add m4
      grind
theorem rk_ge (k : Nat) (h : 1 ≤ k) : 1 + uu ≤ rk k ∧ 0 ≤ rk k := by
  unfold rk
  have h1 : (1 : Rat) ≤ (k : Rat) := Rat.natCast_le_natCast.2 h
  have u0 := uu0
  have := Rat.mul_le_mul_of_nonneg_right h1 u0
  constructor <;> grind
theorem rk_le {k : Nat} (h : k ≤ 501) : rk k ≤ 2 := by
  unfold rk
  rw [uu_is]
  have h1 : (k : Rat) ≤ 501 := Rat.natCast_le_natCast.2 h
  grind
theorem SB.next {P : Nat → Nat} {F : Nat → Option Nat} {lo hi : Int} {k S E : Nat} (h : SB P F lo hi k S E) (hk1 : 1 ≤ k) (hk : k ≤ 500) (l0 : lo ≤ 0) (h0 : 0 ≤ hi) (l1 : -65536 ≤ lo) (h1 : hi ≤ 65536) (hp : Fnt (P k)) (p0 : 0 ≤ val (P k)) (pb : val (P k) ≤ pw 900) {q : Nat} (hq : F k = some q) (fq : Fnt q) (q1 : val q ≤ (hi : Rat) * (1 + uu) * val (P k)) (q2 : (lo : Rat) * (1 + uu) * val (P k) ≤ val q) :
    ∃ S' E', SB P F lo hi (k + 1) S' E' := by
  obtain ⟨S', hS'⟩ := bin_some_add h.fs hp
  obtain ⟨E', hE'⟩ := bin_some_add h.fe fq
  obtain ⟨j, rfl⟩ : ∃ j, k = j + 1 := ⟨k - 1, by omega⟩
  have c3 : (lo : Rat) ≤ 0 := Rat.intCast_le_intCast.2 l0
  have c4 : (0 : Rat) ≤ (hi : Rat) := Rat.intCast_le_intCast.2 h0
  have c5 : (-65536 : Rat) ≤ (lo : Rat) := Rat.intCast_le_intCast.2 l1
  have c6 : (hi : Rat) ≤ 65536 := Rat.intCast_le_intCast.2 h1
  have hpos := pw_pos 900
  have u0 := uu0
  have ud := uu_is
  obtain ⟨r1, r2⟩ := rk_ge (j + 1) hk1
  have r3 := rk_le (show j + 1 ≤ 501 by omega)
  obtain ⟨r4, r5⟩ := rk_ge (j + 1 + 1) (by omega)
  have rs := rk_step hk
  have hkr : ((j + 1 : Nat) : Rat) ≤ 500 := Rat.natCast_le_natCast.2 hk
  have hkr0 : (0 : Rat) ≤ ((j + 1 : Nat) : Rat) := Rat.natCast_nonneg
  have sb1 : val S ≤ 1000 * pw 900 := by
    have := Rat.mul_le_mul_of_nonneg_right hkr (Rat.le_of_lt hpos)
    have := h.sb
    grind
  have s0 := h.s0
  have u1 : (hi : Rat) * rk (j + 1) * val S ≤ 65536 * 2 * (1000 * pw 900) := prod3 c4 r2 s0 c6 r3 sb1
  have u2 : -(lo : Rat) * rk (j + 1) * val S ≤ 65536 * 2 * (1000 * pw 900) := prod3 (by grind) r2 s0 (by grind) r3 sb1
  have u3 : (hi : Rat) * (1 + uu) * val (P (j + 1)) ≤ 65536 * 2 * pw 900 := prod3 c4 one_add p0 c6 two_add pb
  have u4 : -(lo : Rat) * (1 + uu) * val (P (j + 1)) ≤ 65536 * 2 * pw 900 := prod3 (by grind) one_add p0 (by grind) two_add pb
  have hup := h.up
  have hdn := h.dn
  have bE : absR (val E + val q) ≤ pw 1000 := by
    rw [pw1000]
    unfold absR
    split <;> grind
  have bS : val S + val (P (j + 1)) ≤ pw 1000 := by rw [pw1000]; grind
  have aE := absR_le (val E + val q)
  obtain ⟨f1, n1⟩ := add_near h.fs hp hS' (B := val S + val (P (j + 1))) Rat.le_refl (by grind) bS
  obtain ⟨f2, n2⟩ := add_near h.fe fq hE' (B := absR (val E + val q)) aE.1 (by grind) bE
  obtain ⟨a1, a2⟩ : _ ∧ _ := n1
  obtain ⟨b1, b2⟩ : _ ∧ _ := n2
  have hu : pw (-53) = uu := rfl
  rw [hu] at a1 a2 b1 b2
  have bS' : -pw 1000 ≤ val S + val (P (j + 1)) := by have := pw_pos 1000; grind
  have ge1 : val S ≤ val S' := (add_mono h.fs hp hS' bS bS' (z := S)).2 (by grind)
  have ge2 : val (P (j + 1)) ≤ val S' := (add_mono h.fs hp hS' bS bS' (z := P (j + 1))).2 (by grind)
  have hS1 : (val S + val (P (j + 1))) * (1 - uu) ≤ val S' := by grind
  refine ⟨S', E', ⟨?_, ?_, f1, f2, by grind, ?_, ?_, ?_, fun i hi => ?_⟩⟩
  · rw [sumN_step, h.s, Fnt.ab hp]; exact hS'
  · rw [sumN_step, h.e, hq]; exact hE'
  · have hs2 := h.sb
    have e1 : ((j + 1 + 1 : Nat) : Rat) = ((j + 1 : Nat) : Rat) + 1 := Rat.natCast_add _ _
    rw [e1]
    have hsum : val S + val (P (j + 1)) ≤ 1001 * pw 900 := by grind
    have := Rat.mul_le_mul_of_nonneg_left hsum u0
    rw [ud] at this a1
    grind
  · exact step_up c4 u0 uu1 s0 p0 hup q1 r1 b1 hS1 (by grind) rs r5
  · have h9 := step_up (h := -(lo : Rat)) (E := -val E) (q := -val q) (E' := -val E') (by grind) u0 uu1 s0 p0 (by grind) (by grind) r1 (by
      have ea : absR (-val E + -val q) = absR (val E + val q) := by unfold absR; split <;> split <;> grind
      rw [ea]; grind) hS1 (by grind) rs r5
    grind
  · rcases Nat.lt_or_ge i (j + 1) with k | k
    · exact Rat.le_trans (h.ge i k) ge1
    · obtain rfl : i = j + 1 := by omega
      exact ge2
end Go.Proofs.Ytephkmahnbhmbaa
