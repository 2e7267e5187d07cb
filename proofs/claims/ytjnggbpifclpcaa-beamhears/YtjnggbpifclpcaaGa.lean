/- Sums of good points by themselves. -/
import Derived.Test.YtjnggbpifclpcaaWc
namespace Go.Proofs.Ytjnggbpifclpcaa
open Go.ChangeShapes Go.WideShapes Go.ChangeAt Go.RowKit Go.Fl Ieee
attribute [local go_sem] run_store_float run_store_complex call34 call33 run_neg fold_eq fold_ne fold_lt fold_gt abs_eq

/-- A float that is off from v by at most E. -/
def At (o : Option Nat) (v E : Rat) : Prop := ∃ x, o = some x ∧ Fnt x ∧ Near (val x) v E
theorem u_pw : pw (-53) = u53 := by decide +kernel
theorem u_tiny : pw (-1075) ≤ u53 := by decide +kernel
theorem u_pos : 0 < u53 := by decide +kernel
theorem u_small : 100000 * u53 ≤ 1 := by decide +kernel
theorem big_100 {B : Rat} (h : B ≤ 100) : B ≤ pw 1000 := by
  have h1 : (100 : Rat) ≤ pw 7 := by decide +kernel
  have h2 := pw_mono (show (7 : Int) ≤ 1000 by omega)
  grind
theorem Good.both {c s : Nat} (h : Good c s) : (val c ≤ 2 ∧ -2 ≤ val c) ∧ (val s ≤ 2 ∧ -2 ≤ val s) := ⟨h.swap.le, h.le⟩
theorem mul4 {x y : Nat} (fx : Fnt x) (fy : Fnt y) (hx : val x ≤ 2 ∧ -2 ≤ val x) (hy : val y ≤ 2 ∧ -2 ≤ val y) : At (bin .mul (some x) (some y)) (val x * val y) (5 * u53) ∧ val x * val y ≤ 4 ∧ -4 ≤ val x * val y := by
  obtain ⟨r, hr⟩ := bin_some_mul fx fy
  obtain ⟨m1, m2⟩ := mul_bd hx.1 hx.2 hy.1 hy.2
  have k1 : val x * val y ≤ 4 := by grind
  have k2 : -4 ≤ val x * val y := by grind
  obtain ⟨fr, nr⟩ := mul_near fx fy hr (B := 4) k1 k2 (big_100 (by grind))
  have := u_tiny
  rw [u_pw] at nr
  refine ⟨⟨r, hr, fr, ?_⟩, k1, k2⟩
  unfold Near at nr ⊢
  constructor <;> grind
theorem self_mul {c s : Nat} (h : Good c s) : At (mulR (some c) (some s) (some c) ((some s).map neg)) 1 (31 * u53) ∧ At (mulI (some c) (some s) (some c) ((some s).map neg)) 0 (11 * u53) := by
  obtain ⟨hc, hs⟩ := h.both
  have fn := fin_neg h.fs
  have vn := vneg s
  have hn : val (neg s) ≤ 2 ∧ -2 ≤ val (neg s) := by rw [vn]; constructor <;> grind
  have hu := u_pos
  have hsm := u_small
  constructor
  · obtain ⟨⟨p, ep, fp, np⟩, p1, p2⟩ := mul4 h.fc h.fc hc hc
    obtain ⟨⟨q, eq, fq, nq⟩, q1, q2⟩ := mul4 h.fs fn hs hn
    rw [vn] at nq q1 q2
    unfold Near at np nq
    obtain ⟨r, hr⟩ := bin_some_sub fp fq
    obtain ⟨fr, nr⟩ := sub_near fp fq hr (B := 10) (by grind) (by grind) (big_100 (by grind))
    rw [u_pw] at nr
    have hg := h.near
    unfold Near at nr hg
    refine ⟨r, ?_, fr, ?_⟩
    · unfold mulR
      rw [ep]
      simp only [Option.map_some]
      rw [eq, hr]
    · have e : val s * -val s = -(val s * val s) := by grind
      rw [e] at nq
      unfold Near
      constructor <;> grind
  · obtain ⟨⟨p, ep, fp, np⟩, p1, p2⟩ := mul4 h.fc fn hc hn
    obtain ⟨⟨q, eq, fq, nq⟩, q1, q2⟩ := mul4 h.fs h.fc hs hc
    rw [vn] at np p1 p2
    have e : val c * -val s = -(val s * val c) := by grind
    rw [e] at np
    unfold Near at np nq
    obtain ⟨r, hr⟩ := bin_some_add fp fq
    obtain ⟨fr, nr⟩ := add_near fp fq hr (B := 1) (by grind) (by grind) (big_100 (by grind))
    rw [u_pw] at nr
    unfold Near at nr
    refine ⟨r, ?_, fr, ?_⟩
    · unfold mulI
      simp only [Option.map_some]
      rw [ep, eq, hr]
    · unfold Near
      constructor <;> grind
theorem sum_re {F : Nat → Option Nat} : ∀ n, n < 64 → (∀ k, k ≤ n → At (F k) 1 (31 * u53)) → At (sumN F (n + 1)) ((n : Rat) + 1) (97 * ((n : Rat) + 1) * u53)
  | 0, _, h => by
    obtain ⟨x, e, f, nr⟩ := h 0 (Nat.le_refl _)
    have hu := u_pos
    have z : ((0 : Nat) : Rat) = 0 := rfl
    refine ⟨x, e, f, ?_⟩
    rw [z]
    unfold Near at nr ⊢
    constructor <;> grind
  | n + 1, hn, h => by
    obtain ⟨x, e, f, nr⟩ := sum_re n (by omega) fun k hk => h k (by omega)
    obtain ⟨y, e', f', nr'⟩ := h (n + 1) (Nat.le_refl _)
    have hu := u_pos
    have hsm := u_small
    have ec : ((n + 1 : Nat) : Rat) = (n : Rat) + 1 := by rw [Rat.natCast_add]; rfl
    rw [ec]
    have hn' : (n : Rat) ≤ 63 := by
      have : (n : Rat) ≤ ((63 : Nat) : Rat) := Rat.natCast_le_natCast.2 (by omega)
      exact this
    have hn0 : (0 : Rat) ≤ (n : Rat) := Rat.natCast_nonneg
    generalize (n : Rat) = v at *
    have hE : 97 * (v + 1) * u53 ≤ 6208 * u53 := by
      have := Rat.mul_le_mul_of_nonneg_right (show 97 * (v + 1) ≤ 6208 by grind) (Rat.le_of_lt hu)
      exact this
    have hE2 : 97 * (v + 1 + 1) * u53 = 97 * (v + 1) * u53 + 97 * u53 := by grind
    rw [hE2]
    generalize 97 * (v + 1) * u53 = E at *
    unfold Near at nr nr'
    obtain ⟨r, hr⟩ := bin_some_add f f'
    obtain ⟨fr, ns⟩ := add_near f f' hr (B := 66) (by grind) (by grind) (big_100 (by grind))
    rw [u_pw] at ns
    unfold Near at ns
    refine ⟨r, ?_, fr, ?_⟩
    · show bin .add (sumN F (n + 1)) (F (n + 1)) = some r
      rw [e, e', hr]
    · unfold Near
      constructor <;> grind
theorem sum_im {F : Nat → Option Nat} : ∀ n, n < 64 → (∀ k, k ≤ n → At (F k) 0 (11 * u53)) → At (sumN F (n + 1)) 0 (12 * ((n : Rat) + 1) * u53)
  | 0, _, h => by
    obtain ⟨x, e, f, nr⟩ := h 0 (Nat.le_refl _)
    have hu := u_pos
    have z : ((0 : Nat) : Rat) = 0 := rfl
    refine ⟨x, e, f, ?_⟩
    rw [z]
    unfold Near at nr ⊢
    constructor <;> grind
  | n + 1, hn, h => by
    obtain ⟨x, e, f, nr⟩ := sum_im n (by omega) fun k hk => h k (by omega)
    obtain ⟨y, e', f', nr'⟩ := h (n + 1) (Nat.le_refl _)
    have hu := u_pos
    have hsm := u_small
    have ec : ((n + 1 : Nat) : Rat) = (n : Rat) + 1 := by rw [Rat.natCast_add]; rfl
    rw [ec]
    have hn' : (n : Rat) ≤ 63 := by
      have : (n : Rat) ≤ ((63 : Nat) : Rat) := Rat.natCast_le_natCast.2 (by omega)
      exact this
    generalize (n : Rat) = v at *
    have hE : 12 * (v + 1) * u53 ≤ 768 * u53 := by
      have := Rat.mul_le_mul_of_nonneg_right (show 12 * (v + 1) ≤ 768 by grind) (Rat.le_of_lt hu)
      exact this
    have hE2 : 12 * (v + 1 + 1) * u53 = 12 * (v + 1) * u53 + 12 * u53 := by grind
    rw [hE2]
    generalize 12 * (v + 1) * u53 = E at *
    unfold Near at nr nr'
    obtain ⟨r, hr⟩ := bin_some_add f f'
    obtain ⟨fr, ns⟩ := add_near f f' hr (B := 1) (by grind) (by grind) (big_100 (by grind))
    rw [u_pw] at ns
    unfold Near at ns
    refine ⟨r, ?_, fr, ?_⟩
    · show bin .add (sumN F (n + 1)) (F (n + 1)) = some r
      rw [e, e', hr]
    · unfold Near
      constructor <;> grind
theorem leq_val {D M : Nat} (h : Fnt D) (hM : Fnt M) (h1 : val D ≤ val M) (h2 : -val M ≤ val D) : (ltF (ab (Go.Fl.abs D)) (ab M) || eqF (ab (Go.Fl.abs D)) (ab M)) = true := by
  rw [ltF_val (fin_abs h) hM, eqF_val (fin_abs h) hM]
  have : val (Go.Fl.abs D) ≤ val M := by rw [vabs]; unfold absR; split <;> grind
  by_cases he : val (Go.Fl.abs D) = val M
  · simp [he]
  · have : val (Go.Fl.abs D) < val M := by grind
    simp [this]
theorem n_most : ∀ k : Fin 64, Fnt (floatOfInt .f64 ((k.val + 1 : Nat) : Int)) ∧ val (floatOfInt .f64 ((k.val + 1 : Nat) : Int)) = (k.val : Rat) + 1 ∧ (bin .mul (some 4409024035195715584) (some (floatOfInt .f64 ((k.val + 1 : Nat) : Int)))).isSome = true ∧ Fnt ((bin .mul (some 4409024035195715584) (some (floatOfInt .f64 ((k.val + 1 : Nat) : Int)))).getD 0) ∧ val ((bin .mul (some 4409024035195715584) (some (floatOfInt .f64 ((k.val + 1 : Nat) : Int)))).getD 0) = 512 * ((k.val : Rat) + 1) * u53 := by
  unfold Fnt
  decide +kernel
/-- What BeamHears asks of the numbers. -/
theorem hears_ok {n : Nat} (hn : n < 64) {F : Nat → CN} (hF : ∀ k, k < n + 1 → ∃ c s, F k = (some c, some s) ∧ Good c s) : ∃ R I D M, formT F F (n + 1) = (some R, some I) ∧ bin .sub (ab R) (ab (floatOfInt .f64 ((n + 1 : Nat) : Int))) = some D ∧ bin .mul (ab 4409024035195715584) (ab (floatOfInt .f64 ((n + 1 : Nat) : Int))) = some M ∧ (ltF (ab (Go.Fl.abs D)) (ab M) || eqF (ab (Go.Fl.abs D)) (ab M)) = true ∧ (ltF (ab (Go.Fl.abs I)) (ab M) || eqF (ab (Go.Fl.abs I)) (ab M)) = true := by
  obtain ⟨f1, f2, f3, f4, f5⟩ := n_most ⟨n, hn⟩
  simp only at f1 f2 f3 f4 f5
  obtain ⟨M, hM⟩ := Option.isSome_iff_exists.1 f3
  rw [hM] at f4 f5
  simp only [Option.getD_some] at f4 f5
  obtain ⟨R, e1, r1, r2⟩ := sum_re (F := fun k => mulR (F k).1 (F k).2 (F k).1 ((F k).2.map neg)) n hn fun k hk => by
    obtain ⟨c, s, e, hg⟩ := hF k (by omega)
    rw [e]
    exact (self_mul hg).1
  obtain ⟨I, e2, i1, i2⟩ := sum_im (F := fun k => mulI (F k).1 (F k).2 (F k).1 ((F k).2.map neg)) n hn fun k hk => by
    obtain ⟨c, s, e, hg⟩ := hF k (by omega)
    rw [e]
    exact (self_mul hg).2
  have hu := u_pos
  have hsm := u_small
  have hn' : (n : Rat) ≤ 63 := by
    have : (n : Rat) ≤ ((63 : Nat) : Rat) := Rat.natCast_le_natCast.2 (by omega)
    exact this
  have hn0 : (0 : Rat) ≤ (n : Rat) := Rat.natCast_nonneg
  obtain ⟨D, hD⟩ := bin_some_sub r1 f1
  have hp : 0 ≤ ((n : Rat) + 1) * u53 := Rat.mul_nonneg (by grind) (Rat.le_of_lt hu)
  have hp2 : ((n : Rat) + 1) * u53 ≤ 64 * u53 := Rat.mul_le_mul_of_nonneg_right (by grind) (Rat.le_of_lt hu)
  have q1 : 97 * ((n : Rat) + 1) * u53 = 97 * (((n : Rat) + 1) * u53) := by grind
  have q2 : 12 * ((n : Rat) + 1) * u53 = 12 * (((n : Rat) + 1) * u53) := by grind
  have q3 : 512 * ((n : Rat) + 1) * u53 = 512 * (((n : Rat) + 1) * u53) := by grind
  rw [q1] at r2
  rw [q2] at i2
  rw [q3] at f5
  generalize ((n : Rat) + 1) * u53 = P at *
  unfold Near at r2 i2
  have b1 : val R - val (floatOfInt .f64 ((n + 1 : Nat) : Int)) ≤ val M := by rw [f2, f5]; grind
  have b2 : -val M ≤ val R - val (floatOfInt .f64 ((n + 1 : Nat) : Int)) := by rw [f2, f5]; grind
  have hb : val M ≤ 1 := by rw [f5]; grind
  have c1 := big_100 (B := val M) (by grind)
  obtain ⟨fD, _⟩ := sub_near r1 f1 hD (B := val M) b1 b2 c1
  have m1 := (sub_mono r1 f1 hD (by grind) (by grind) (z := M)).1 b1
  have m2 := (sub_mono r1 f1 hD (by grind) (by grind) (z := neg M)).2 (by rw [vneg]; exact b2)
  rw [vneg] at m2
  refine ⟨R, I, D, M, ?_, ?_, ?_, leq_val fD f4 m1 m2, leq_val i1 f4 (by rw [f5]; grind) (by rw [f5]; grind)⟩
  · unfold formT
    rw [e1, e2]
  · rw [Fnt.ab r1, Fnt.ab f1, hD]
  · rw [Fnt.ab f1]
    exact hM
end Go.Proofs.Ytjnggbpifclpcaa
