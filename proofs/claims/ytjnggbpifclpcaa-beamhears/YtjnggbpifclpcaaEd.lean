/- The numbers of Steer: their magnitude, and those of the bearing turned over. -/
import Derived.Test.YtjnggbpifclpcaaEc
import Derived.Test.YtjnggbpifclpcaaVh
namespace Go.Proofs.Ytjnggbpifclpcaa
open Go.ChangeShapes Go.WideShapes Go.ChangeAt Go.RowKit Go.Fl Ieee
attribute [local go_sem] run_store_float run_store_complex call34 call33 run_neg fold_eq fold_ne fold_lt fold_gt abs_eq

theorem fbound : Fnt 4386506037058863104 ∧ val 4386506037058863104 = 16 * u53 := ⟨by unfold Fnt; decide, by decide +kernel⟩
theorem near_le {D : Nat} (h : Fnt D) (h1 : val D ≤ 16 * u53) (h2 : -(16 * u53) ≤ val D) : (ltF (ab (Go.Fl.abs D)) (ab 4386506037058863104) || eqF (ab (Go.Fl.abs D)) (ab 4386506037058863104)) = true := by
  rw [ltF_val (fin_abs h) fbound.1, eqF_val (fin_abs h) fbound.1, fbound.2]
  have : val (Go.Fl.abs D) ≤ 16 * u53 := by rw [vabs]; unfold absR; split <;> grind
  by_cases he : val (Go.Fl.abs D) = 16 * u53
  · simp [he]
  · have : val (Go.Fl.abs D) < 16 * u53 := by grind
    simp [this]
theorem kind_fin {c s : Nat} (hc : Fnt c) (hs : Fnt s) : kindF (ab c) (ab s) = 0 := by
  have h1 := fin_of hc
  have h2 := fin_of hs
  unfold fin at h1 h2
  rw [Bool.and_eq_true, Bool.not_eq_true'] at h1 h2
  unfold kindF infF nanF
  rw [h1.1, h1.2, h2.1, h2.2]
  rfl
theorem mag_one {m n : Nat} (fm : Fnt m) (fn : Fnt n) (hn0 : 0 ≤ val n) (hmn : val n ≤ val m) (hQ : Near (val m * val m + val n * val n) 1 (11 * u53)) : ∃ A D, magF (some m) (some n) = some A ∧ bin .sub (some A) (some 4607182418800017408) = some D ∧ Fnt D ∧ val D ≤ 16 * u53 ∧ -(16 * u53) ≤ val D ∧ isN A = false := by
  obtain ⟨q, t, v, r, A, D, e1, e2, e3, e4, e5, e6, e7, e8, e9, e10, e11⟩ := abs_one fm fn hn0 hmn hQ
  refine ⟨A, D, ?_, e7, e8, e9, e10, bin_num e6⟩
  unfold magF
  have g := eqF_val fm fzero.1
  rw [Fnt.ab fm, fzero.2] at g
  have o : ab 4607182418800017408 = some 4607182418800017408 := rfl
  rw [g, if_neg (by simp; grind), e1, e2, o, e3]
  show bin .mul (some m) (double.sqrt v) = some A
  rw [e5, e6]
theorem absR_nn (x : Rat) : 0 ≤ absR x := by unfold absR; split <;> grind
theorem absR_sq (x : Rat) : absR x * absR x = x * x := by unfold absR; split <;> grind
/-- The magnitude of a good point. -/
theorem abs_near {c s : Nat} (h : Good c s) : ∃ A D, absF (ab c) (ab s) = some A ∧ bin .sub (some A) (some 4607182418800017408) = some D ∧ (ltF (ab (Go.Fl.abs D)) (ab 4386506037058863104) || eqF (ab (Go.Fl.abs D)) (ab 4386506037058863104)) = true ∧ bin .sub (ab A) (ab 4607182418800017408) = bin .sub (some A) (some 4607182418800017408) := by
  unfold absF
  rw [kind_fin h.fc h.fs, if_neg (by decide), if_neg (by decide), Fnt.ab h.fc, Fnt.ab h.fs]
  simp only [Option.map_some]
  have fc := fin_abs h.fc
  have fs := fin_abs h.fs
  have vc := vabs c
  have vs := vabs s
  have nc := absR_nn (val c)
  have ns := absR_nn (val s)
  have qc := absR_sq (val c)
  have qs := absR_sq (val s)
  have hn := h.near
  have hl := ltF_val fc fs
  rw [Fnt.ab fc, Fnt.ab fs] at hl
  rw [hl]
  by_cases hlt : val (Go.Fl.abs c) < val (Go.Fl.abs s)
  · rw [if_pos (by simpa using hlt)]
    obtain ⟨A, D, h1, h2, h3, h4, h5, h6⟩ := mag_one fs fc (by grind) (by grind) (by rw [vc, vs, qc, qs, Rat.add_comm]; exact hn)
    exact ⟨A, D, h1, h2, near_le h3 h4 h5, by rw [ab_some h6]; rfl⟩
  · rw [if_neg (by simpa using hlt)]
    obtain ⟨A, D, h1, h2, h3, h4, h5, h6⟩ := mag_one fc fs (by grind) (by grind) (by rw [vc, vs, qc, qs]; exact hn)
    exact ⟨A, D, h1, h2, near_le h3 h4 h5, by rw [ab_some h6]; rfl⟩
theorem small_k : ∀ k : Fin 64, Fnt (floatOfInt .f64 (k.val : Int)) ∧ val (floatOfInt .f64 (k.val : Int)) ≤ pw 6 ∧ -pw 6 ≤ val (floatOfInt .f64 (k.val : Int)) := by
  unfold Fnt
  decide +kernel
theorem small_int {k : Nat} (hk : k < 64) : PB (ab (floatOfInt .f64 (k : Int))) 6 := by
  obtain ⟨h1, h2, h3⟩ := small_k ⟨k, hk⟩
  exact ⟨_, Fnt.ab h1, h1, h2, h3⟩
theorem p901 : val 8664925683060834304 = pw (900 + 1) := by decide +kernel
theorem p907 : val 8691947280825057280 = pw (6 + 901) := by decide +kernel
/-- Steer's numbers, and those of the bearing turned over. -/
theorem steer_even {x y : Nat} (hx : PB (some x) 900) (hy : Fnt y) {k : Nat} (hk : k < 64) : ∃ c s s', steerF (some x) (some y) k = (some c, some s) ∧ steerF (some x) (some (Go.Fl.neg y)) k = (some c, some s') ∧ Good c s ∧ Ov s s' := by
  obtain ⟨x', hx', fx, x1, x2⟩ := id hx
  cases hx'
  obtain ⟨c0, s0, t1, t2, hg0⟩ := turn_any hy
  obtain ⟨-, s1, s1', t3, t4, ho⟩ := turn_neg_any hy
  rw [t2, Option.some.injEq] at t3
  subst t3
  have hl := hg0.le
  have e1 : pw 1 = 2 := by decide +kernel
  obtain ⟨a, a', m1, m2, ho1⟩ := mul_ov fx hg0.fs ho
  have hp := PB.mul hx (b := some s0) (l := 1) ⟨s0, rfl, hg0.fs, by rw [e1]; exact hl.1, by rw [e1]; exact hl.2⟩ p901 (by omega)
  rw [m1] at hp
  obtain ⟨a0, ea, fa, b1, b2⟩ := id hp
  cases ea
  obtain ⟨K, eK, fK, k1, k2⟩ := id (small_int hk)
  obtain ⟨r, r', n1, n2, ho2⟩ := mul_ov fK fa ho1
  have hp2 := PB.mul (small_int hk) hp p907 (by omega)
  rw [eK, n1] at hp2
  obtain ⟨r0, er, fr, c1, c2⟩ := hp2
  cases er
  have hb := pw_mono (show (6 + (900 + 1) : Int) ≤ 1000 by omega)
  have fr' : Fnt r' := by
    rcases ho2 with rfl | ⟨_, z⟩
    · exact fin_neg fr
    · have := zr_abs z
      unfold Fnt
      unfold Go.Fl.abs at this
      omega
  obtain ⟨q1, s, s', q2, q3, q4⟩ := turn_ov fr fr' (by grind) (by grind) ho2
  obtain ⟨c, s2, g1, g2, hg⟩ := turn_good fr (by grind) (by grind)
  rw [q2, Option.some.injEq] at g2
  subst g2
  refine ⟨c, s, s', ?_, ?_, hg, q4⟩
  · unfold steerF steerX stepF
    rw [t2, m1, eK, n1, g1, q2]
  · unfold steerF steerX stepF
    rw [t4, m2, eK, n2, q1, g1, q3]
theorem steer_first {x y : Nat} (hx : PB (some x) 900) (hy : Fnt y) : steerF (some x) (some y) 0 = (some 4607182418800017408, some 0) := by
  obtain ⟨x', hx', fx, x1, x2⟩ := id hx
  cases hx'
  obtain ⟨c0, s0, t1, t2, hg0⟩ := turn_any hy
  have hl := hg0.le
  have e1 : pw 1 = 2 := by decide +kernel
  have hp := PB.mul hx (b := some s0) (l := 1) ⟨s0, rfl, hg0.fs, by rw [e1]; exact hl.1, by rw [e1]; exact hl.2⟩ p901 (by omega)
  obtain ⟨a, m1, fa, -, -⟩ := hp
  obtain ⟨r, n1, hz⟩ := Zr.mul (x := 0) lin0 fa
  have e0 : ab (floatOfInt .f64 ((0 : Nat) : Int)) = some 0 := by decide +kernel
  have fr : Fnt r := by
    have := zr_abs hz
    unfold Fnt
    unfold Go.Fl.abs at this
    omega
  unfold steerF steerX stepF
  rw [t2, m1, e0, n1, (turn_zero hz fr).1, (turn_zero hz fr).2]
theorem ov_eq {s s' : Nat} (hs : Fnt s) (h : Ov s s') : eqF (ab s') (ab (Go.Fl.neg s)) = true := by
  rcases h with rfl | ⟨z1, z2⟩
  · rw [eqF_self, isN_n hs.num]; rfl
  · rw [ab_some z2.num, ab_some z1.neg.num, eqF_lin z2.num z1.neg.num]
    have a : lin s' = 0 := z2
    have b : lin (Go.Fl.neg s) = 0 := z1.neg
    rw [a, b]; rfl
end Go.Proofs.Ytjnggbpifclpcaa
