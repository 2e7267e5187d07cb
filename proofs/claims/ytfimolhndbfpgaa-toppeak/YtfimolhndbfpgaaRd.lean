/- The units that the program reckons are near the points. -/
import Derived.Test.YtfimolhndbfpgaaRc
import Derived.Test.YtfimolhndbfpgaaWn
import Derived.Test.YtfimolhndbfpgaaWi
namespace Go.Proofs.Ytfimolhndbfpgaa
open Go.Fl Ieee Go.RowKit

theorem pz (n : Nat) : ((pI n : Int) : Rat) = pw (n : Int) := by rw [pw_nat]; exact Rat.intCast_natCast _
theorem sc_pw : sc = pw (-110) := by decide +kernel
theorem r51 : pw (-51) = 1 / 2251799813685248 := by decide +kernel
theorem dist3 (a P e Q w : Rat) : (a * P - e * Q) * w = a * (P * w) - e * (Q * w) := by grind
theorem near_val {x : Nat} {e : Int} (h1 : vz x * pI 110 - e * pI 1074 ≤ pI 1133) : val x - (e : Rat) * sc ≤ 1 / 2251799813685248 := by
  have hp := pw_pos (-1184)
  have h := Rat.mul_le_mul_of_nonneg_right (Rat.intCast_le_intCast.2 h1) (Rat.le_of_lt hp)
  rw [Rat.intCast_sub, Rat.intCast_mul, Rat.intCast_mul, pz, pz, pz] at h
  have a1 : pw ((1133 : Nat) : Int) * pw (-1184) = pw (-51) := by rw [← pw_add]; congr 1
  have a2 : pw ((110 : Nat) : Int) * pw (-1184) = pw (-1074) := by rw [← pw_add]; congr 1
  have a3 : pw ((1074 : Nat) : Int) * pw (-1184) = pw (-110) := by rw [← pw_add]; congr 1
  rw [a1, r51] at h
  have e1 : ((vz x : Rat) * pw ((110 : Nat) : Int) - (e : Rat) * pw ((1074 : Nat) : Int)) * pw (-1184) = (vz x : Rat) * pw (-1074) - (e : Rat) * pw (-110) := by rw [dist3, a2, a3]
  rw [e1] at h
  rw [sc_pw]
  exact h
theorem near_val' {x : Nat} {e : Int} (h1 : e * pI 1074 - vz x * pI 110 ≤ pI 1133) : -(1 / 2251799813685248) ≤ val x - (e : Rat) * sc := by
  have hp := pw_pos (-1184)
  have h := Rat.mul_le_mul_of_nonneg_right (Rat.intCast_le_intCast.2 h1) (Rat.le_of_lt hp)
  rw [Rat.intCast_sub, Rat.intCast_mul, Rat.intCast_mul, pz, pz, pz] at h
  have a1 : pw ((1133 : Nat) : Int) * pw (-1184) = pw (-51) := by rw [← pw_add]; congr 1
  have a2 : pw ((110 : Nat) : Int) * pw (-1184) = pw (-1074) := by rw [← pw_add]; congr 1
  have a3 : pw ((1074 : Nat) : Int) * pw (-1184) = pw (-110) := by rw [← pw_add]; congr 1
  rw [a1, r51] at h
  have e1 : ((e : Rat) * pw ((1074 : Nat) : Int) - (vz x : Rat) * pw ((110 : Nat) : Int)) * pw (-1184) = (e : Rat) * pw (-110) - (vz x : Rat) * pw (-1074) := by rw [dist3, a2, a3]
  rw [e1] at h
  rw [sc_pw]
  have e2 : val x = (vz x : Rat) * pw (-1074) := rfl
  rw [← e2] at h
  generalize val x = v at h ⊢
  grind
/-- A float that is near a part of a point. -/
def NP (o : Option Nat) (r : Rat) : Prop := ∃ x, o = some x ∧ Fnt x ∧ val x - r ≤ 1 / 2251799813685248 ∧ -(1 / 2251799813685248) ≤ val x - r
theorem np_of {o : Option Nat} {e : Int} (h : nearV o e = true) : NP o ((e : Rat) * sc) := by
  cases o with
  | none => simp [nearV] at h
  | some x =>
    simp only [nearV, nearZ, Bool.and_eq_true, decide_eq_true_eq] at h
    exact ⟨x, rfl, h.1, near_val h.2.1, near_val' h.2.2⟩
theorem NP.neg {o : Option Nat} {r : Rat} (h : NP o r) : NP (o.map Go.Fl.neg) (-r) := by
  obtain ⟨x, rfl, f, h1, h2⟩ := h
  exact ⟨_, rfl, fin_neg f, by rw [vneg]; grind, by rw [vneg]; grind⟩
theorem NP.clean {o : Option Nat} {r : Rat} (h : NP o r) : NP (cleanF o) r := by
  obtain ⟨x, rfl, f, h1, h2⟩ := h
  unfold cleanF
  split
  · rename_i he
    have f0 : Fnt 0 := by unfold Fnt; decide
    rw [← Fnt.ab f, eqF_val f f0, decide_eq_true_eq, val0] at he
    exact ⟨0, rfl, f0, by rw [val0]; grind, by rw [val0]; grind⟩
  · exact ⟨x, rfl, f, h1, h2⟩
theorem east_np {j : Nat} (hj : j < 129) : NP (eastC (unitX j 1024)) (((EZ j).1 : Rat) * sc) ∧ NP (eastS (unitX j 1024)) (((EZ j).2 : Rat) * sc) := by
  have h := okE_all j hj
  simp only [okE, Bool.and_eq_true] at h
  exact ⟨np_of h.1, np_of h.2⟩
theorem twiceK_lt {k : Nat} (hk : k < 512) : twiceK k < 129 := by
  unfold twiceK swapK onceK flipK
  simp only [decide_eq_true_eq]
  split <;> split <;> omega
theorem unit_np (back : Bool) {k : Nat} (hk : k < 512) : NP (unitC (wayOf back * k) 1024) (((TZ k).1 : Rat) * sc) ∧ NP (unitS (wayOf back * k) 1024) (if back then ((TZ k).2 : Rat) * sc else -(((TZ k).2 : Rat) * sc)) := by
  have h : okF back k = true := by
    cases back
    · exact okF_there k hk
    · exact okF_back k hk
  simp only [okF, Bool.and_eq_true, beq_iff_eq] at h
  obtain ⟨⟨⟨⟨h1, h2⟩, h3⟩, h4⟩, h5⟩ := h
  obtain ⟨e1, e2⟩ := east_np (twiceK_lt hk)
  have c : NP (if swapK k = true then eastS (unitX (twiceK k) 1024) else eastC (unitX (twiceK k) 1024)) ((cZ k : Rat) * sc) := by
    unfold cZ; split
    · exact e2
    · exact e1
  have s : NP (if swapK k = true then eastC (unitX (twiceK k) 1024) else eastS (unitX (twiceK k) 1024)) ((sZ k : Rat) * sc) := by
    unfold sZ; split
    · exact e1
    · exact e2
  constructor
  · have e : unitC (wayOf back * k) 1024 = cleanF (if flipK k = true then (if swapK k = true then eastS (unitX (twiceK k) 1024) else eastC (unitX (twiceK k) 1024)).map Go.Fl.neg else (if swapK k = true then eastS (unitX (twiceK k) 1024) else eastC (unitX (twiceK k) 1024))) := by
      unfold unitC turnC pointC
      rw [if_neg (by decide), if_pos h1, h2, h3, h4]
    rw [e]
    refine NP.clean ?_
    show NP _ (((if flipK k then -cZ k else cZ k : Int) : Rat) * sc)
    split
    · have := c.neg
      rw [Rat.intCast_neg]
      rwa [show -((cZ k : Rat) * sc) = -(cZ k : Rat) * sc by grind] at this
    · exact c
  · have e : unitS (wayOf back * k) 1024 = cleanF (if (!back && decide (0 < k)) = true then (if swapK k = true then eastC (unitX (twiceK k) 1024) else eastS (unitX (twiceK k) 1024)).map Go.Fl.neg else (if swapK k = true then eastC (unitX (twiceK k) 1024) else eastS (unitX (twiceK k) 1024))) := by
      unfold unitS turnS pointS
      rw [if_neg (by decide), if_pos h1, h3, h4, h5]
    rw [e]
    refine NP.clean ?_
    show NP _ (if back = true then (sZ k : Rat) * sc else -((sZ k : Rat) * sc))
    cases back
    · by_cases hk0 : 0 < k
      · simp only [hk0, Bool.not_false, Bool.true_and, decide_true, if_true]
        exact s.neg
      · obtain rfl : k = 0 := by omega
        have z : (sZ 0 : Rat) * sc = 0 := by decide +kernel
        rw [z] at s ⊢
        simpa using s
    · simpa using s
end Go.Proofs.Ytfimolhndbfpgaa

/- The units of a transform are near the points; a division by 2^M. -/
namespace Go.Proofs.Ytfimolhndbfpgaa
open Go.Fl Ieee Go.RowKit

def twOf (back : Bool) (a : Nat) : Q2 := if back then T a else Tj a
theorem tw_of (back : Bool) : Tw (twOf back) := by
  cases back
  · exact tw_there
  · exact tw_back
theorem T_low {k : Nat} (hk : k < 512) : T k = qz (TZ k) := by
  unfold T
  rw [if_pos (by rw [Nat.div_eq_of_lt hk]), Nat.mod_eq_of_lt hk]
theorem unit_nf (back : Bool) {k : Nat} (hk : k < 512) : NF (unitC (wayOf back * k) 1024, unitS (wayOf back * k) 1024) (twOf back k) dl := by
  obtain ⟨⟨x, ex, fx, x1, x2⟩, ⟨y, ey, fy, y1, y2⟩⟩ := unit_np back hk
  refine ⟨x, y, by rw [ex, ey], fx, fy, ?_⟩
  have e : Le (qs (vv x y) (twOf back k)) (3 / 2 * (1 / 2251799813685248)) := by
    cases back
    · refine Le.of ?_ ?_ ?_ ?_ <;> (unfold twOf Tj; rw [T_low hk]; simp only [qs, vv, qz, qj] at *; first | exact x1 | exact x2 | (simp at y1 y2; grind))
    · refine Le.of ?_ ?_ ?_ ?_ <;> (unfold twOf; rw [if_pos rfl, T_low hk]; simp only [qs, vv, qz] at *; first | exact x1 | exact x2 | (simp at y1 y2; grind))
  refine e.mono ?_
  unfold dl; grind
theorem unit_m (back : Bool) {M j : Nat} (hM : M ≤ 10) (hj : j < 2 ^ M / 2) : unitF (wayOf back) (2 ^ M) j = (unitC (wayOf back * ((j * 2 ^ (10 - M) : Nat) : Int)) 1024, unitS (wayOf back * ((j * 2 ^ (10 - M) : Nat) : Int)) 1024) := by
  have h := okX_all M (by omega) j hj
  simp only [okX, Bool.and_eq_true, beq_iff_eq] at h
  have hx : unitX (wayOf back * j) ((2 ^ M : Nat) : Int) = unitX (wayOf back * ((j * 2 ^ (10 - M) : Nat) : Int)) 1024 := by
    cases back
    · exact h.2
    · exact h.1
  have hp : ¬ ((2 ^ M : Nat) : Int) < 1 := by
    have : 0 < 2 ^ M := Nat.pow_pos (by omega)
    omega
  unfold unitF unitC unitS
  rw [if_neg hp, if_neg hp, hx, if_neg (by decide), if_neg (by decide)]
theorem units_nf (back : Bool) {M : Nat} (hM : M ≤ 10) : ∀ m j, m < M → j < 2 ^ m → NF (uOf back M j (m + 1)) (twOf back (j * 2 ^ (10 - (m + 1)))) dl := by
  intro m j hm hj
  unfold uOf
  rw [unit_m back hM (uAt_lt (by omega) hj)]
  have e1 : 2 ^ M / 2 ^ (m + 1) = 2 ^ (M - (m + 1)) := Nat.pow_div (by omega) (by omega)
  have e : j * (2 ^ M / 2 ^ (m + 1)) * 2 ^ (10 - M) = j * 2 ^ (10 - (m + 1)) := by
    rw [e1, Nat.mul_assoc, ← Nat.pow_add]
    congr 2; omega
  rw [e]
  refine unit_nf back ?_
  have h2 : j * 2 ^ (10 - (m + 1)) < 2 ^ m * 2 ^ (10 - (m + 1)) := Nat.mul_lt_mul_of_pos_right hj (Nat.pow_pos (by omega))
  rw [← Nat.pow_add, show m + (10 - (m + 1)) = 9 by omega] at h2
  exact h2
theorem bin_some_quo {x y : Nat} (hx : Fnt x) (hy : Fnt y) (h0 : 0 < val y) : ∃ r, bin .quo (some x) (some y) = some r := by
  obtain ⟨s, m, i, ex⟩ := fin_read hx
  obtain ⟨t, n, j, ey⟩ := fin_read hy
  have vy := val_read ey
  have hn : ¬ n = 0 := by
    intro h
    subst h
    have : dv t 0 j = 0 := by cases t <;> simp [dv, sgn]
    rw [this] at vy; grind
  show ∃ r, double.div x y = some r
  unfold Format.div
  rw [ex, ey]
  simp only [Datum.quotient, if_neg hn, Option.map_some]
  exact ⟨_, rfl⟩
/-- x divided by y, y above 0. -/
theorem quo_any {x y : Nat} (hx : Fnt x) (hy : Fnt y) (hy0 : 0 < val y) {κ B : Rat} (hκ : κ * val y = val x) (h1 : κ ≤ B) (h2 : -B ≤ κ) (hB : B ≤ pw 990) : ∃ r, bin .quo (some x) (some y) = some r ∧ Fnt r ∧ Near (val r) κ (pw (-52) * B + pw (-1075)) := by
  rcases (Rat.le_total : 0 ≤ val x ∨ val x ≤ 0) with h | h
  · obtain ⟨r, hr⟩ := bin_some_quo hx hy hy0
    obtain ⟨f, n, _⟩ := quo_near hx hy h hy0 hr hκ h1 hB
    exact ⟨r, hr, f, n⟩
  · obtain ⟨r, hr⟩ := bin_some_quo (fin_neg hx) hy hy0
    obtain ⟨f, n, _⟩ := quo_near (fin_neg hx) hy (by rw [vneg]; grind) hy0 hr (κ := -κ) (by rw [vneg]; grind) (by grind) hB
    have e := quo_neg (fin_neg hx) hy
    rw [neg_neg', hr] at e
    refine ⟨Go.Fl.neg r, e, fin_neg f, ?_⟩
    rw [vneg]
    unfold Near at *
    constructor <;> grind
end Go.Proofs.Ytfimolhndbfpgaa

/- Quick's numbers, of whole numbers, are near Match's. -/
namespace Go.Proofs.Ytfimolhndbfpgaa
open Go.Fl Ieee Go.RowKit

def conjC (c : C2) : C2 := (c.1, c.2.map neg)
theorem NF.conj {c : C2} {z : Q2} {E : Rat} (h : NF c z E) : NF (conjC c) (qj z) E := by
  obtain ⟨x, y, rfl, fx, fy, l⟩ := h
  refine ⟨x, Go.Fl.neg y, rfl, fx, fin_neg fy, l.conj.cast ?_⟩
  unfold qs vv qj
  rw [vneg]; ext <;> grind
theorem NF.whole {c : C2} {z : Int} (h : W2 c z) : NF c (rq (z : Rat)) 0 := by
  obtain ⟨⟨x, ex, fx, vx⟩, ⟨y, ey, fy, vy⟩⟩ := h
  refine ⟨x, y, Prod.ext ex ey, fx, fy, Le.zero.cast ?_⟩
  unfold qs vv rq
  rw [vx, vy]
  ext <;> simp <;> grind
/-- What Quick tells at a place, ahead of the division. -/
def quickH (M : Nat) (Fa Fb : Nat → C2) (d : Nat) : C2 := hv (uOf true M) M (fun k => mulC (hv (uOf false M) M Fa k) (conjC (hv (uOf false M) M Fb k))) d
theorem int_rat {z : Int} {K : Nat} (h : z.natAbs ≤ K) : (z : Rat) ≤ (K : Rat) ∧ -(K : Rat) ≤ (z : Rat) := by
  constructor
  · rw [← Rat.intCast_natCast]; exact Rat.intCast_le_intCast.2 (by omega)
  · rw [← Rat.intCast_natCast, ← Rat.intCast_neg]; exact Rat.intCast_le_intCast.2 (by omega)
theorem pow_le (M : Nat) (hM : M ≤ 10) : ((2 ^ M : Nat) : Rat) ≤ 1024 := by
  have : ((2 ^ M : Nat) : Rat) ≤ ((2 ^ 10 : Nat) : Rat) := Rat.natCast_le_natCast.2 (Nat.pow_le_pow_right (by omega) hM)
  have e : ((2 ^ 10 : Nat) : Rat) = 1024 := by decide +kernel
  grind
theorem m_le (M : Nat) (hM : M ≤ 10) : (M : Rat) ≤ 10 ∧ (0 : Rat) ≤ (M : Rat) := by
  have : ((M : Nat) : Rat) ≤ ((10 : Nat) : Rat) := Rat.natCast_le_natCast.2 hM
  have e : ((10 : Nat) : Rat) = 10 := by decide +kernel
  exact ⟨by grind, Rat.natCast_nonneg⟩
theorem eb_le {M : Nat} (hM : M ≤ 10) {X e0 : Rat} (hX : 0 ≤ X) (he : 0 ≤ e0) : eb M X e0 ≤ ((2 ^ M : Nat) : Rat) * (e0 + 10 * et * (X + e0)) := by
  obtain ⟨h1, h2⟩ := m_le M hM
  have et0 : 0 ≤ et := by unfold et; decide +kernel
  unfold eb
  have : (M : Rat) * (et * (X + e0)) ≤ 10 * (et * (X + e0)) := Rat.mul_le_mul_of_nonneg_right h1 (Rat.mul_nonneg et0 (by grind))
  exact Rat.mul_le_mul_of_nonneg_left (by grind) Rat.natCast_nonneg
theorem big900 {x : Rat} (h : x ≤ 1000000000000000000) : x ≤ pw 900 := by
  have e : (1000000000000000000 : Rat) ≤ pw 60 := by decide +kernel
  exact Rat.le_trans h (Rat.le_trans e (pw_mono (by omega)))
theorem big1000 {x : Rat} (h : x ≤ 1000000000000000000) : x ≤ pw 1000 := Rat.le_trans (big900 h) (pw_mono (by omega))
/-- The transform of a row of whole numbers. -/
theorem there_nf {M : Nat} (hM : M ≤ 10) {F : Nat → C2} {a : Nat → Int} {K : Nat} (hK : 1 ≤ K) (hK2 : K ≤ 1000) (hF : ∀ j, j < 2 ^ M → W2 (F j) (a j)) (ha : ∀ j, (a j).natAbs ≤ K) {k : Nat} (hk : k < 2 ^ M) :
    NF (hv (uOf false M) M F k) (SQ Tj M (fun i => rq (a i : Rat)) k) (10240 * et * K) ∧ Le (SQ Tj M (fun i => rq (a i : Rat)) k) (1024 * K) := by
  have k1 : (1 : Rat) ≤ (K : Rat) := by
    have : ((1 : Nat) : Rat) ≤ ((K : Nat) : Rat) := Rat.natCast_le_natCast.2 hK
    simpa using this
  have k2 : (K : Rat) ≤ 1000 := by
    have : ((K : Nat) : Rat) ≤ ((1000 : Nat) : Rat) := Rat.natCast_le_natCast.2 hK2
    have e : ((1000 : Nat) : Rat) = 1000 := by decide +kernel
    grind
  have lx : ∀ j, j < 2 ^ M → Le (rq (a j : Rat)) (K : Rat) := fun j _ => rq_le (int_rat (ha j)).1 (int_rat (ha j)).2
  have hp := pow_le M hM
  have et0 : 0 ≤ et := by unfold et; decide +kernel
  have h := fft hM tw_there (fun m j h1 h2 => units_nf false hM m j h1 h2) (X := (K : Rat)) (e0 := 0) k1 (by grind) (big900 (by grind)) M (Nat.le_refl _) F (fun i => rq (a i : Rat)) (fun j hj => (NF.whole (hF j hj))) lx k hk
  refine ⟨h.mono ?_, (SQ_le tw_there (by grind) lx k).mono ?_⟩
  · refine Rat.le_trans (eb_le hM (by grind) (by grind)) ?_
    have := Rat.mul_le_mul_of_nonneg_right hp (show 0 ≤ 10 * (et * K) from Rat.mul_nonneg (by grind) (Rat.mul_nonneg et0 (by grind)))
    grind
  · exact Rat.mul_le_mul_of_nonneg_right hp (by grind)
theorem dot_rat (a b : Nat → Int) (P : Rat) (d : Nat) : ∀ n, sumQ n (fun j => rq (P * ((a (j + d) : Rat) * (b j : Rat)))) = rq (P * (dotZ (fun i => a (i + d)) b n : Rat))
  | 0 => by simp only [sumQ, dotZ, rq]; ext <;> simp <;> grind
  | n + 1 => by
    rw [sumQ, dot_rat a b P d n, dotZ, Rat.intCast_add, Rat.intCast_mul]
    unfold qa rq; ext <;> grind
theorem c_bound {K : Rat} (k1 : 1 ≤ K) : (10240 * et * K) * (1024 * 1 + 10240 * et * 1) + 1024 * K * (10240 * et * 1) + 1 / 562949953421312 * ((1024 * K + 10240 * et * K) * (1024 * 1 + 10240 * et * 1)) ≤ K / 6000000 := by
  unfold et; grind
theorem b_bound {K : Rat} (k1 : 1 ≤ K) : K / 6000000 + 10 * et * (1048576 * K + K / 6000000) + 1048576 * (K * 1 * (4 * eps)) ≤ K / 4000000 := by
  unfold et eps tny; grind
theorem one_rat {K : Nat} (hK : 1 ≤ K) (hK2 : K ≤ 1000) : (1 : Rat) ≤ (K : Rat) ∧ (K : Rat) ≤ 1000 := by
  constructor
  · have : ((1 : Nat) : Rat) ≤ ((K : Nat) : Rat) := Rat.natCast_le_natCast.2 hK
    simpa using this
  · have : ((K : Nat) : Rat) ≤ ((1000 : Nat) : Rat) := Rat.natCast_le_natCast.2 hK2
    have e : ((1000 : Nat) : Rat) = 1000 := by decide +kernel
    grind
/-- The transform back of the products: 2^M times what Match tells, nearly. -/
theorem back_nf {M : Nat} (hM : M ≤ 10) {Fa Fb : Nat → C2} {a b : Nat → Int} {K n d : Nat} (hK : 1 ≤ K) (hK2 : K ≤ 1000) (hFa : ∀ j, j < 2 ^ M → W2 (Fa j) (a j)) (hFb : ∀ j, j < 2 ^ M → W2 (Fb j) (b j)) (ha : ∀ j, (a j).natAbs ≤ K) (hb : ∀ j, (b j).natAbs ≤ 1) (hb0 : ∀ j, n ≤ j → b j = 0) (hd : n + d ≤ 2 ^ M) (hd2 : d < 2 ^ M) :
    NF (quickH M Fa Fb d) (rq (((2 ^ M : Nat) : Rat) * (dotZ (fun i => a (i + d)) b (2 ^ M) : Rat))) (((2 ^ M : Nat) : Rat) * ((K : Rat) / 4000000)) := by
  obtain ⟨k1, k2⟩ := one_rat hK hK2
  have hp := pow_le M hM
  have hp0 : (0 : Rat) ≤ ((2 ^ M : Nat) : Rat) := Rat.natCast_nonneg
  have et0 : 0 ≤ et := by unfold et; decide +kernel
  have one : ((1 : Nat) : Rat) = 1 := by simp
  have hC : ∀ k, k < 2 ^ M → NF (mulC (hv (uOf false M) M Fa k) (conjC (hv (uOf false M) M Fb k))) (qm (SQ Tj M (fun i => rq (a i : Rat)) k) (qj (SQ Tj M (fun j => rq (b j : Rat)) k))) ((K : Rat) / 6000000) ∧ Le (qm (SQ Tj M (fun i => rq (a i : Rat)) k) (qj (SQ Tj M (fun j => rq (b j : Rat)) k))) (1048576 * K) := by
    intro k hk
    obtain ⟨n1, l1⟩ := there_nf hM hK hK2 hFa ha hk
    obtain ⟨n2, l2⟩ := there_nf (K := 1) hM (by omega) (by omega) hFb hb hk
    rw [one] at n2 l2
    have z1 : 1 ≤ (1024 * (K : Rat) + 10240 * et * K) * (1024 * 1 + 10240 * et * 1) := by
      have q : 0 ≤ 10240 * et * (K : Rat) := Rat.mul_nonneg (Rat.mul_nonneg (by grind) et0) (by grind)
      have := mul_mono2 (a := 1) (b := 1) (A := 1024 * (K : Rat) + 10240 * et * K) (B := 1024 * 1 + 10240 * et * 1) (by grind) (by grind) (by grind) (by grind)
      grind
    have m := NF.mul n1 n2.conj l1 l2.conj z1 (big1000 (by unfold et; grind))
    exact ⟨m.mono (c_bound k1), (l1.mul l2.conj).mono (by grind)⟩
  have h := fft hM tw_back (fun m j h1 h2 => units_nf true hM m j h1 h2) (X := 1048576 * (K : Rat)) (e0 := (K : Rat) / 6000000) (by grind) (by grind) (big900 (by grind)) M (Nat.le_refl _) _ _ (fun j hj => (hC j hj).1) (fun j hj => (hC j hj).2) d hd2
  have cv := conv hM (fun i => (a i : Rat)) (fun j => (b j : Rat)) (A := (K : Rat)) (B := 1) (fun i => int_rat (ha i)) (fun j => by have := int_rat (hb j); rw [one] at this; exact this) (n := n) (d := d) (fun j hj => by rw [hb0 j hj]; rfl) hd
  rw [dot_rat] at cv
  refine (h.move cv).mono ?_
  have e1 := eb_le hM (X := 1048576 * (K : Rat)) (e0 := (K : Rat) / 6000000) (by grind) (by grind)
  obtain ⟨P, hP⟩ : ∃ P, ((2 ^ M : Nat) : Rat) = P := ⟨_, rfl⟩
  rw [hP] at e1 hp hp0 ⊢
  have eps0 : 0 ≤ eps := (T_prod 0 0).nonneg
  have q0 : 0 ≤ (K : Rat) * 1 * (4 * eps) := Rat.mul_nonneg (by grind) (by grind)
  have e2 : P * (P * ((K : Rat) * 1 * (4 * eps))) ≤ 1048576 * ((K : Rat) * 1 * (4 * eps)) := by
    have := mul_mono2 hp0 hp0 hp hp
    have := Rat.mul_le_mul_of_nonneg_right this q0
    grind
  have e3 := Rat.mul_le_mul_of_nonneg_left (Rat.le_trans (Rat.add_le_add_left.2 e2) (b_bound k1)) hp0
  grind
theorem dotZ_zero {F G : Nat → Int} {n : Nat} (h : ∀ j, n ≤ j → G j = 0) : ∀ m, n ≤ m → dotZ F G m = dotZ F G n
  | 0, hm => by obtain rfl : n = 0 := by omega
                rfl
  | m + 1, hm => by
    by_cases e : n = m + 1
    · subst e; rfl
    · rw [dotZ, dotZ_zero h m (by omega), h m (by omega)]; omega
theorem inv_nonneg {P I : Rat} (h : P * I = 1) (hp : 1 ≤ P) : 0 ≤ I := by
  refine Rat.not_lt.1 fun h1 => ?_
  have := Rat.mul_pos (a := P) (b := -I) (by grind) (by grind)
  grind
theorem div_parts {P I v u E : Rat} (hI : P * I = 1) (i0 : 0 ≤ I) (h1 : v - P * u ≤ P * E) (h2 : -(P * E) ≤ v - P * u) : v * I - u ≤ E ∧ -E ≤ v * I - u := by
  have a1 := Rat.mul_le_mul_of_nonneg_right h1 i0
  have a2 := Rat.mul_le_mul_of_nonneg_right h2 i0
  have e1 : (v - P * u) * I = v * I - P * I * u := by grind
  have e2 : P * E * I = P * I * E := by grind
  have e3 : -(P * E) * I = -(P * I * E) := by grind
  rw [e1, e2, hI] at a1
  rw [e1, e3, hI] at a2
  constructor <;> grind
theorem fin_eq {I P c : Rat} {x y r q : Nat} (e8 : I * (P * c) = c) : qa (qs (vv r q) (qm (rq I) (vv x y))) (qm (rq I) (qs (vv x y) (rq (P * c)))) = qs (vv r q) (rq c) := by
  simp only [qa, qs, qm, rq, vv]
  generalize val x = vx
  generalize val y = vy
  generalize val r = vr
  generalize val q = vq
  generalize P * c = pc at e8 ⊢
  ext <;> grind
theorem fin_le {K h : Rat} (k1 : 1 ≤ K) (es : h ≤ 1 / 9007199254740992) : 3 / 2 * (1 / 4503599627370496 * (1025 * K) + h) + K / 4000000 ≤ K / 3800000 := by grind
/-- Quick, of whole numbers: off by less than K / 3800000. -/
theorem quick_nf {M : Nat} (hM : M ≤ 10) {Fa Fb : Nat → C2} {a b : Nat → Int} {K n d : Nat} (hK : 1 ≤ K) (hK2 : K ≤ 1000) (hFa : ∀ j, j < 2 ^ M → W2 (Fa j) (a j)) (hFb : ∀ j, j < 2 ^ M → W2 (Fb j) (b j)) (ha : ∀ j, (a j).natAbs ≤ K) (hb : ∀ j, (b j).natAbs ≤ 1) (hb0 : ∀ j, n ≤ j → b j = 0) (hd : n + d ≤ 2 ^ M) (hd2 : d < 2 ^ M) :
    NF (divF (2 ^ M) (quickH M Fa Fb d)) (rq ((dotZ (fun i => a (i + d)) b n : Int) : Rat)) ((K : Rat) / 3800000) := by
  obtain ⟨k1, k2⟩ := one_rat hK hK2
  have h := back_nf hM hK hK2 hFa hFb ha hb hb0 hd hd2
  rw [dotZ_zero hb0 (2 ^ M) (by omega)] at h
  obtain ⟨x, y, e, fx, fy, l⟩ := h
  have hp := pow_le M hM
  have hp1 := pow_one_le M
  have hB : Bd (fun i => a (i + d)) b n K := by
    intro i hi
    have h1 := ha (i + d)
    have h2 := hb i
    have h3 : (a (i + d) * b i).natAbs ≤ K * 1 := by rw [Int.natAbs_mul]; exact Nat.mul_le_mul h1 h2
    show -(K : Int) ≤ a (i + d) * b i ∧ a (i + d) * b i ≤ K
    omega
  have hc := dotZ_bound hB
  have hn1 : n ≤ 1024 := by
    have : 2 ^ M ≤ 2 ^ 10 := Nat.pow_le_pow_right (by omega) hM
    omega
  have hnM : n * K ≤ 1024 * 1000 := Nat.mul_le_mul hn1 hK2
  have hcr := int_rat (z := dotZ (fun i => a (i + d)) b n) (K := n * K) (by omega)
  obtain ⟨c, hcd⟩ : ∃ c, ((dotZ (fun i => a (i + d)) b n : Int) : Rat) = c := ⟨_, rfl⟩
  have hnK : ((n * K : Nat) : Rat) ≤ 1024 * (K : Rat) := by
    have : ((n * K : Nat) : Rat) ≤ ((1024 * K : Nat) : Rat) := Rat.natCast_le_natCast.2 (Nat.mul_le_mul_right K hn1)
    rw [Rat.natCast_mul 1024 K] at this
    have e : ((1024 : Nat) : Rat) = 1024 := by decide +kernel
    grind
  rw [hcd] at l hcr ⊢
  obtain ⟨P, hP⟩ : ∃ P, ((2 ^ M : Nat) : Rat) = P := ⟨_, rfl⟩
  rw [hP] at l hp hp1
  have hN : 2 ^ M < 2 ^ 53 := Nat.lt_of_le_of_lt (Nat.pow_le_pow_right (by omega) hM) (by decide)
  obtain ⟨fN, vN⟩ := int_val hN
  rw [hP] at vN
  have lx := l.fst
  have ly := l.snd
  obtain ⟨I, hPi⟩ : ∃ I, P * I = 1 := ⟨1 / P, by grind⟩
  clear hFa hFb ha hb hb0 hB hc hnM hn1 hN hd hd2 hM hcd
  have i0 : 0 ≤ I := inv_nonneg hPi hp1
  have qx := div_parts (v := val x) (u := c) hPi i0 lx.1 lx.2
  have qy := div_parts (v := val y) (u := 0) (E := (K : Rat) / 4000000) hPi i0 (by have := ly.1; simp only [qs, vv, rq] at this; grind) (by have := ly.2; simp only [qs, vv, rq] at this; grind)
  have big : 1025 * (K : Rat) ≤ pw 990 := Rat.le_trans (big900 (by grind)) (pw_mono (by omega))
  obtain ⟨r, er, fr, nr⟩ := quo_any fx fN (by rw [vN]; grind) (κ := val x * I) (B := 1025 * K) (by rw [vN]; grind) (by grind) (by grind) big
  obtain ⟨q, eq, fq, nq⟩ := quo_any fy fN (by rw [vN]; grind) (κ := val y * I) (B := 1025 * K) (by rw [vN]; grind) (by grind) (by grind) big
  have s1 := near_parts nr
  have s2 := near_parts nq
  have ep : pw (-52) = 1 / 4503599627370496 := pw52
  have es := eta_small
  rw [ep] at s1 s2
  refine ⟨r, q, ?_, fr, fq, ?_⟩
  · unfold divF
    rw [e]
    exact Prod.ext (by rw [← er, Fnt.ab fN]) (by rw [← eq, Fnt.ab fN])
  · have l2 : Le (qs (vv x y) (rq (P * c))) (P * ((K : Rat) / 4000000)) := l
    have l3 := (rq_le (r := I) (A := I) (by grind) (by grind)).mul l2
    have l4 : Le (qs (vv r q) (qm (rq I) (vv x y))) (3 / 2 * (1 / 4503599627370496 * (1025 * K) + pw (-1075))) := by
      refine Le.of ?_ ?_ ?_ ?_ <;> (simp only [qs, qm, rq, vv]; grind)
    refine ((l4.add l3).cast (b := qs (vv r q) (rq c)) ?_).mono ?_
    · have e8 : I * (P * c) = c := by rw [← Rat.mul_assoc, Rat.mul_comm I P, hPi, Rat.one_mul]
      exact fin_eq e8
    · have e9 : I * (P * ((K : Rat) / 4000000)) = (K : Rat) / 4000000 := by rw [← Rat.mul_assoc, Rat.mul_comm I P, hPi, Rat.one_mul]
      rw [e9]
      exact fin_le k1 es
end Go.Proofs.Ytfimolhndbfpgaa

/- The magnitude of what is small. -/
namespace Go.Proofs.Ytfimolhndbfpgaa
open Go.Fl Ieee Go.RowKit

theorem sqrt_some {v : Nat} (hv : Fnt v) (h1 : 1 ≤ val v) : ∃ r, double.sqrt v = some r := by
  obtain ⟨s, m, i, ex⟩ := fin_read hv
  have vx := val_read ex
  have hpi := pw_pos i
  have hm0 : 0 ≤ (m : Rat) * pw i := Rat.mul_nonneg Rat.natCast_nonneg (Rat.le_of_lt hpi)
  have hs : s = false := by
    cases s
    · rfl
    · rw [dv_true] at vx; grind
  subst hs
  unfold Format.sqrt
  rw [ex]
  simp only [Datum.root]
  split
  · exact ⟨_, rfl⟩
  · exact ⟨_, rfl⟩
theorem q_le {a b : Rat} (h : Near a b (1 / 4503599627370496 * 1 + pw (-1075))) (hb : b ≤ 1) : a ≤ 1001 / 1000 := by
  have := eta_small
  unfold Near at h; grind
theorem mag_small {m n : Nat} (fm : Fnt m) (fn : Fnt n) (h0 : 0 ≤ val n) (hmn : val n ≤ val m) {h : Rat} (hm : val m ≤ h) (hh : h ≤ 1) : ∃ r, magF (some m) (some n) = some r ∧ Fnt r ∧ val r ≤ 8 / 5 * h + pw (-1075) := by
  have hp := pw_pos (-1075)
  unfold magF
  have f0 : Fnt 0 := by unfold Fnt; decide
  have e0 : eqF (some m) (ab 0) = decide (val m = 0) := by rw [← Fnt.ab fm, eqF_val fm f0, val0]
  rw [e0]
  by_cases hz : val m = 0
  · rw [if_pos (by simpa using hz)]
    exact ⟨0, rfl, f0, by rw [val0]; grind⟩
  · rw [if_neg (by simpa using hz)]
    have hm0 : 0 < val m := by grind
    obtain ⟨q, eq⟩ := bin_some_quo fn fm hm0
    obtain ⟨κ, hκ⟩ : ∃ κ, κ * val m = val n := ⟨val n / val m, by grind⟩
    have hκ1 : κ ≤ 1 := le_of_mul hm0 (by grind)
    obtain ⟨fq, nq, q0⟩ := quo_near fn fm h0 hm0 eq hκ hκ1 (Rat.le_trans (big900 (by grind)) (pw_mono (by omega)))
    rw [pw52] at nq
    have q1 := q_le nq hκ1
    obtain ⟨t, et'⟩ := bin_some_mul fq fq
    have qq := part_mul (x := val q) (y := val q) (A := 1001 / 1000) (B := 1001 / 1000) q1 (by grind) q1 (by grind)
    have qq0 := Rat.mul_nonneg q0 q0
    obtain ⟨ft, nt⟩ := mul_near fq fq et' (B := 101 / 100) (by grind) (by grind) (big1000 (by grind))
    rw [pw53] at nt
    have f1 : Fnt 4607182418800017408 := by unfold Fnt; decide
    have v1 : val 4607182418800017408 = 1 := by decide +kernel
    have tm := mul_mono fq fq et' (Rat.le_trans (b := 101 / 100) (by grind) (big1000 (by grind))) (by have := pw_pos 1000; grind) (z := 0)
    rw [val0] at tm
    have t0 := tm.2 qq0
    have t1 : val t ≤ 1004 / 1000 := by
      have := eta_small
      have := near_parts nt
      grind
    obtain ⟨v, ev⟩ := bin_some_add f1 ft
    obtain ⟨fv, nv⟩ := add_near f1 ft ev (B := 3) (by rw [v1]; grind) (by rw [v1]; grind) (big1000 (by grind))
    rw [pw53, v1] at nv
    have vm := add_mono f1 ft ev (by rw [v1]; exact Rat.le_trans (b := 3) (by grind) (big1000 (by grind))) (by rw [v1]; have := pw_pos 1000; grind) (z := 4607182418800017408)
    rw [v1] at vm
    have vlo := vm.2 (by grind)
    have vhi : val v ≤ 201 / 100 := by
      have := near_parts nv
      grind
    obtain ⟨r, er⟩ := sqrt_some fv vlo
    obtain ⟨fr, r0, r1, _⟩ := sqrt_near fv vlo vhi er
    obtain ⟨A, eA⟩ := bin_some_mul fm fr
    have pr := part_mul (x := val m) (y := val r) (A := h) (B := 3 / 2) hm (by grind) r1 (by grind)
    obtain ⟨fA, nA⟩ := mul_near fm fr eA pr.1 pr.2 (big1000 (by grind))
    rw [pw53] at nA
    refine ⟨A, ?_, fA, ?_⟩
    · rw [eq, et', Fnt.ab f1, ev]
      show bin .mul (some m) (double.sqrt v) = _
      rw [er, eA]
    · have := near_parts nA
      grind
theorem absR_small {a h : Rat} (h1 : a ≤ h) (h2 : -h ≤ a) : absR a ≤ h := by unfold absR; split <;> grind
theorem abs_small {x y : Nat} (fx : Fnt x) (fy : Fnt y) {h : Rat} (x1 : val x ≤ h) (x2 : -h ≤ val x) (y1 : val y ≤ h) (y2 : -h ≤ val y) (hh : h ≤ 1) : ∃ r, absF (some x) (some y) = some r ∧ Fnt r ∧ val r ≤ 8 / 5 * h + pw (-1075) := by
  unfold absF
  rw [kind_fin fx fy, if_neg (by decide), if_neg (by decide)]
  have a1 := absR_small x1 x2
  have a2 := absR_small y1 y2
  have n1 := (absR_le (val x)).2.2
  have n2 := (absR_le (val y)).2.2
  rw [← vabs] at a1 n1
  rw [← vabs] at a2 n2
  have e : ltF (some x |>.map Go.Fl.abs) (some y |>.map Go.Fl.abs) = decide (val (Go.Fl.abs x) < val (Go.Fl.abs y)) := by
    rw [Option.map_some, Option.map_some, ← Fnt.ab (fin_abs fx), ← Fnt.ab (fin_abs fy), ltF_val (fin_abs fx) (fin_abs fy)]
  rw [e]
  by_cases hlt : val (Go.Fl.abs x) < val (Go.Fl.abs y)
  · rw [if_pos (by simpa using hlt)]
    exact mag_small (fin_abs fy) (fin_abs fx) n1 (by grind) a2 hh
  · rw [if_neg (by simpa using hlt)]
    exact mag_small (fin_abs fx) (fin_abs fy) n2 (by grind) a1 hh
end Go.Proofs.Ytfimolhndbfpgaa
