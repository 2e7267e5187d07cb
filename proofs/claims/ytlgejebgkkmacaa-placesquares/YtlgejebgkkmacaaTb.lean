/- A rectangle has just what lies between its sides. -/
import Derived.Test.YtlgejebgkkmacaaTa
import Derived.Test.YtlgejebgkkmacaaPu
import Derived.Test.YtlgejebgkkmacaaPi
namespace Go.Proofs.Ytlgejebgkkmacaa
open Go.Fl Ieee Go.RowKit

theorem lin_of_val {x y : Nat} (hx : Fnt x) (hy : Fnt y) (h : val x = val y) : lin x = lin y := by
  have o := ord_val hx hy
  rw [if_neg (by grind), if_pos h, ← order_ab] at o
  have o2 := order_lin hx.num hy.num
  have o3 : compare (lin x) (lin y) = .eq := by
    have := o2.symm.trans o
    exact Option.some.inj this
  rw [Int.compare_eq_ite_lt] at o3
  split at o3
  · cases o3
  · split at o3
    · cases o3
    · omega
/-- Two different floats are not too near each other. -/
theorem sub_least {x y : Nat} (h : val x < val y) : pw (-1074) ≤ val y - val x := by
  have hp := pw_pos (-1074)
  have key : ∀ z : Nat, ∃ k : Int, val z = (k : Rat) * pw (-1074) := fun z => ⟨sgn (z / 2 ^ 63 % 2 == 1) (mag (z % 2 ^ 63)), rfl⟩
  obtain ⟨a, ha⟩ := key x
  obtain ⟨b, hb⟩ := key y
  rw [ha, hb] at h ⊢
  have hab : a < b := by
    rcases Int.lt_or_le a b with q | q
    · exact q
    · exfalso
      have q' : (b : Rat) ≤ (a : Rat) := Rat.intCast_le_intCast.2 q
      have := Rat.mul_le_mul_of_nonneg_right q' (Rat.le_of_lt hp)
      grind
  have h1 : ((a + 1 : Int) : Rat) ≤ (b : Rat) := Rat.intCast_le_intCast.2 (by omega)
  have h2 : ((a + 1 : Int) : Rat) = (a : Rat) + 1 := Rat.intCast_add a 1
  rw [h2] at h1
  have h3 := Rat.mul_le_mul_of_nonneg_right h1 (Rat.le_of_lt hp)
  grind
theorem val_one_word : Fnt 1 ∧ val 1 = pw (-1074) := ⟨by unfold Fnt; decide, by decide +kernel⟩
/-- Bounded: a finite number of at most 1e300. -/
structure Bd (x : Nat) : Prop where
  f : Fnt x
  u : val x ≤ pw 997
  l : -pw 997 ≤ val x
theorem lin_abs_le {x : Nat} {B : Nat} (h : -(B : Int) < lin x) (h' : lin x < (B : Int)) : x % 2 ^ 63 < B := by
  unfold lin sgn at h h'
  split at h <;> simp_all <;> omega
theorem fnt_lin {x : Nat} (h : Fnt x) : -(0x7ff0000000000000 : Int) < lin x ∧ lin x < 0x7ff0000000000000 := by
  unfold Fnt at h
  unfold lin sgn
  split <;> constructor <;> omega
theorem fnt_between {a y c : Nat} (ha : Fnt a) (hc : Fnt c) (h1 : (ltF (ab a) (ab y) || eqF (ab a) (ab y)) = true) (h2 : ltF (ab y) (ab c) = true) : Fnt y := by
  rcases ab_or y with e | ⟨hy, ey⟩
  · rw [e] at h2; cases h2
  rw [Fnt.ab ha, ey] at h1
  rw [Fnt.ab hc, ey] at h2
  rw [ltF_lin ha.num hy, eqF_lin ha.num hy] at h1
  rw [ltF_lin hy hc.num] at h2
  simp at h1 h2
  have k1 := fnt_lin ha
  have k2 := fnt_lin hc
  exact lin_abs_le (B := 0x7ff0000000000000) (by omega) (by omega)
theorem bd_of {x : Nat} (h : (ltF (ab (Go.Fl.abs x)) (ab 9094988921128908188) || eqF (ab (Go.Fl.abs x)) (ab 9094988921128908188)) = true) : Bd x := by
  have fC : Fnt 9094988921128908188 := by unfold Fnt; decide
  have fm : Fnt 9094988921128908189 := by unfold Fnt; decide
  have fz : Fnt (Go.Fl.neg 9094988921128908189) := fin_neg fm
  have hab : isN (Go.Fl.abs x) = false := by
    rcases ab_or (Go.Fl.abs x) with e | ⟨e, _⟩
    · rw [e] at h; cases h
    · exact e
  have fa : Fnt (Go.Fl.abs x) := by
    have h' := h
    rw [Fnt.ab fC, ab_some hab, ltF_lin hab fC.num, eqF_lin hab fC.num] at h'
    have e1 : lin 9094988921128908188 = 9094988921128908188 := by decide +kernel
    have e2 : 0 ≤ lin (Go.Fl.abs x) := by
      have hlt : Go.Fl.abs x < 2 ^ 63 := by unfold Go.Fl.abs; omega
      unfold lin sgn
      have : (Go.Fl.abs x / 2 ^ 63 % 2 == 1) = false := by rw [Nat.div_eq_of_lt hlt]; rfl
      rw [this]
      simp
      omega
    simp at h'
    exact lin_abs_le (B := 0x7ff0000000000000) (by omega) (by omega)
  have fx : Fnt x := by
    unfold Fnt Go.Fl.abs at fa
    unfold Fnt
    omega
  rw [ltF_val fa fC, eqF_val fa fC] at h
  have h1 : val (Go.Fl.abs x) ≤ val 9094988921128908188 := by simp at h; grind
  have h2 : val 9094988921128908188 ≤ pw 997 := by decide +kernel
  rw [vabs] at h1
  unfold absR at h1
  split at h1
  · exact ⟨fx, by grind, by grind⟩
  · exact ⟨fx, by grind, by grind⟩
theorem four_pw : 4 * pw 997 ≤ pw 1000 := by
  have : pw 1000 = pw 3 * pw 997 := by rw [← pw_add]; rfl
  rw [this]
  have h3 : pw 3 = 8 := by decide +kernel
  rw [h3]
  have := pw_pos 997
  grind
theorem lt_irrefl' (a : Nat) : ltF (ab a) (ab a) = false := by
  cases h : ltF (ab a) (ab a)
  · rfl
  · have := lt_asym h; rw [h] at this; cases this
/-- An edge that goes straight up. -/
theorem east_up {X y1 y2 px py : Nat} (bX : Bd X) (b1 : Bd y1) (b2 : Bd y2) : eastF (ab X) (ab y1) (ab X) (ab y2) (ab px) (ab py) = ((ltF (ab y1) (ab py) || eqF (ab y1) (ab py)) && ltF (ab py) (ab y2) && ltF (ab px) (ab X)) := by
  unfold eastF
  cases h1 : (ltF (ab y1) (ab py) || eqF (ab y1) (ab py))
  · rfl
  cases h2 : ltF (ab py) (ab y2)
  · rfl
  simp only [Bool.true_and]
  have hp := four_pw
  have h997 := pw_pos 997
  have hlt := lt_between h1 h2
  rw [ltF_val b1.f b2.f] at hlt
  have hlt' : val y1 < val y2 := by simpa using hlt
  -- py is finite
  have fpy : Fnt py := fnt_between b1.f b2.f h1 h2
  rw [ltF_val b1.f fpy, eqF_val b1.f fpy] at h1
  rw [ltF_val fpy b2.f] at h2
  have k1 : val y1 ≤ val py := by
    simp at h1; grind
  have k2 : val py < val y2 := by simpa using h2
  obtain ⟨u1, l1⟩ := (⟨b1.u, b1.l⟩ : _ ∧ _)
  obtain ⟨u2, l2⟩ := (⟨b2.u, b2.l⟩ : _ ∧ _)
  obtain ⟨uX, lX⟩ := (⟨bX.u, bX.l⟩ : _ ∧ _)
  -- the two differences
  obtain ⟨a, ha⟩ := bin_some_sub fpy b1.f
  obtain ⟨c, hc⟩ := bin_some_sub b2.f b1.f
  have q1 : val py - val y1 ≤ pw 1000 := by grind
  have q2 : -pw 1000 ≤ val py - val y1 := by grind
  have q3 : val y2 - val y1 ≤ pw 1000 := by grind
  have q4 : -pw 1000 ≤ val y2 - val y1 := by grind
  obtain ⟨fa, _⟩ := sub_near fpy b1.f ha q1 q2 (Rat.le_refl)
  obtain ⟨fc, _⟩ := sub_near b2.f b1.f hc q3 q4 (Rat.le_refl)
  have a0 : 0 ≤ val a := by
    have := (sub_mono fpy b1.f ha q1 q2 (z := 0)).2
    rw [fzero.2] at this
    exact this (by grind)
  have c0 : 0 < val c := by
    have := (sub_mono b2.f b1.f hc q3 q4 (z := 1)).2
    rw [val_one_word.2] at this
    have h := this (sub_least hlt')
    have := pw_pos (-1074)
    grind
  have na := (sub_near fpy b1.f ha (B := val py - val y1) (Rat.le_refl) (by grind) q1).2
  have nc := (sub_near b2.f b1.f hc (B := val y2 - val y1) (Rat.le_refl) (by grind) q3).2
  have u53 : 0 < pw (-53) ∧ pw (-53) ≤ 1 / 4 := ⟨pw_pos _, by decide +kernel⟩
  have a2 : val a ≤ 2 * val c := by
    have m1 : pw (-53) * (val py - val y1) ≤ 1 / 4 * (val py - val y1) := Rat.mul_le_mul_of_nonneg_right u53.2 (by grind)
    have m2 : pw (-53) * (val y2 - val y1) ≤ 1 / 4 * (val y2 - val y1) := Rat.mul_le_mul_of_nonneg_right u53.2 (by grind)
    have n1 := na.1
    have n2 := nc.2
    generalize pw (-53) * (val py - val y1) = M1 at *
    generalize pw (-53) * (val y2 - val y1) = M2 at *
    grind
  obtain ⟨t, ht, _⟩ := quo_nn fa fc a0 c0
  have hκ : val a / val c * val c = val a := Rat.div_mul_cancel (by grind)
  have hκ2 : val a / val c ≤ 2 := by
    generalize val a / val c = κ at *
    by_cases q : κ ≤ 2
    · exact q
    · exfalso
      have := Rat.mul_pos (show 0 < κ - 2 by grind) c0
      grind
  have h990 : (2 : Rat) ≤ pw 990 := by
    have := pw_mono (a := 1) (b := 990) (by decide)
    have e : pw 1 = 2 := by decide +kernel
    rw [e] at this; exact this
  obtain ⟨ft, _, _⟩ := quo_near fa fc a0 c0 ht hκ hκ2 h990
  obtain ⟨z, hz⟩ := bin_some_sub bX.f bX.f
  have zz : Zr z := zr_of_val bX.f bX.f rfl hz
  obtain ⟨s, hs, zs⟩ := Zr.mul_r ft zz
  obtain ⟨fs, vs⟩ := zs.val
  obtain ⟨r, hr⟩ := bin_some_add bX.f fs
  have r1 : val X + val s ≤ pw 1000 := by rw [vs]; grind
  have r2 : -pw 1000 ≤ val X + val s := by rw [vs]; grind
  obtain ⟨fr, _⟩ := add_near bX.f fs hr r1 r2 (Rat.le_refl)
  have hm := add_mono bX.f fs hr r1 r2 (z := X)
  rw [vs] at hm
  have vr : val r = val X := by
    have := hm.1 (by grind)
    have := hm.2 (by grind)
    grind
  have lr := lin_of_val fr bX.f vr
  rw [Fnt.ab fpy, Fnt.ab b1.f, Fnt.ab b2.f, Fnt.ab bX.f, ha, hc, ht, hz, hs, hr]
  rcases ab_or px with e | ⟨hpx, e⟩
  · rw [e]; rfl
  · rw [e, ltF_lin hpx fr.num, ltF_lin hpx bX.f.num, lr]
/-- The corners of a rectangle. -/
def rectF (x1 y1 x2 y2 : Nat) (j : Nat) : Nat × Nat := ([(x1, y1), (x2, y1), (x2, y2), (x1, y2)] : List (Nat × Nat))[j]!
theorem rect_win {x1 y1 x2 y2 px py : Nat} (bx1 : Bd x1) (by1 : Bd y1) (bx2 : Bd x2) (by2 : Bd y2) (hx : ltF (ab x1) (ab x2) = true) (hy : ltF (ab y1) (ab y2) = true) : winF (rectF x1 y1 x2 y2) 4 (px, py) = ((ltF (ab x1) (ab px) || eqF (ab x1) (ab px)) && ltF (ab px) (ab x2) && (ltF (ab y1) (ab py) || eqF (ab y1) (ab py)) && ltF (ab py) (ab y2)) := by
  rw [win_in (by decide) (by decide)]
  have e : ∀ g : Nat → Bool, oddN g 4 = (g 3 ^^ (g 2 ^^ (g 1 ^^ g 0))) := fun g => by
    rw [odd_succ, odd_succ, odd_succ, odd_succ]; simp [oddN]
  rw [e]
  have g0 : nxF (rectF x1 y1 x2 y2) 4 (px, py) 0 = false := by
    show cntF (x1, y1) (x2, y1) (px, py) = false
    unfold cntF
    rw [lt_irrefl', if_neg (by decide)]
    exact east_no (a := (x1, y1)) (b := (x2, y1)) (p := (px, py)) (lt_irrefl' y1)
  have g2 : nxF (rectF x1 y1 x2 y2) 4 (px, py) 2 = false := by
    show cntF (x2, y2) (x1, y2) (px, py) = false
    unfold cntF
    rw [lt_irrefl', if_neg (by decide)]
    exact east_no (a := (x2, y2)) (b := (x1, y2)) (p := (px, py)) (lt_irrefl' y2)
  have g1 : nxF (rectF x1 y1 x2 y2) 4 (px, py) 1 = ((ltF (ab y1) (ab py) || eqF (ab y1) (ab py)) && ltF (ab py) (ab y2) && ltF (ab px) (ab x2)) := by
    show cntF (x2, y1) (x2, y2) (px, py) = _
    unfold cntF
    rw [lt_asym hy, if_neg (by decide)]
    exact east_up bx2 by1 by2
  have g3 : nxF (rectF x1 y1 x2 y2) 4 (px, py) 3 = ((ltF (ab y1) (ab py) || eqF (ab y1) (ab py)) && ltF (ab py) (ab y2) && ltF (ab px) (ab x1)) := by
    show cntF (x1, y2) (x1, y1) (px, py) = _
    unfold cntF
    rw [hy, if_pos rfl]
    exact east_up bx1 by1 by2
  rw [g0, g1, g2, g3]
  have hX : ((ltF (ab x1) (ab px) || eqF (ab x1) (ab px)) && ltF (ab px) (ab x2)) = (ltF (ab px) (ab x1) ^^ ltF (ab px) (ab x2)) := by
    rw [Fnt.ab bx1.f, Fnt.ab bx2.f] at hx ⊢
    rw [ltF_lin bx1.f.num bx2.f.num] at hx
    have hx' : lin x1 < lin x2 := by simpa using hx
    rcases ab_or px with e | ⟨hp, e⟩
    · rw [e]; rfl
    · rw [e, ltF_lin bx1.f.num hp, eqF_lin bx1.f.num hp, ltF_lin hp bx2.f.num, ltF_lin hp bx1.f.num]
      rw [Bool.eq_iff_iff]
      simp
      omega
  rw [hX]
  cases (ltF (ab y1) (ab py) || eqF (ab y1) (ab py)) <;> cases ltF (ab py) (ab y2) <;> cases ltF (ab px) (ab x1) <;> cases ltF (ab px) (ab x2) <;> rfl
end Go.Proofs.Ytlgejebgkkmacaa
/- Sectors: middles, whole turns more. -/
namespace Go.Proofs.Ytlgejebgkkmacaa
open Go.Fl Ieee Go.RowKit

/-- A whole number of 2^-20. -/
structure GR (x : Nat) (z : Int) : Prop where
  f : Fnt x
  v : val x = (z : Rat) * pw (-20)
def B53 : Int := 9007199254740992
theorem rat_nn {z : Int} (h : 0 ≤ z) : (z : Rat) = ((z.toNat : Nat) : Rat) := by
  have e : z = (z.toNat : Int) := by omega
  rw [show ((z.toNat : Nat) : Rat) = (((z.toNat : Nat) : Int) : Rat) from rfl, ← e]
theorem pw20 : pw (-20) = 1 / 1048576 := by decide +kernel
theorem big_gr {z : Int} (h1 : -B53 < z) (h2 : z < B53) : (z : Rat) * pw (-20) ≤ pw 1000 ∧ -pw 1000 ≤ (z : Rat) * pw (-20) := by
  have a1 : (z : Rat) ≤ (B53 : Rat) := Rat.intCast_le_intCast.2 (by omega)
  have a2 : ((-B53 : Int) : Rat) ≤ (z : Rat) := Rat.intCast_le_intCast.2 (by omega)
  have e : ((-B53 : Int) : Rat) = -(B53 : Rat) := Rat.intCast_neg B53
  rw [e] at a2
  have hb : (B53 : Rat) = pw 53 := by decide +kernel
  have h3 := pw_mono (a := 53) (b := 1000) (by decide)
  rw [pw20]
  rw [hb] at a1 a2
  have h0 := pw_pos 53
  generalize pw 53 = P at *
  generalize pw 1000 = W at *
  generalize (z : Rat) = Z at *
  constructor <;> grind
theorem gr_float (z : Int) (h1 : -B53 < z) (h2 : z < B53) : ∃ y, GR y z := by
  have hb := big_gr h1 h2
  unfold B53 at h1 h2
  rcases Int.lt_or_le z 0 with h | h
  · have e : (z : Rat) = -(((-z).toNat : Nat) : Rat) := by
      have := rat_nn (z := -z) (by omega)
      rw [← this, Rat.intCast_neg]; grind
    obtain ⟨f, v⟩ := exact_write true (K := (-z).toNat) (e := -20) (by omega) (by decide) (by rw [e] at hb; grind)
    refine ⟨_, f, ?_⟩
    rw [v, dv_true, e]; grind
  · have e := rat_nn h
    obtain ⟨f, v⟩ := exact_write false (K := z.toNat) (e := -20) (by omega) (by decide) (by rw [e] at hb; grind)
    exact ⟨_, f, by rw [v, dv_false, e]⟩
theorem GR.sub {x y : Nat} {a b : Int} (hx : GR x a) (hy : GR y b) (h1 : -B53 < a - b) (h2 : a - b < B53) : ∃ r, bin .sub (some x) (some y) = some r ∧ GR r (a - b) := by
  obtain ⟨r, hr⟩ := bin_some_sub hx.f hy.f
  obtain ⟨z, fz, vz⟩ := gr_float (a - b) h1 h2
  obtain ⟨b1, b2⟩ := big_gr h1 h2
  have e : val x - val y = val z := by rw [hx.v, hy.v, vz, Rat.intCast_sub]; grind
  have k1 : val x - val y ≤ pw 1000 := by rw [e, vz]; exact b1
  have k2 : -pw 1000 ≤ val x - val y := by rw [e, vz]; exact b2
  have m := sub_mono hx.f hy.f hr k1 k2 (z := z)
  obtain ⟨f, _⟩ := sub_near hx.f hy.f hr k1 k2 Rat.le_refl
  refine ⟨r, hr, f, ?_⟩
  rw [← vz]
  have := m.1 (by rw [e]; exact Rat.le_refl)
  have := m.2 (by rw [e]; exact Rat.le_refl)
  grind
theorem GR.add {x y : Nat} {a b : Int} (hx : GR x a) (hy : GR y b) (h1 : -B53 < a + b) (h2 : a + b < B53) : ∃ r, bin .add (some x) (some y) = some r ∧ GR r (a + b) := by
  obtain ⟨r, hr⟩ := bin_some_add hx.f hy.f
  obtain ⟨z, fz, vz⟩ := gr_float (a + b) h1 h2
  obtain ⟨b1, b2⟩ := big_gr h1 h2
  have e : val x + val y = val z := by rw [hx.v, hy.v, vz, Rat.intCast_add]; grind
  have k1 : val x + val y ≤ pw 1000 := by rw [e, vz]; exact b1
  have k2 : -pw 1000 ≤ val x + val y := by rw [e, vz]; exact b2
  have m := add_mono hx.f hy.f hr k1 k2 (z := z)
  obtain ⟨f, _⟩ := add_near hx.f hy.f hr k1 k2 Rat.le_refl
  refine ⟨r, hr, f, ?_⟩
  rw [← vz]
  have := m.1 (by rw [e]; exact Rat.le_refl)
  have := m.2 (by rw [e]; exact Rat.le_refl)
  grind
theorem GR.mul {x y : Nat} {a n : Int} (hx : GR x a) (hy : Fnt y) (vy : val y = (n : Rat)) (h1 : -B53 < a * n) (h2 : a * n < B53) : ∃ r, bin .mul (some x) (some y) = some r ∧ GR r (a * n) := by
  obtain ⟨r, hr⟩ := bin_some_mul hx.f hy
  obtain ⟨z, fz, vz⟩ := gr_float (a * n) h1 h2
  obtain ⟨b1, b2⟩ := big_gr h1 h2
  have e : val x * val y = val z := by rw [hx.v, vy, vz, Rat.intCast_mul]; grind
  have k1 : val x * val y ≤ pw 1000 := by rw [e, vz]; exact b1
  have k2 : -pw 1000 ≤ val x * val y := by rw [e, vz]; exact b2
  have m := mul_mono hx.f hy hr k1 k2 (z := z)
  obtain ⟨f, _⟩ := mul_near hx.f hy hr k1 k2 Rat.le_refl
  refine ⟨r, hr, f, ?_⟩
  rw [← vz]
  have := m.1 (by rw [e]; exact Rat.le_refl)
  have := m.2 (by rw [e]; exact Rat.le_refl)
  grind
theorem GR.neg {x : Nat} {a : Int} (hx : GR x a) : GR (neg x) (-a) := ⟨fin_neg hx.f, by rw [vneg, hx.v, Rat.intCast_neg]; grind⟩
theorem GR.int {z : Int} (h1 : -P53 < z) (h2 : z < P53) : GR (floatOfInt .f64 z) (z * 1048576) := by
  obtain ⟨f, v⟩ := int_whole h1 h2
  refine ⟨f, ?_⟩
  rw [v, Rat.intCast_mul, pw20]
  have : ((1048576 : Int) : Rat) = 1048576 := rfl
  rw [this]; grind
theorem GR.lt {x y : Nat} {a b : Int} (hx : GR x a) (hy : GR y b) : (val x < val y) ↔ a < b := by
  rw [hx.v, hy.v, pw20]
  constructor
  · intro h
    have : (a : Rat) < (b : Rat) := by grind
    exact Rat.intCast_lt_intCast.1 this
  · intro h
    have : (a : Rat) < (b : Rat) := Rat.intCast_lt_intCast.2 h
    grind
theorem GR.floor {x : Nat} {a : Int} (hx : GR x a) (h0 : 0 ≤ a) (h1 : a < 2251799813685248) : GR (floor x) (a / 1048576 * 1048576) := by
  have v0 : 0 ≤ val x := by
    rw [hx.v, pw20]
    have : (0 : Rat) ≤ (a : Rat) := by have := (Rat.intCast_le_intCast (a := 0) (b := a)).2 h0; exact this
    grind
  have v1 : val x < 1125899906842624 := by
    rw [hx.v, pw20]
    have : (a : Rat) < 2251799813685248 := by have := (Rat.intCast_lt_intCast (a := a) (b := 2251799813685248)).2 h1; exact this
    grind
  obtain ⟨K, f, v, k1, k2⟩ := floor_whole hx.f v0 v1
  refine ⟨f, ?_⟩
  rw [hx.v, pw20] at k1 k2
  have hK : a / 1048576 = (K : Int) := by
    have e1 : (((K : Int) * 1048576 : Int) : Rat) ≤ (a : Rat) := by
      rw [Rat.intCast_mul]
      show (K : Rat) * 1048576 ≤ _
      grind
    have e2 : (a : Rat) < ((((K : Int) + 1) * 1048576 : Int) : Rat) := by
      rw [Rat.intCast_mul, Rat.intCast_add]
      show _ < ((K : Rat) + 1) * 1048576
      grind
    have e1' := Rat.intCast_le_intCast.1 e1
    have e2' := Rat.intCast_lt_intCast.1 e2
    omega
  rw [v, hK, Rat.intCast_mul, pw20]
  show _ = (K : Rat) * 1048576 * _
  grind
theorem GR.eq {x y : Nat} {a b : Int} (hx : GR x a) (hy : GR y b) : (val x = val y) ↔ a = b := by
  rw [hx.v, hy.v, pw20]
  constructor
  · intro h
    have : (a : Rat) = (b : Rat) := by grind
    exact Rat.intCast_inj.1 this
  · intro h
    rw [h]
theorem GR.ltF {x y : Nat} {a b : Int} (hx : GR x a) (hy : GR y b) : ltF (some x) (ab y) = decide (a < b) := by
  rw [← Fnt.ab hx.f, ltF_val hx.f hy.f, Bool.eq_iff_iff]
  simp only [decide_eq_true_eq]
  exact hx.lt hy
theorem GR.gtF {x y : Nat} {a b : Int} (hx : GR x a) (hy : GR y b) : gtF (some x) (ab y) = decide (b < a) := by
  rw [← Fnt.ab hx.f, gtF_val hx.f hy.f, Bool.eq_iff_iff]
  simp only [decide_eq_true_eq]
  exact hy.lt hx
theorem GR.eqF {x y : Nat} {a b : Int} (hx : GR x a) (hy : GR y b) : eqF (some x) (ab y) = decide (a = b) := by
  rw [← Fnt.ab hx.f, eqF_val hx.f hy.f, Bool.eq_iff_iff]
  simp only [decide_eq_true_eq]
  exact hx.eq hy
theorem gr0 : GR 0 0 := ⟨fzero.1, by decide +kernel⟩
theorem gr1 : GR 4607182418800017408 1048576 := ⟨fone.1, by decide +kernel⟩
theorem grh : GR 4602678819172646912 524288 := ⟨fhalf.1, by decide +kernel⟩
theorem grm : GR 13826050856027422720 (-524288) := ⟨fmhalf.1, by decide +kernel⟩
theorem gr_whole {x : Nat} {z : Int} (hx : GR x z) (h1 : -2251799813685248 < z) (h2 : z < 2251799813685248) : ∃ t, wholeF (some x) = some t ∧ GR t (if z < 0 then -(-z / 1048576 * 1048576) else z / 1048576 * 1048576) := by
  unfold wholeF
  rw [hx.ltF gr0]
  by_cases h : z < 0
  · rw [if_pos (by simpa using h), if_pos h]
    exact ⟨_, rfl, (hx.neg.floor (by omega) (by omega)).neg⟩
  · rw [if_neg (by simpa using h), if_neg h]
    exact ⟨_, rfl, hx.floor (by omega) (by omega)⟩
theorem gr_up {x : Nat} {z : Int} (hx : GR x z) (h1 : -2251799813685248 < z) (h2 : z < 2251799813685248) : ∃ b, upF (wrapF (some x)) = some b ∧ GR b (z % 1048576) := by
  obtain ⟨t, ht, gt⟩ := gr_whole hx h1 h2
  have hf := fin_of hx.f
  rw [Fnt.ab hx.f] at hf
  obtain ⟨q, hq⟩ : ∃ q, (if z < 0 then -(-z / 1048576 * 1048576) else z / 1048576 * 1048576) = q := ⟨_, rfl⟩
  rw [hq] at gt
  have qb : z - 1048576 < q ∧ q < z + 1048576 ∧ q % 1048576 = 0 ∧ (0 ≤ z → q ≤ z) ∧ (z < 0 → z ≤ q) := by
    rw [← hq]; split <;> omega
  obtain ⟨r, hr, gr⟩ := hx.sub gt (by unfold B53; omega) (by unfold B53; omega)
  have hw : ∃ w, wrapF (some x) = some w ∧ ∃ a, GR w a ∧ -524288 ≤ a ∧ a < 524288 ∧ a % 1048576 = z % 1048576 := by
    unfold wrapF
    rw [if_pos hf, ht, hr]
    simp only [gr.gtF grh, gr.eqF grh, gr.ltF grm]
    by_cases c1 : 524288 ≤ z - q
    · rw [if_pos (by simp; omega), Fnt.ab fone.1]
      obtain ⟨w, e, g⟩ := gr.sub gr1 (by unfold B53; omega) (by unfold B53; omega)
      exact ⟨w, e, _, g, by omega, by omega, by omega⟩
    · rw [if_neg (by simp; omega)]
      by_cases c2 : z - q < -524288
      · rw [if_pos (by simpa using c2), Fnt.ab fone.1]
        obtain ⟨w, e, g⟩ := gr.add gr1 (by unfold B53; omega) (by unfold B53; omega)
        exact ⟨w, e, _, g, by omega, by omega, by omega⟩
      · rw [if_neg (by simpa using c2)]
        exact ⟨r, rfl, _, gr, by omega, by omega, by omega⟩
  obtain ⟨w, ew, a, ga, a1, a2, a3⟩ := hw
  rw [ew]
  unfold upF
  rw [ga.ltF gr0]
  by_cases c : a < 0
  · rw [Fnt.ab fone.1]
    obtain ⟨b, e, g⟩ := ga.add gr1 (by unfold B53; omega) (by unfold B53; omega)
    simp only [c, decide_true, if_true, e]
    have k1 := g.gtF gr1
    have k2 := g.eqF gr1
    rw [Fnt.ab fone.1] at k1 k2
    rw [k1, k2, if_neg (by simp; omega)]
    exact ⟨b, rfl, by rw [← a3, show a % 1048576 = a + 1048576 by omega]; exact g⟩
  · simp only [c, decide_false, Bool.false_eq_true, if_false, ga.gtF gr1, ga.eqF gr1]
    rw [if_neg (by simp; omega)]
    exact ⟨w, rfl, by rw [← a3, show a % 1048576 = a by omega]; exact ga⟩
/-- What Sector tells, by the value of the product. -/
theorem sec_val {x b m : Nat} {n : Int} {K : Nat} (hx : Fnt x) (n1 : 1 ≤ n) (n2 : n ≤ 4096) (hb : upF (wrapF (some x)) = some b) (hm : bin .mul (some b) (ab (floatOfInt .f64 n)) = some m) (fm : Fnt m) (k0 : 0 ≤ val m) (k1 : (K : Rat) ≤ val m) (k2 : val m < (K : Rat) + 1) (k3 : val m < 1125899906842624) : secF (ab x) n = (min (K : Int) (n - 1), 0) := by
  have hf := fin_of hx
  obtain ⟨L, f, v, l1, l2⟩ := floor_whole fm k0 k3
  have l0 : 0 ≤ val (floor m) := by rw [v]; exact Rat.natCast_nonneg
  obtain ⟨J, j1, j2, j3, _⟩ := toInt_val f l0 (by rw [v]; grind)
  have eL : L = K := nat_between l1 l2 k1 k2
  have eJ : J = L := nat_between j2 j3 (by rw [v]; exact Rat.le_refl) (by rw [v]; grind)
  unfold secF
  rw [if_neg (by omega), if_neg (by omega), if_neg (by rw [hf]; decide), Fnt.ab hx, hb, hm]
  unfold intF
  simp only [Option.map_some, Option.getD_some, j1]
  rw [eJ, eL]
/-- Whole turns more make no difference. -/
theorem sec_gr {x y : Nat} {a c n : Int} (hx : GR x a) (hy : GR y c) (ha : -2251799813685248 < a ∧ a < 2251799813685248) (hc : -2251799813685248 < c ∧ c < 2251799813685248) (hac : a % 1048576 = c % 1048576) (n1 : 1 ≤ n) (n2 : n ≤ 4096) : ∃ K : Int, secF (ab x) n = (K, 0) ∧ secF (ab y) n = (K, 0) := by
  obtain ⟨fn, vn⟩ := int_whole (z := n) (by unfold P53; omega) (by unfold P53; omega)
  have key : ∀ {x : Nat} {a : Int}, GR x a → (-2251799813685248 < a ∧ a < 2251799813685248) → secF (ab x) n = (min ((a % 1048576 * n / 1048576).toNat : Int) (n - 1), 0) := by
    intro x a hx ha
    obtain ⟨b, hb, gb⟩ := gr_up hx ha.1 ha.2
    have p1 : 0 ≤ a % 1048576 * n := Int.mul_nonneg (by omega) (by omega)
    have p2 : a % 1048576 * n ≤ 4294967296 := Int.le_trans (Int.mul_le_mul (show a % 1048576 ≤ 1048576 by omega) n2 (by omega) (by omega)) (by decide)
    obtain ⟨m, hm, gm⟩ := gb.mul fn vn (by unfold B53; omega) (by unfold B53; omega)
    generalize a % 1048576 * n = P at *
    have hP := rat_nn p1
    refine sec_val hx.f n1 n2 hb (by rw [Fnt.ab fn]; exact hm) gm.f ?_ ?_ ?_ ?_
    · rw [gm.v, pw20, hP]
      have : (0 : Rat) ≤ ((P.toNat : Nat) : Rat) := Rat.natCast_nonneg
      grind
    · rw [gm.v, pw20]
      have e : ((((P / 1048576).toNat : Int) * 1048576 : Int) : Rat) ≤ (P : Rat) := Rat.intCast_le_intCast.2 (by omega)
      rw [Rat.intCast_mul] at e
      have e2 : ((((P / 1048576).toNat : Nat) : Rat)) * 1048576 ≤ (P : Rat) := e
      grind
    · rw [gm.v, pw20]
      have e : (P : Rat) < (((((P / 1048576).toNat : Int) + 1) * 1048576 : Int) : Rat) := Rat.intCast_lt_intCast.2 (by omega)
      rw [Rat.intCast_mul, Rat.intCast_add] at e
      have e2 : (P : Rat) < (((((P / 1048576).toNat : Nat) : Rat)) + 1) * 1048576 := e
      grind
    · rw [gm.v, pw20]
      have e : (P : Rat) ≤ ((4294967296 : Int) : Rat) := Rat.intCast_le_intCast.2 p2
      have e2 : (P : Rat) ≤ 4294967296 := e
      grind
  exact ⟨_, key hx ha, by rw [hac]; exact key hy hc⟩
theorem quo20 {k : Int} (h1 : -1073741824 < k) (h2 : k < 1073741824) : ∃ r, bin .quo (ab (floatOfInt .f64 k)) (ab 4697254411347427328) = some r ∧ GR r k := by
  obtain ⟨f, v⟩ := int_whole (z := k) (by unfold P53; omega) (by unfold P53; omega)
  obtain ⟨y, fy, vy⟩ := gr_float k (by unfold B53; omega) (by unfold B53; omega)
  have hb := big_gr (z := k) (by unfold B53; omega) (by unfold B53; omega)
  obtain ⟨r, hr, fr, vr⟩ := quo_pow (x := floatOfInt .f64 k) (y := y) (f := 4697254411347427328) (j := -32) (by decide +kernel) f (by rw [vy]; exact ⟨hb.2, hb.1⟩) (by rw [vy, v]; rfl)
  refine ⟨r, ?_, fr, by rw [vr, vy]⟩
  rw [Fnt.ab f, show ab 4697254411347427328 = some 4697254411347427328 by decide +kernel]
  exact hr
theorem near_step {a b c E F : Rat} (h1 : Near a b E) (h2 : Near b c F) : Near a c (E + F) := ⟨by have := h1.1; have := h2.1; grind, by have := h1.2; have := h2.2; grind⟩
/-- A number from 0 to nearly 1, wrapped and brought upward again. -/
theorem unit_up {x : Nat} (hx : Fnt x) (h0 : 0 ≤ val x) (h1 : val x ≤ 1 - pw (-20)) : ∃ b, upF (wrapF (some x)) = some b ∧ Fnt b ∧ 0 ≤ val b ∧ val b < 1 ∧ Near (val b) (val x) (pw (-51)) := by
  have hp := pw_pos (-20)
  have p51 : 0 < pw (-51) ∧ pw (-51) ≤ 1 / 8 * pw (-20) := ⟨pw_pos _, by decide +kernel⟩
  have p53 : pw (-53) = 1 / 4 * pw (-51) := by decide +kernel
  have hf := fin_of hx
  rw [Fnt.ab hx] at hf
  obtain ⟨K, ff, fv, k1, k2⟩ := floor_whole hx h0 (by grind)
  have hK : K = 0 := by
    have : ((K : Nat) : Rat) < 1 := by grind
    have h : ((K : Int) : Rat) < ((1 : Int) : Rat) := this
    have := Rat.intCast_lt_intCast.1 h
    omega
  subst hK
  have fv0 : val (floor x) = 0 := fv
  have hw : wholeF (some x) = some (floor x) := by
    unfold wholeF
    have g := ltF_val hx fzero.1
    rw [Fnt.ab hx, fzero.2] at g
    rw [g, if_neg (by simp; grind)]
    rfl
  obtain ⟨r, hr⟩ := bin_some_sub hx ff
  have b1 : val x - val (floor x) ≤ pw 1000 := by rw [fv0]; have := (big2 (v := val x) (by grind) (by grind)).1; grind
  have b2 : -pw 1000 ≤ val x - val (floor x) := by rw [fv0]; have := (big2 (v := val x) (by grind) (by grind)).2; grind
  obtain ⟨fr, _⟩ := sub_near hx ff hr b1 b2 Rat.le_refl
  have vr : val r = val x := by
    have m := sub_mono hx ff hr b1 b2 (z := x)
    rw [fv0] at m
    have := m.1 (by grind)
    have := m.2 (by grind)
    grind
  unfold wrapF
  rw [if_pos hf, hw, hr]
  have g1 := gtF_val fr fhalf.1
  have g2 := eqF_val fr fhalf.1
  have g3 := ltF_val fr fmhalf.1
  rw [Fnt.ab fr, fhalf.2] at g1 g2
  rw [Fnt.ab fr, fmhalf.2] at g3
  simp only [g1, g2, g3]
  by_cases c : 1 / 2 ≤ val r
  · have hc : (decide (1 / 2 < val r) || decide (val r = 1 / 2)) = true := by
      by_cases h2 : val r = 1 / 2
      · simp [h2]
      · have : 1 / 2 < val r := by grind
        simp [this]
    rw [if_pos hc, Fnt.ab fone.1]
    have e1 := fone.2
    obtain ⟨w, hw2⟩ := bin_some_sub fr fone.1
    obtain ⟨fw, nw⟩ := sub_near fr fone.1 hw2 (B := 1) (by grind) (by grind) (big_ok (by grind))
    rw [hw2]
    rw [e1] at nw
    have nw1 := nw.1
    have nw2 := nw.2
    unfold upF
    have q := ltF_val fw fzero.1
    rw [Fnt.ab fw, fzero.2] at q
    rw [q]
    have wneg : val w < 0 := by grind
    obtain ⟨b, hb⟩ := bin_some_add fw fone.1
    obtain ⟨fb, nb⟩ := add_near fw fone.1 hb (B := 1) (by grind) (by grind) (big_ok (by grind))
    rw [e1] at nb
    have nb1 := nb.1
    have nb2 := nb.2
    rw [Fnt.ab fone.1]
    simp only [wneg, decide_true, if_true, hb]
    have q1 := gtF_val fb fone.1
    have q2 := eqF_val fb fone.1
    rw [Fnt.ab fb, Fnt.ab fone.1, e1] at q1 q2
    have blt : val b < 1 := by grind
    rw [q1, q2, if_neg (by simp; grind)]
    refine ⟨b, rfl, fb, by grind, blt, ?_, ?_⟩ <;> grind
  · have hc : (decide (1 / 2 < val r) || decide (val r = 1 / 2)) = false := by
      have a : ¬ 1 / 2 < val r := by grind
      have b : ¬ val r = 1 / 2 := by grind
      simp [a, b]
    rw [if_neg (by rw [hc]; exact Bool.false_ne_true)]
    have c2 : ¬ val r < -1 / 2 := by grind
    rw [if_neg (by simpa using c2)]
    unfold upF
    have q := ltF_val fr fzero.1
    rw [Fnt.ab fr, fzero.2] at q
    rw [q]
    have c3 : ¬ val r < 0 := by grind
    simp only [c3, decide_false, Bool.false_eq_true, if_false]
    have q1 := gtF_val fr fone.1
    have q2 := eqF_val fr fone.1
    rw [Fnt.ab fr, fone.2] at q1 q2
    rw [q1, q2, if_neg (by simp; grind)]
    refine ⟨r, rfl, fr, by grind, by grind, ?_, ?_⟩ <;> grind
end Go.Proofs.Ytlgejebgkkmacaa
/- The middle of a sector is its own. -/
namespace Go.Proofs.Ytlgejebgkkmacaa
open Go.Fl Ieee Go.RowKit

theorem min_mid {c n : Int} (c0 : 0 ≤ c) (cn : c < n) : min ((c.toNat : Nat) : Int) (n - 1) = c := by omega
theorem sec_mid {c n : Int} (c0 : 0 ≤ c) (cn : c < n) (n2 : n ≤ 4096) : ∃ h x, bin .add (ab (floatOfInt .f64 c)) (ab 4602678819172646912) = some h ∧ bin .quo (some h) (ab (floatOfInt .f64 n)) = some x ∧ isN h = false ∧ isN x = false ∧ secF (ab x) n = (c, 0) := by
  obtain ⟨fn, vn⟩ := int_whole (z := n) (by unfold P53; omega) (by unfold P53; omega)
  have gc := GR.int (z := c) (by unfold P53; omega) (by unfold P53; omega)
  obtain ⟨h, hh, gh⟩ := gc.add grh (by unfold B53; omega) (by unfold B53; omega)
  have q1 : (1 : Rat) ≤ (n : Rat) := by exact_mod_cast (show (1 : Int) ≤ n by omega)
  have q2 : (n : Rat) ≤ 4096 := int4096 n2
  have q3 : (0 : Rat) ≤ (c : Rat) := by exact_mod_cast c0
  have q4 : (c : Rat) + 1 ≤ (n : Rat) := by
    have : ((c + 1 : Int) : Rat) ≤ (n : Rat) := Rat.intCast_le_intCast.2 (by omega)
    rw [Rat.intCast_add] at this
    exact this
  have vh : val h = (c : Rat) + 1 / 2 := by
    rw [gh.v, Rat.intCast_add, Rat.intCast_mul, pw20]
    have e1 : ((1048576 : Int) : Rat) = 1048576 := rfl
    have e2 : ((524288 : Int) : Rat) = 524288 := rfl
    rw [e1, e2]; grind
  have hn0 : 0 < val (floatOfInt .f64 n) := by rw [vn]; grind
  obtain ⟨x, hx, _, xn⟩ := quo_nn gh.f fn (by rw [vh]; grind) hn0
  obtain ⟨κ, hκ⟩ : ∃ κ : Rat, κ * (n : Rat) = (c : Rat) + 1 / 2 := ⟨((c : Rat) + 1 / 2) / (n : Rat), Rat.div_mul_cancel (by grind)⟩
  have κ1 : κ ≤ 1 - 1 / 8192 := by
    by_cases q : κ ≤ 1 - 1 / 8192
    · exact q
    · exfalso
      have := Rat.mul_pos (show 0 < κ - (1 - 1 / 8192) by grind) (show (0 : Rat) < n by grind)
      have e : (κ - (1 - 1 / 8192)) * (n : Rat) = κ * (n : Rat) - (n : Rat) + 1 / 8192 * (n : Rat) := by grind
      rw [e, hκ] at this
      grind
  have κ0 : 0 ≤ κ := by
    by_cases q : 0 ≤ κ
    · exact q
    · exfalso
      have := Rat.mul_pos (show 0 < -κ by grind) (show (0 : Rat) < n by grind)
      have e : -κ * (n : Rat) = -(κ * (n : Rat)) := by grind
      rw [e, hκ] at this
      grind
  have h990 : (1 : Rat) ≤ pw 990 := by
    have := pw_mono (a := 0) (b := 990) (by decide)
    have e : pw 0 = 1 := by decide +kernel
    rw [e] at this; exact this
  obtain ⟨fx, nx, x0⟩ := quo_near gh.f fn (by rw [vh]; grind) hn0 hx (κ := κ) (B := 1) (by rw [vn, vh]; exact hκ) (by grind) h990
  have e52 : pw (-52) * 1 + pw (-1075) ≤ pw (-51) := by decide +kernel
  have nx1 : Near (val x) κ (pw (-51)) := ⟨by have := nx.1; grind, by have := nx.2; grind⟩
  have e51 : pw (-51) ≤ 1 / 1099511627776 := by decide +kernel
  have e51' := pw_pos (-51)
  have e20 : pw (-20) = 1 / 1048576 := pw20
  obtain ⟨b, hb, fb, b0, b1, nb⟩ := unit_up fx x0 (by rw [e20]; have := nx1.1; grind)
  have nb1 := near_step nb nx1
  obtain ⟨m, hm⟩ := bin_some_mul fb fn
  have p0 : 0 ≤ val b * (n : Rat) := Rat.mul_nonneg b0 (by grind)
  have p1 : val b * (n : Rat) ≤ 4096 := by
    have : 0 ≤ (1 - val b) * (n : Rat) := Rat.mul_nonneg (by grind) (by grind)
    grind
  obtain ⟨fm, nm⟩ := mul_near fb fn hm (B := 4096) (by rw [vn]; exact p1) (by rw [vn]; grind) big4096
  rw [vn] at nm
  have e53 : pw (-53) * 4096 + pw (-1075) ≤ 1 / 16 := by decide +kernel
  -- how far the product is from the middle
  have d1 : val b * (n : Rat) ≤ (c : Rat) + 1 / 2 + 1 / 16 := by
    have h1 : val b - κ ≤ 1 / 65536 := by have := nb1.1; grind
    have h2 := Rat.mul_le_mul_of_nonneg_right h1 (show (0 : Rat) ≤ n by grind)
    have h3 : (val b - κ) * (n : Rat) = val b * (n : Rat) - κ * (n : Rat) := by grind
    rw [h3, hκ] at h2
    grind
  have d2 : (c : Rat) + 1 / 2 - 1 / 16 ≤ val b * (n : Rat) := by
    have h1 : κ - val b ≤ 1 / 65536 := by have := nb1.2; grind
    have h2 := Rat.mul_le_mul_of_nonneg_right h1 (show (0 : Rat) ≤ n by grind)
    have h3 : (κ - val b) * (n : Rat) = κ * (n : Rat) - val b * (n : Rat) := by grind
    rw [h3, hκ] at h2
    grind
  have n1 := nm.1
  have n2' := nm.2
  have m1 : (c : Rat) ≤ val m := by grind
  have m2 : val m < (c : Rat) + 1 := by grind
  have hc := rat_nn c0
  refine ⟨h, x, ?_, ?_, gh.f.num, xn, ?_⟩
  · rw [Fnt.ab gc.f, Fnt.ab fhalf.1]; exact hh
  · rw [Fnt.ab fn]; exact hx
  · have := sec_val (K := c.toNat) fx (by omega) n2 hb (by rw [Fnt.ab fn]; exact hm) fm (by grind) (by rw [← hc]; exact m1) (by rw [← hc]; exact m2) (by grind)
    rw [this, min_mid c0 cn]
/-- What a sector is at least and at most. -/
theorem sec_range {x : Nat} {n : Int} (hx : fin (ab x) = true) (n1 : 1 ≤ n) (n2 : n ≤ 4096) : ∃ S : Int, secF (ab x) n = (S, 0) ∧ 0 ≤ S ∧ S < n := by
  obtain ⟨u, b, m, q, K, _, _, _, _, _, _, _, _, h, hk⟩ := sec_some hx n1 n2
  exact ⟨_, h, by omega, by omega⟩
theorem sec_nofin {x : Nat} {n : Int} (hx : fin (ab x) = false) (n1 : 1 ≤ n) (n2 : n ≤ 4096) : secF (ab x) n = (0, 6) := by
  unfold secF
  rw [if_neg (by omega), if_neg (by omega), if_pos hx]
theorem ab_none_or (x : Nat) : ab x = none ∨ (isN x = false ∧ ab x = some x) := by
  cases h : isN x
  · exact Or.inr ⟨rfl, ab_some h⟩
  · left; unfold ab; rw [if_pos h]
theorem fnt_of_read {x : Nat} {s : Bool} {m : Nat} {i : Int} (h : double.read x = .number s m i) : Fnt x := by
  rcases Nat.lt_or_ge (x % 2 ^ 63) 0x7ff0000000000000 with q | q
  · exact q
  · exfalso
    unfold Format.read at h
    have e1 : double.signWeight = 2 ^ 63 := rfl
    have e3 : double.infRung = 0x7ff0000000000000 := rfl
    have e2 : double.binade = 2 ^ 52 := rfl
    simp only [e1, e2, e3, if_neg (show ¬ x % 2 ^ 63 < 0x7ff0000000000000 by omega), if_neg (show ¬ x % 2 ^ 63 < 2 ^ 52 by omega)] at h
    by_cases q2 : x % 2 ^ 63 = 0x7ff0000000000000
    · simp [q2] at h
    · simp [q2] at h
/-- Whether a number less itself is 0. -/
theorem self_fin {x : Nat} (h : fin (ab x) = true) : ∃ z, bin .sub (ab x) (ab x) = some z ∧ eqF (ab z) (ab 0) = true := by
  have fx := fin_iff h
  obtain ⟨z, hz⟩ := bin_some_sub fx fx
  have zz := zr_of_val fx fx rfl hz
  obtain ⟨fz, vz⟩ := zz.val
  exact ⟨z, by rw [Fnt.ab fx]; exact hz, by rw [eqF_val fz fzero.1, vz, fzero.2]; rfl⟩
theorem self_nofin {x : Nat} (h : fin (ab x) = false) : eqF (bin .sub (ab x) (ab x)) (ab 0) = false := by
  rcases ab_none_or x with e | ⟨hx, e⟩
  · rw [e]; rfl
  · have hnone : bin .sub (some x) (some x) = none := by
      show double.sub x x = none
      unfold Format.sub
      rcases not_nan hx with ⟨s, m, i, ex⟩ | ⟨s, ex⟩
      · exfalso
        have fx : Fnt x := fnt_of_read ex
        rw [fin_of fx] at h
        cases h
      · rw [ex]
        cases s <;> rfl
    rw [e, hnone]; rfl
end Go.Proofs.Ytlgejebgkkmacaa
