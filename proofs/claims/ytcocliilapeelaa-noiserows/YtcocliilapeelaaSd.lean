/- What NoiseRows leans on: floats in their stretches, whole numbers, products with a power of two. -/
import Derived.Test.YtcocliilapeelaaSa
import Derived.Test.YtcocliilapeelaaSb
namespace Go.Proofs.Ytcocliilapeelaa
open Go.Fl Ieee Go.RowKit

theorem sign_of {x : Nat} {s : Bool} {m : Nat} {i : Int} (ex : double.read x = .number s m i) (h0 : 0 ≤ val x) : s = true → m = 0 := by
  have vx := val_read ex
  have hp := pw_pos i
  have hm0 : 0 ≤ (m : Rat) * pw i := Rat.mul_nonneg Rat.natCast_nonneg (Rat.le_of_lt hp)
  intro hs
  subst hs
  rw [dv_true] at vx
  have h0 : (m : Rat) * pw i = 0 := by grind
  rcases Nat.eq_zero_or_pos m with h1 | h1
  · exact h1
  · have := Rat.mul_pos (Rat.natCast_pos.2 h1) hp
    grind
theorem floor_whole {x : Nat} (hx : Fnt x) (h0 : 0 ≤ val x) (hB : val x < 9007199254740992) : ∃ K : Nat, Fnt (floor x) ∧ val (floor x) = (K : Rat) ∧ (K : Rat) ≤ val x ∧ val x < (K : Rat) + 1 := by
  obtain ⟨s, m, i, ex⟩ := fin_read hx
  have vx := val_read ex
  have hp := pw_pos i
  have hsm := sign_of ex h0
  have hm0 : 0 ≤ (m : Rat) * pw i := Rat.mul_nonneg Rat.natCast_nonneg (Rat.le_of_lt hp)
  have hx' : val x = (m : Rat) * pw i := by
    cases s
    · rw [vx, dv_false]
    · rw [dv_true] at vx; grind
  obtain ⟨K, hK⟩ : ∃ K, K = Toward.down.cut s (m <<< i.toNat) (-i).toNat := ⟨_, rfl⟩
  have hf : floor x = double.write (.number s K 0) := by
    unfold floor
    rw [ex]
    simp only [Datum.integral, ← hK]
  have hKd : K = m * 2 ^ i.toNat / 2 ^ (-i).toNat := by
    rw [hK]
    unfold Toward.cut
    simp only [shl, Nat.one_mul]
    have hmore : ∀ r : Nat, (m = 0 → r = 0) → (s && r != 0).toNat = 0 := by
      intro r hr
      cases s
      · rfl
      · rw [hr (hsm rfl)]; rfl
    rw [hmore _ (fun h => by rw [h]; simp), Nat.add_zero]
    generalize m * 2 ^ i.toNat = n
    rcases Nat.lt_or_ge (n.log2 + 2) ((-i).toNat) with h | h
    · rw [Nat.min_eq_right (Nat.le_of_lt h)]
      have hn : n < 2 ^ (n.log2 + 1) := Nat.lt_log2_self
      have a1 : 2 ^ (n.log2 + 1) ≤ 2 ^ (n.log2 + 2) := Nat.pow_le_pow_right (by omega) (by omega)
      have a2 : 2 ^ (n.log2 + 2) ≤ 2 ^ ((-i).toNat) := Nat.pow_le_pow_right (by omega) (by omega)
      rw [Nat.div_eq_of_lt (by omega), Nat.div_eq_of_lt (by omega)]
    · rw [Nat.min_eq_left h]
  have hz0 : s = true → K = 0 := fun hs => by rw [hKd, hsm hs]; simp
  have hb : (K : Rat) ≤ val x ∧ val x < (K : Rat) + 1 := by
    rcases Int.le_total 0 i with hi | hi
    · have e1 : (-i).toNat = 0 := by omega
      have hKx : (K : Rat) = val x := by
        rw [hKd, e1, Nat.pow_zero, Nat.div_one, hx', Rat.natCast_mul, ← pw_nat, show ((i.toNat : Nat) : Int) = i by omega]
      constructor <;> grind
    · have e1 : i.toNat = 0 := by omega
      rw [e1, Nat.pow_zero, Nat.mul_one] at hKd
      obtain ⟨d, hd⟩ : ∃ d, d = (-i).toNat := ⟨_, rfl⟩
      rw [← hd] at hKd
      have hxi : val x * ((2 ^ d : Nat) : Rat) = (m : Rat) := by
        rw [hx', ← pw_nat, Rat.mul_assoc, ← pw_add, show i + (d : Int) = 0 by omega]
        have e0 : pw 0 = 1 := by decide +kernel
        rw [e0, Rat.mul_one]
      have hpd := Nat.two_pow_pos d
      have hpdR : (0 : Rat) < ((2 ^ d : Nat) : Rat) := Rat.natCast_pos.2 hpd
      have hdm := Nat.div_add_mod m (2 ^ d)
      have hlt := Nat.mod_lt m hpd
      rw [← hKd] at hdm
      have k1 : K * 2 ^ d ≤ m := by rw [Nat.mul_comm]; omega
      have k2 : m < (K + 1) * 2 ^ d := by rw [Nat.add_mul, Nat.mul_comm]; omega
      have k1' : (K : Rat) * ((2 ^ d : Nat) : Rat) ≤ (m : Rat) := by rw [← Rat.natCast_mul]; exact Rat.natCast_le_natCast.2 k1
      have k2' : (m : Rat) < ((K : Rat) + 1) * ((2 ^ d : Nat) : Rat) := by
        have := Rat.natCast_lt_natCast.2 k2
        rw [Rat.natCast_mul, Rat.natCast_add] at this
        exact this
      rw [← hxi] at k1' k2'
      refine ⟨le_of_mul hpdR k1', ?_⟩
      rcases (Rat.le_total : (K : Rat) + 1 ≤ val x ∨ val x ≤ (K : Rat) + 1) with h | h
      · exfalso
        have := Rat.mul_le_mul_of_nonneg_right h (Rat.le_of_lt hpdR)
        grind
      · refine Rat.lt_of_le_of_ne h fun e => ?_
        rw [e] at k2'
        grind
  have hK53 : K < 9007199254740992 := by
    rcases Nat.lt_or_ge K 9007199254740992 with h | h
    · exact h
    · exfalso
      have := Rat.natCast_le_natCast.2 h
      have e : ((9007199254740992 : Nat) : Rat) = 9007199254740992 := rfl
      rw [e] at this
      grind
  obtain ⟨g1, g2⟩ := int_write s (K := K) (by omega)
  refine ⟨K, by rw [hf]; exact g1, ?_, hb.1, hb.2⟩
  rw [hf, g2]
  have e0 : pw 0 = 1 := by decide +kernel
  cases hs : s
  · rw [dv_false, e0, Rat.mul_one]
  · rw [dv_true, hz0 hs, e0]
    have z : ((0 : Nat) : Rat) = 0 := rfl
    rw [z]; grind
theorem f53 : Fnt 4845873199050653696 ∧ val 4845873199050653696 = pw 53 := ⟨by unfold Fnt; decide, by decide +kernel⟩
/-- What is held of a Float, of it times 2^53, of that one's whole part. -/
structure FB (f g r : Nat) : Prop where
  ge : gtF (ab f) (ab 0) = true ∨ eqF (ab f) (ab 0) = true
  lt : ltF (ab f) (ab 4607182418800017408) = true
  eq : eqF (ab g) (ab r) = true
theorem fb_of {s : Int} {f g r : Nat} (hf : ab f = fltF s) (hg : ab g = bin .mul (ab f) (ab 4845873199050653696)) (hr : ab r = (ab g).map floor) : FB f g r := by
  obtain ⟨x, K, hx, hK, fx, vx, hab⟩ := flt_val s
  rw [hx] at hf
  have := of_ab hf
  subst this
  obtain ⟨r0, r1⟩ := flt_range hK vx
  have ef : ab f = some f := hf
  rw [ef, Fnt.ab f53.1] at hg
  obtain ⟨y, hy⟩ := bin_some_mul fx f53.1
  rw [hy] at hg
  have := of_ab hg
  subst this
  have e0 : pw (-53) * pw 53 = 1 := by rw [← pw_add]; decide +kernel
  have ev : val f * val 4845873199050653696 = (K : Rat) := by rw [vx, f53.2, Rat.mul_assoc, e0, Rat.mul_one]
  obtain ⟨fz, vz⟩ := int_val hK
  have hK1 : (K : Rat) < 9007199254740992 := by
    have : (K : Rat) < ((2 ^ 53 : Nat) : Rat) := Rat.natCast_lt_natCast.2 hK
    exact this
  have hK0 : (0 : Rat) ≤ (K : Rat) := Rat.natCast_nonneg
  have b53 : (9007199254740992 : Rat) ≤ pw 1000 := by
    have h := pw_mono (show (53 : Int) ≤ 1000 by omega)
    have e : pw 53 = 9007199254740992 := by decide +kernel
    rw [e] at h; exact h
  have a1 : val f * val 4845873199050653696 ≤ pw 1000 := by rw [ev]; grind
  have a2 : -pw 1000 ≤ val f * val 4845873199050653696 := by rw [ev]; grind
  obtain ⟨fy, _⟩ := mul_near fx f53.1 hy (B := pw 1000) a1 a2 Rat.le_refl
  have mono := mul_mono fx f53.1 hy a1 a2 (z := floatOfInt .f64 (K : Int))
  rw [ev, vz] at mono
  have vy : val g = (K : Rat) := Rat.le_antisymm (mono.1 Rat.le_refl) (mono.2 Rat.le_refl)
  obtain ⟨K', ff, vf, l1, l2⟩ := floor_whole fy (by rw [vy]; exact hK0) (by rw [vy]; exact hK1)
  rw [Fnt.ab fy] at hr
  have hr' : r = floor g := of_ab hr
  subst hr'
  have eK : K' = K := by
    rw [vy] at l1 l2
    have i1 : K' ≤ K := Rat.natCast_le_natCast.1 l1
    have i2 : K < K' + 1 := by
      have e : ((K' + 1 : Nat) : Rat) = (K' : Rat) + 1 := by rw [Rat.natCast_add]; rfl
      rw [← e] at l2
      exact Rat.natCast_lt_natCast.1 l2
    omega
  refine ⟨?_, ?_, ?_⟩
  · have z0 : Fnt 0 := by unfold Fnt; decide
    rw [gtF_val fx z0, eqF_val fx z0, val0]
    rcases Rat.le_iff_lt_or_eq.1 r0 with h | h
    · left; simpa using h
    · right; simpa using h.symm
  · rw [ltF_val fx fone.1, fone.2]; simpa using r1
  · rw [eqF_val fy ff, vy, vf, eK]; simp
/-- A Bell in its stretch. -/
structure HB (h : Nat) : Prop where
  ge : gtF (ab h) (ab 13841813454723219456) = true ∨ eqF (ab h) (ab 13841813454723219456) = true
  le : ltF (ab h) (ab 4618441417868443648) = true ∨ eqF (ab h) (ab 4618441417868443648) = true
theorem hb_of {s : Int} {h : Nat} (hh : ab h = bellF s) : HB h := by
  obtain ⟨x, hx, fx, x0, x1, _, hab⟩ := bell_val s
  rw [hx] at hh
  have := of_ab hh
  subst this
  refine ⟨?_, ?_⟩
  · rw [gtF_val fx fmsix.1, eqF_val fx fmsix.1, fmsix.2]
    rcases Rat.le_iff_lt_or_eq.1 x0 with h | h
    · left; simpa using h
    · right; simpa using h.symm
  · rw [ltF_val fx fsix.1, eqF_val fx fsix.1, fsix.2]
    rcases Rat.le_iff_lt_or_eq.1 x1 with h | h
    · left; simpa using h
    · right; simpa using h
/-- What a Pair tells is no NaN, if its width is finite. -/
theorem pair_num {s : Int} {X u v u' v' : Nat} (hX : Fnt X) (h : ab2 (u, v) = pairF s X) (h' : ab2 (u', v') = pairF s X) : eqF (ab u) (ab u') = true ∧ eqF (ab v) (ab v') = true := by
  obtain ⟨e1, e2⟩ := Prod.mk.inj (show (ab u, ab v) = pairF s X from h)
  obtain ⟨e3, e4⟩ := Prod.mk.inj (show (ab u', ab v') = pairF s X from h')
  have key : ∀ (t : Int) (a a' : Nat), ab a = bin .mul (bellF t) (ab X) → ab a' = bin .mul (bellF t) (ab X) → eqF (ab a) (ab a') = true := by
    intro t a a' h1 h2
    obtain ⟨x, hx, fx, _⟩ := bell_val t
    obtain ⟨y, hy⟩ := bin_some_mul fx hX
    have hN : isN y = false := bits_ok (show floatBits .mul .f64 x X = some y from hy)
    rw [hx, Fnt.ab hX, hy] at h1 h2
    rw [of_ab h1, of_ab h2, eqF_self, hN]; rfl
  exact ⟨key s u u' e1 e3, key (it s 12) v v' e2 e4⟩
theorem lo_val : Fnt 3110860544497550640 ∧ pw (-333) ≤ val 3110860544497550640 := ⟨by unfold Fnt; decide, by decide +kernel⟩
theorem hi_val : Fnt 6103021453049119613 ∧ val 6103021453049119613 ≤ pw 333 := ⟨by unfold Fnt; decide, by decide +kernel⟩
/-- A width in its stretch. -/
theorem width_size {X : Nat} (h1 : gtF (ab (abs X)) (ab 3110860544497550640) = true ∨ eqF (ab (abs X)) (ab 3110860544497550640) = true) (h2 : ltF (ab (abs X)) (ab 6103021453049119613) = true ∨ eqF (ab (abs X)) (ab 6103021453049119613) = true) : Fnt X ∧ ∃ s m e, Sz X (-333) 333 s m e := by
  have hN : isN (abs X) = false := by
    cases hn : isN (abs X)
    · rfl
    · exfalso
      rw [ab_none hn] at h2
      rcases h2 with h | h <;> cases h
  have hlt : abs X < 2 ^ 63 := Nat.mod_lt _ (by omega)
  have hF : Fnt (abs X) := by
    unfold Fnt
    rw [isN_mod] at hN
    have hle : abs X % 2 ^ 63 ≤ 0x7ff0000000000000 := by simpa using hN
    rw [Nat.mod_eq_of_lt hlt] at hle ⊢
    rcases Nat.lt_or_ge (abs X) 0x7ff0000000000000 with h | h
    · exact h
    · exfalso
      have e : abs X = 0x7ff0000000000000 := by omega
      rw [e] at h2
      revert h2
      decide +kernel
  have hX : Fnt X := by
    unfold Fnt at hF ⊢
    rw [Nat.mod_eq_of_lt hlt] at hF
    exact hF
  refine ⟨hX, ?_⟩
  have va := vabs X
  rw [gtF_val hF lo_val.1, eqF_val hF lo_val.1] at h1
  rw [ltF_val hF hi_val.1, eqF_val hF hi_val.1] at h2
  simp only [decide_eq_true_eq] at h1 h2
  have q1 := lo_val.2
  have q2 := hi_val.2
  have a1 : pw (-333) ≤ val (abs X) := by
    rcases h1 with h | h
    · exact Rat.le_trans q1 (Rat.le_of_lt h)
    · rw [h]; exact q1
  have a2 : val (abs X) ≤ pw 333 := by
    rcases h2 with h | h
    · exact Rat.le_trans (Rat.le_of_lt h) q2
    · rw [h]; exact q2
  apply size_of hX
  rw [va] at a1 a2
  unfold absR at a1 a2
  split at a1
  · rename_i hs
    rw [if_pos hs] at a2
    right; grind
  · rename_i hs
    rw [if_neg hs] at a2
    left; exact ⟨a1, a2⟩
/-- A part of a Pair of a width times a power of two. -/
theorem part_scaled {t : Int} {X f wf p q p' : Nat} {c : Int} {s2 : Bool} {m2 : Nat} {e2 : Int} (hW : Sz X (-333) 333 s2 m2 e2) (hf : Fnt f) (vf : val f = pw c) (h1 : -100 ≤ c) (h2 : c ≤ 100)
    (ew : ab wf = bin .mul (ab X) (ab f)) (ep : ab p = bin .mul (bellF t) (ab X)) (eq : ab q = bin .mul (bellF t) (ab wf)) (ep' : ab p' = bin .mul (ab p) (ab f)) : eqF (ab q) (ab p') = true := by
  obtain ⟨h, hh, fh, h0, h6, hz, _⟩ := bell_val t
  obtain ⟨W, hWf⟩ := bin_some_mul hW.fin hf
  rw [Fnt.ab hW.fin, Fnt.ab hf, hWf] at ew
  have := of_ab ew
  subst this
  obtain ⟨fw, vw⟩ := mul_pw hW hf vf (by omega) (by omega) h1 h2 hWf
  obtain ⟨P, hP⟩ := bin_some_mul fh hW.fin
  rw [hh, Fnt.ab hW.fin, hP] at ep
  have := of_ab ep
  subst this
  obtain ⟨Q, hQ⟩ := bin_some_mul fh fw
  rw [hh, Fnt.ab fw, hQ] at eq
  have := of_ab eq
  subst this
  rcases hz with hz | hz
  · obtain ⟨fp, vp⟩ := mul_zero fh hW.fin hz hP
    obtain ⟨fq, vq⟩ := mul_zero fh fw hz hQ
    obtain ⟨R, hR⟩ := bin_some_mul fp hf
    rw [Fnt.ab fp, Fnt.ab hf, hR] at ep'
    have := of_ab ep'
    subst this
    obtain ⟨fr, vr⟩ := mul_zero fp hf vp hR
    rw [eqF_val fq fr, vq, vr]; simp
  · have hsz : (pw (-50) ≤ val h ∧ val h ≤ pw 3) ∨ (-pw 3 ≤ val h ∧ val h ≤ -pw (-50)) := by
      have e3 : pw 3 = 8 := by decide +kernel
      rw [e3]
      rcases hz with hz | hz
      · left; exact ⟨hz, by grind⟩
      · right; exact ⟨by grind, hz⟩
    obtain ⟨s1, m1, e1, hs⟩ := size_of fh hsz
    have abp : ab p = some p := ep
    rw [abp, Fnt.ab hf] at ep'
    have fp : Fnt p := by
      have p1 : 0 ≤ (m1 : Rat) * pw e1 := Rat.mul_nonneg Rat.natCast_nonneg (Rat.le_of_lt (pw_pos e1))
      have p2 : 0 ≤ (m2 : Rat) * pw e2 := Rat.mul_nonneg Rat.natCast_nonneg (Rat.le_of_lt (pw_pos e2))
      have a := mul_bd p1 hs.high p2 hW.high
      have p3 := Rat.mul_nonneg p1 p2
      rw [← pw_add] at a
      have b := pw_mono (show (3 + 333 : Int) ≤ 1000 by omega)
      have h1000 := pw_pos 1000
      have hb : val h * val X ≤ pw 1000 ∧ -pw 1000 ≤ val h * val X := by
        rw [hs.v, hW.v]
        cases s1 <;> cases s2 <;> simp only [dv_false, dv_true] <;> grind
      exact (mul_near fh hW.fin hP (B := pw 1000) hb.1 hb.2 Rat.le_refl).1
    obtain ⟨R, hR⟩ := bin_some_mul fp hf
    rw [hR] at ep'
    have := of_ab ep'
    subst this
    obtain ⟨fq, fp', hv⟩ := scaled hs hW hf vf h1 h2 hP hWf hQ hR
    rw [eqF_val fq fp', hv]; simp
theorem flt_ge {s : Int} {f : Nat} (hf : ab f = fltF s) : gtF (ab f) (ab 0) = true ∨ eqF (ab f) (ab 0) = true := by
  obtain ⟨x, K, hx, hK, fx, vx, hab⟩ := flt_val s
  obtain ⟨y, hy⟩ := bin_some_mul fx f53.1
  have e : ab y = bin .mul (ab f) (ab 4845873199050653696) := by rw [hf, hx, Fnt.ab f53.1, hy]; exact ab_some (bits_ok (show floatBits .mul .f64 x 4845873199050653696 = some y from hy))
  have hN : isN y = false := bits_ok (show floatBits .mul .f64 x 4845873199050653696 = some y from hy)
  exact (fb_of hf e (r := floor y) (by rw [ab_some hN]; exact ab_some (floor_ok hN))).ge
theorem flt_lt {s : Int} {f : Nat} (hf : ab f = fltF s) : ltF (ab f) (ab 4607182418800017408) = true := by
  obtain ⟨x, K, hx, hK, fx, vx, hab⟩ := flt_val s
  obtain ⟨y, hy⟩ := bin_some_mul fx f53.1
  have e : ab y = bin .mul (ab f) (ab 4845873199050653696) := by rw [hf, hx, Fnt.ab f53.1, hy]; exact ab_some (bits_ok (show floatBits .mul .f64 x 4845873199050653696 = some y from hy))
  have hN : isN y = false := bits_ok (show floatBits .mul .f64 x 4845873199050653696 = some y from hy)
  exact (fb_of hf e (r := floor y) (by rw [ab_some hN]; exact ab_some (floor_ok hN))).lt
theorem leaf3 {a b c d e f : Bool} (A : a = true ∨ b = true) (D : c = true ∨ d = true) (E : e = true ∨ f = true) (h : (!a) = true ∧ (!b) = true ∨ (!c) = true ∧ (!d) = true ∨ (!e) = true ∧ (!f) = true) : False := by
  revert A D E h
  cases a <;> cases b <;> cases c <;> cases d <;> cases e <;> cases f <;> decide
end Go.Proofs.Ytcocliilapeelaa
