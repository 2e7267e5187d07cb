/- No square falls below nought, and what is seen makes nothing less sure: of the numbers. -/
import Derived.Test.YtdolfkgnehiecaaFy
import Derived.Test.YtdolfkgnehiecaaFv
import Derived.Test.YtdolfkgnehiecaaAc
import Derived.Test.YtdolfkgnehiecaaAf
namespace Go.Proofs.Ytdolfkgnehiecaa
open Go.Fl Ieee Go.RowKit

def leF (x y : Option Nat) : Bool := ltF x y || eqF x y
theorem zero_fnt : Fnt 0 := by unfold Fnt; decide
theorem lin0 : lin 0 = 0 := by decide +kernel
theorem leF_lin {x y : Nat} (hx : isN x = false) (hy : isN y = false) : leF (ab x) (ab y) = decide (lin x ≤ lin y) := by
  unfold leF
  rw [ltF_lin hx hy, eqF_lin hx hy, Bool.eq_iff_iff]
  simp; omega
theorem geF_lin {x y : Nat} (hx : isN x = false) (hy : isN y = false) : geF (ab x) (ab y) = decide (lin y ≤ lin x) := by
  unfold geF
  rw [gtF_lin hx hy, eqF_lin hx hy, Bool.eq_iff_iff]
  simp; omega
theorem ge_num {n : Nat} (h : geF (ab n) (ab 0) = true) : isN n = false ∧ 0 ≤ lin n := by
  cases hN : isN n with
  | true => rw [ab_none hN] at h; simp [geF, gtF, eqF, ord] at h
  | false =>
    rw [geF_lin hN zero_fnt.num, lin0] at h
    exact ⟨rfl, of_decide_eq_true h⟩
theorem val_lin0 {n : Nat} (hf : Fnt n) : 0 ≤ val n ↔ 0 ≤ lin n := by
  have := val_le_lin zero_fnt hf
  rw [val0, lin0] at this
  exact this
structure MayP (x v a b c : Nat) : Prop where
  fx : Fnt x
  fv : Fnt v
  fa : Fnt a
  fb : Fnt b
  fc : Fnt c
  a0 : 0 ≤ val a
  c0 : 0 ≤ val c
theorem may_parts {x v a b c : Nat} (h : mayF ⟨ab x, ab v, ab a, ab b, ab c⟩ = true) : MayP x v a b c := by
  simp only [mayF, Bool.and_eq_true] at h
  obtain ⟨⟨⟨⟨⟨h1, h2⟩, h3⟩, h4, h5⟩, h6⟩, h7⟩ := h
  have fa := fin_iff h4
  have fc := fin_iff h5
  exact ⟨fin_iff h1, fin_iff h2, fa, fin_iff h3, fc, (val_lin0 fa).2 (ge_num h6).2, (val_lin0 fc).2 (ge_num h7).2⟩
theorem inf_of {n : Nat} (hn : isN n = false) (hf : ¬ Fnt n) : ∃ s, double.read n = .infinity s := by
  rcases not_nan hn with ⟨s, m, e, h⟩ | h
  · exfalso
    apply hf
    unfold Fnt
    unfold Format.read at h
    have e1 : double.signWeight = 2 ^ 63 := rfl
    have e2 : double.binade = 2 ^ 52 := rfl
    have e3 : double.infRung = 0x7ff0000000000000 := rfl
    simp only [e1, e2, e3] at h
    split at h
    · omega
    · split at h
      · omega
      · split at h <;> cases h
  · exact h
theorem sign_lin {n : Nat} (h : n < 2 ^ 63) : 0 ≤ lin n := by rw [lin_low h]; omega
theorem one_fnt : Fnt 4607182418800017408 := by unfold Fnt; decide
theorem val_one : val 4607182418800017408 = 1 := by decide +kernel
theorem sgn_pos {y : Nat} (hy : Fnt y) (h0 : 0 < val y) : sgnD (double.read y) = false := by
  obtain ⟨t, n, j, ey⟩ := fin_read hy
  rw [ey]
  have := val_read ey
  cases t
  · rfl
  · rw [this, dv_true] at h0
    have : 0 ≤ (n : Rat) * pw j := Rat.mul_nonneg Rat.natCast_nonneg (Rat.le_of_lt (pw_pos j))
    grind
theorem quo_some_pos {u y : Nat} (hu : isN u = false) (hy : Fnt y) (h0 : 0 < val y) : ∃ p, bin .quo (some u) (some y) = some p := by
  obtain ⟨t, n, j, ey⟩ := fin_read hy
  have hn : n ≠ 0 := by
    rintro rfl
    rw [val_read ey] at h0
    cases t <;> simp [dv, sgn] at h0 <;> exact absurd h0 (by decide)
  show ∃ p, double.div u y = some p
  unfold Format.div
  rcases not_nan hu with ⟨s, m, i, hu⟩ | ⟨s, hu⟩
  · rw [hu, ey]; simp [Datum.quotient, hn]
  · rw [hu, ey]; simp [Datum.quotient]
/-- The sum of both squares, where it is finite. -/
theorem wid_parts {a n : Nat} (fa : Fnt a) (a0 : 0 ≤ val a) (hn : geF (ab n) (ab 0) = true) (hx : leF (bin .add (ab a) (ab n)) (ab 9218868437227405311) = true) :
    ∃ w, bin .add (ab a) (ab n) = some w ∧ Fnt w ∧ Fnt n ∧ 0 ≤ val n ∧ val a ≤ val w ∧ val n ≤ val w := by
  obtain ⟨hN, hl⟩ := ge_num hn
  rw [Fnt.ab fa, ab_some hN] at hx ⊢
  have fn : Fnt n := by
    refine Classical.byContradiction fun hf => ?_
    obtain ⟨s, hs⟩ := inf_of hN hf
    obtain ⟨t, m, e, ha⟩ := fin_read fa
    have hadd : bin .add (some a) (some n) = some (double.word s 0x7ff0000000000000) := by
      show double.add a n = _
      unfold Format.add
      rw [ha, hs]
      rfl
    rw [hadd] at hx
    cases s
    · exact absurd hx (by decide +kernel)
    · have : lin n < 0 := by
        have h1 := sgn_read n
        rw [hs] at h1
        simp only [sgnD] at h1
        have h2 : ¬ n % 2 ^ 63 < 0x7ff0000000000000 := hf
        unfold lin sgn
        rw [← h1]
        simp; omega
      omega
  have n0 := (val_lin0 fn).2 hl
  obtain ⟨w, hw⟩ := bin_some_add fa fn
  have hwN : isN w = false := bits_ok (op := .add) (x := a) (y := n) hw
  have ka := (add_lin fa fn fa hw).2 (by grind)
  have kn := (add_lin fa fn fn hw).2 (by grind)
  have hla := (val_lin0 fa).1 a0
  have fw : Fnt w := by
    rw [hw] at hx
    have mx : isN 9218868437227405311 = false := by decide +kernel
    rw [← ab_some hwN, leF_lin hwN mx] at hx
    have h1 := of_decide_eq_true hx
    have e1 : lin 9218868437227405311 = 9218868437227405311 := by decide +kernel
    rw [e1] at h1
    have h2 : 0 ≤ lin w := by omega
    unfold Fnt
    unfold lin sgn at h1 h2
    split at h1
    · rename_i q; rw [if_pos q] at h2; omega
    · omega
  exact ⟨w, hw, fw, fn, n0, (val_le_lin fa fw).2 ka, (val_le_lin fn fw).2 kn⟩
theorem sq_gain {a n w : Nat} (fa : Fnt a) (a0 : 0 ≤ val a) (fn : Fnt n) (n0 : 0 ≤ val n) (fw : Fnt w) (w0 : 0 < val w) (haw : val a ≤ val w) :
    ∃ k r, bin .quo (some a) (some w) = some k ∧ bin .mul (some k) (some n) = some r ∧ isN r = false ∧ 0 ≤ lin r ∧ lin r ≤ lin n := by
  obtain ⟨k, hk⟩ := quo_some_pos fa.num fw w0
  have hκ : val a / val w * val w = val a := Rat.div_mul_cancel (by grind)
  have h1 : val a / val w ≤ 1 := by
    refine le_of_mul w0 ?_
    rw [hκ, Rat.one_mul]
    exact haw
  have h990 : (1 : Rat) ≤ pw 990 := by
    have h0 : pw 0 = 1 := by decide +kernel
    rw [← h0]
    exact pw_mono (by omega)
  obtain ⟨fk, _, k0⟩ := quo_near fa fw a0 w0 hk hκ h1 h990
  have k1 := (quo_mono fa fw a0 w0 hk hκ h1 h990 (z := 4607182418800017408)).1 (by rw [val_one]; exact h1)
  rw [val_one] at k1
  obtain ⟨r, hr⟩ := bin_some_mul fk fn
  have hprod : 0 ≤ val k * val n := Rat.mul_nonneg k0 n0
  have hle : val k * val n ≤ val n := by
    have := Rat.mul_le_mul_of_nonneg_right k1 n0
    rw [Rat.one_mul] at this
    exact this
  have r1 := (mul_lin fk fn fn hr).1 hle
  have r0 := (mul_lin fk fn zero_fnt hr).2 (by rw [val0]; exact hprod)
  rw [lin0] at r0
  exact ⟨k, r, hk, hr, bits_ok (op := .mul) (x := k) (y := n) hr, r0, r1⟩
/-- What is taken off a number is not below nought: the greater of 0 and the rest is from 0 to the number. -/
theorem pos_sub {c : Nat} {o : Option Nat} (fc : Fnt c) (c0 : 0 ≤ val c) (ho : ∀ r, o = some r → isN r = false ∧ r < 2 ^ 63) : geF (posF (bin .sub (some c) o)) (ab 0) = true ∧ leF (posF (bin .sub (some c) o)) (ab c) = true := by
  have hl := (val_lin0 fc).1 c0
  have hz : geF (ab 0) (ab 0) = true ∧ leF (ab 0) (ab c) = true := by
    rw [geF_lin zero_fnt.num zero_fnt.num, leF_lin zero_fnt.num fc.num, lin0]
    simp [hl]
  cases hg : gtF (bin .sub (some c) o) (ab 0) with
  | false => unfold posF; rw [if_neg (by simp [hg])]; exact hz
  | true =>
    have hp : posF (bin .sub (some c) o) = bin .sub (some c) o := by unfold posF; rw [if_pos hg]
    rw [hp]
    refine ⟨by unfold geF; rw [hg]; rfl, ?_⟩
    cases o with
    | none => simp [bin, gtF, ord] at hg
    | some r =>
      obtain ⟨hN, hlo⟩ := ho r rfl
      have hrl := sign_lin hlo
      by_cases fr : Fnt r
      · obtain ⟨d, hd⟩ := bin_some_sub fc fr
        have hdN : isN d = false := bits_ok (op := .sub) (x := c) (y := r) hd
        have r0 := (val_lin0 fr).2 hrl
        have := (sub_lin fc fr fc hd).1 (by grind)
        rw [hd, ← ab_some hdN, leF_lin hdN fc.num]
        simpa using this
      · exfalso
        obtain ⟨s, hs⟩ := inf_of hN fr
        have hs2 : s = false := by
          have h1 := sgn_read r
          rw [hs] at h1
          simp only [sgnD] at h1
          rw [h1]
          simp; omega
        subst hs2
        obtain ⟨t, m, e, hc⟩ := fin_read fc
        have hsub : bin .sub (some c) (some r) = some (double.word true 0x7ff0000000000000) := by
          show double.sub c r = _
          unfold Format.sub
          rw [hc, hs]
          rfl
        rw [hsub] at hg
        exact absurd hg (by decide +kernel)
theorem seen_sq {x v a b c p n : Nat} (hM : MayP x v a b c) (hn : geF (ab n) (ab 0) = true) (hw : gtF (bin .add (ab a) (ab n)) (ab 0) = true) (hx : leF (bin .add (ab a) (ab n)) (ab 9218868437227405311) = true) :
    geF (seenF ⟨ab x, ab v, ab a, ab b, ab c⟩ (ab p) (ab n)).a (ab 0) = true ∧ leF (seenF ⟨ab x, ab v, ab a, ab b, ab c⟩ (ab p) (ab n)).a (ab a) = true ∧ leF (seenF ⟨ab x, ab v, ab a, ab b, ab c⟩ (ab p) (ab n)).a (ab n) = true ∧ geF (seenF ⟨ab x, ab v, ab a, ab b, ab c⟩ (ab p) (ab n)).c (ab 0) = true ∧ leF (seenF ⟨ab x, ab v, ab a, ab b, ab c⟩ (ab p) (ab n)).c (ab c) = true := by
  obtain ⟨w, ew, fw, fn, n0, haw, hnw⟩ := wid_parts hM.fa hM.a0 hn hx
  have w0 : 0 < val w := by
    rw [ew, ← Fnt.ab fw, gtF_val fw zero_fnt, val0] at hw
    exact of_decide_eq_true hw
  obtain ⟨k, r, hk, hr, hrN, r0, r1⟩ := sq_gain hM.fa hM.a0 fn n0 fw w0 haw
  obtain ⟨h, hh⟩ := quo_some_pos hM.fb.num fw w0
  have la := (val_lin0 hM.fa).1 hM.a0
  have ln := (val_lin0 fn).1 n0
  unfold seenF widF
  simp only [hw, if_true]
  have e1 : bin .mul (bin .quo (ab a) (bin .add (ab a) (ab n))) (ab n) = ab r := by rw [ew, Fnt.ab hM.fa, hk, Fnt.ab fn, hr, ab_some hrN]
  have e2 : bin .quo (ab b) (bin .add (ab a) (ab n)) = some h := by rw [ew, Fnt.ab hM.fb, hh]
  rw [e1, e2]
  have hles : lesF (ab a) (ab r) = ab (if lin r < lin a then r else a) := by
    unfold lesF
    rw [ltF_lin hrN hM.fa.num]
    by_cases q : lin r < lin a
    · simp [q]
    · simp [q]
  have hmN : isN (if lin r < lin a then r else a) = false := by split; exact hrN; exact hM.fa.num
  have hps := pos_sub (o := bin .mul (some h) (ab b)) hM.fc hM.c0 (fun u hu => by
    rw [Fnt.ab hM.fb] at hu
    refine ⟨bits_ok (op := .mul) (x := h) (y := b) hu, mul_low hu ?_⟩
    rw [quo_sign hh, sgn_pos fw w0]
    simp)
  rw [hles, Fnt.ab hM.fc]
  rw [Fnt.ab hM.fc] at hps
  refine ⟨?_, ?_, ?_, hps.1, hps.2⟩
  · rw [geF_lin hmN zero_fnt.num, lin0]; split <;> simp [r0, la]
  · rw [leF_lin hmN hM.fa.num]; split <;> simp <;> omega
  · rw [leF_lin hmN fn.num]; split <;> simp <;> omega
/-- What is added is not below nought: nothing falls. -/
theorem add_up {c : Nat} {o : Option Nat} (fc : Fnt c) (ho : ∀ r, o = some r → isN r = false ∧ 0 ≤ lin r) : ltF (bin .add (ab c) o) (ab c) = false := by
  cases o with
  | none => simp [bin, ltF, ord]
  | some r =>
    obtain ⟨hN, hrl⟩ := ho r rfl
    rw [show bin .add (ab c) (some r) = bin .add (some c) (some r) by rw [Fnt.ab fc]]
    by_cases fr : Fnt r
    · obtain ⟨d, hd⟩ := bin_some_add fc fr
      have hdN : isN d = false := bits_ok (op := .add) (x := c) (y := r) hd
      have r0 := (val_lin0 fr).2 hrl
      have := (add_lin fc fr fc hd).2 (by grind)
      rw [hd, ← ab_some hdN, ltF_lin hdN fc.num]
      simpa using this
    · obtain ⟨s, hs⟩ := inf_of hN fr
      have hs2 : s = false := by
        have h1 := sgn_read r
        rw [hs] at h1
        simp only [sgnD] at h1
        rw [h1]
        have h2 : ¬ r % 2 ^ 63 < 0x7ff0000000000000 := fr
        unfold lin sgn at hrl
        split at hrl
        · omega
        · rename_i q; simpa using q
      subst hs2
      obtain ⟨t, m, e, hc⟩ := fin_read fc
      have hadd : bin .add (some c) (some r) = some (double.word false 0x7ff0000000000000) := by
        show double.add c r = _
        unfold Format.add
        rw [hc, hs]
        rfl
      have hiN : isN (double.word false 0x7ff0000000000000) = false := by decide +kernel
      rw [hadd, ← ab_some hiN, ltF_lin hiN fc.num, lin_inf]
      have := (lin_fnt fc).1
      simp; omega
theorem gt_num {n : Nat} (h : gtF (ab n) (ab 0) = true) : isN n = false ∧ sgnD (double.read n) = false := by
  cases hN : isN n with
  | true => rw [ab_none hN] at h; simp [gtF, ord] at h
  | false =>
    rw [gtF_lin hN zero_fnt.num, lin0] at h
    have h1 := of_decide_eq_true h
    refine ⟨rfl, ?_⟩
    rw [sgn_read]
    unfold lin sgn at h1
    split at h1
    · omega
    · rename_i q; simpa using q
theorem pos_not_below (o : Option Nat) : ltF (posF o) (ab 0) = false := by
  unfold posF
  split
  · rename_i h
    unfold gtF at h
    unfold ltF
    rw [beq_iff_eq] at h
    rw [h]; rfl
  · decide +kernel
theorem ahead_sq {x v a b c t q : Nat} (hM : MayP x v a b c) (hq : geF (ab q) (ab 0) = true) : ltF (aheadF ⟨ab x, ab v, ab a, ab b, ab c⟩ (ab t) (ab q)).c (ab c) = false ∧ ltF (aheadF ⟨ab x, ab v, ab a, ab b, ab c⟩ (ab t) (ab q)).a (ab 0) = false := by
  unfold aheadF
  split
  · rename_i ht
    refine ⟨?_, pos_not_below _⟩
    obtain ⟨htN, hts⟩ := gt_num ht
    obtain ⟨hqN, hql⟩ := ge_num hq
    refine add_up hM.fc fun r hr => ?_
    rw [ab_some hqN, ab_some htN] at hr
    refine ⟨bits_ok (op := .mul) (x := q) (y := t) hr, ?_⟩
    by_cases h0 : sgnD (double.read q) = false
    · exact sign_lin (mul_low hr (by rw [h0, hts]))
    · have hz : q % 2 ^ 63 = 0 := by
        rw [sgn_read] at h0
        unfold lin sgn at hql
        split at hql
        · omega
        · rename_i w; exact absurd (by simpa using w) h0
      have fq : Fnt q := by unfold Fnt; omega
      have vq : val q = 0 := by
        have h1 := (val_le_lin fq zero_fnt)
        have h2 := (val_le_lin zero_fnt fq)
        have e0 : lin q = 0 := by unfold lin sgn; rw [hz]; split <;> rfl
        rw [e0, lin0, val0] at h1 h2
        have := h1.2 (by omega)
        have := h2.2 (by omega)
        grind
      by_cases ft : Fnt t
      · have := (mul_lin fq ft zero_fnt hr).2 (by rw [vq, val0, Rat.zero_mul]; exact Rat.le_refl)
        rw [lin0] at this
        exact this
      · exfalso
        obtain ⟨s, hs⟩ := inf_of htN ft
        obtain ⟨u, m, e, hqr⟩ := fin_read fq
        have hm : m = 0 := by
          have h1 := val_read hqr
          rw [vq] at h1
          rcases Nat.eq_zero_or_pos m with k | k
          · exact k
          · exfalso
            have : 0 < (m : Rat) * pw e := Rat.mul_pos (Rat.natCast_pos.2 k) (pw_pos e)
            cases u
            · rw [dv_false] at h1; grind
            · rw [dv_true] at h1; grind
        subst hm
        have h' : double.mul q t = some r := hr
        unfold Format.mul at h'
        rw [hqr, hs] at h'
        simp [Datum.product] at h'
  · refine ⟨?_, ?_⟩
    · rw [ltF_lin hM.fc.num hM.fc.num]; simp
    · rw [ltF_lin hM.fa.num zero_fnt.num, lin0]
      have := (val_lin0 hM.fa).1 hM.a0
      simpa using this
/-- How far: no number below nought, and no -0. -/
theorem far_sq {x v a b c p n : Nat} : ∀ r, farF ⟨ab x, ab v, ab a, ab b, ab c⟩ (ab p) (ab n) = some r → isN r = false ∧ r < 2 ^ 63 := by
  intro r hr
  unfold farF widF at hr
  simp only at hr
  split at hr
  · rename_i hw
    cases hy : bin .sub (ab p) (ab x) with
    | none => rw [hy] at hr; simp [bin] at hr
    | some y =>
      rw [hy] at hr
      cases hm : bin .mul (some y) (some y) with
      | none => rw [hm] at hr; simp [bin] at hr
      | some m =>
        rw [hm] at hr
        cases hs : bin .add (ab a) (ab n) with
        | none => rw [hs] at hr; simp [bin] at hr
        | some w =>
          rw [hs] at hr hw
          have hwN : isN w = false := by
            have := good_bin .add (ab a) (ab n)
            exact this w hs
          refine ⟨bits_ok (op := .quo) (x := m) (y := w) hr, ?_⟩
          have hrN : isN r = false := bits_ok (op := .quo) (x := m) (y := w) hr
          have hml := mul_low hm rfl
          have hq := quo_sign hr
          have s1 : sgnD (double.read m) = false := by rw [sgn_read]; simp; omega
          have s2 : sgnD (double.read w) = false := by
            rw [← ab_some hwN, gtF_lin hwN zero_fnt.num, lin0] at hw
            have h1 := of_decide_eq_true hw
            rw [sgn_read]
            unfold lin sgn at h1
            split at h1
            · omega
            · rename_i q; simpa using q
          rw [s1, s2, sgn_read] at hq
          have hbig : r < 2 ^ 64 := by
            have h' : double.div m w = some r := hr
            unfold Format.div at h'
            simp only [Option.map_eq_some_iff] at h'
            obtain ⟨d, hd, rfl⟩ := h'
            exact write_lt (quotient_ok hd)
          simp at hq
          omega
  · rw [show ab 9218868437227405312 = some 9218868437227405312 by decide +kernel] at hr
    cases hr
    exact ⟨by decide +kernel, by omega⟩
end Go.Proofs.Ytdolfkgnehiecaa
