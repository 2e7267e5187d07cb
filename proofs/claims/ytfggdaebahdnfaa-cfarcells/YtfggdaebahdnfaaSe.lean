/- Lists times a power of two: their levels, and what is found. -/
import Derived.Test.YtfggdaebahdnfaaSa
import Derived.Test.YtfggdaebahdnfaaYf
namespace Go.Proofs.Ytfggdaebahdnfaa
open Go.ChangeShapes Go.WideShapes Go.ChangeAt Go.RowKit Go.Fl Ieee

theorem Tm.uniq {p : Int} {x y z : Nat} (h : Tm p x y) (k : Tm p x z) : y = z := by
  rcases Classical.em (val x = 0) with g | g
  · rw [h.z g, k.z g]
  · refine val_inj h.fy k.fy h.ly k.ly (by rw [h.v, k.v]) ?_
    intro e
    exact g (h.zero.1 e)
/-- A number times the power of two itself. -/
theorem mul_s {p lo hi : Int} {x f : Nat} (fx : Fnt x) (lx : x < 2 ^ 64) (hb : Md lo hi (val x)) (h1 : -700 ≤ lo) (h2 : hi ≤ 700) (hf : Fnt f) (vf : val f = pw p) (p1 : -100 ≤ p) (p2 : p ≤ 100) : ∃ r, bin .mul (some x) (some f) = some r ∧ Tm p x r := by
  obtain ⟨r, hr⟩ := prod_some' fx hf
  refine ⟨r, hr, ?_⟩
  obtain ⟨s3, m3, e3, r3⟩ := fin_read hf
  obtain ⟨rfl, pm⟩ := pos_of r3 (by rw [vf]; exact pw_pos _)
  obtain ⟨s1, m1, e1, r1⟩ := fin_read fx
  have w := mul_word r1 r3 hr
  have lr : r < 2 ^ 64 := by rw [w]; exact write_lt _ _ _
  rcases Classical.em (val x = 0) with g | g
  · have hm := zero_read r1 g
    subst hm
    rw [Nat.zero_mul, Bool.xor_false] at w
    have e : double.write (.number s1 0 (e1 + e3)) = double.word s1 0 := by
      show double.nearest s1 0 (e1 + e3) = _
      unfold Format.nearest
      rw [if_pos rfl]
    rw [e] at w
    have hx : x = double.word s1 0 := by
      have hmod : x % 2 ^ 63 = 0 := by
        rcases val_cases x with c | c
        · rw [g] at c
          have hm : mag (x % 2 ^ 63) = 0 := by
            rcases Nat.eq_zero_or_pos (mag (x % 2 ^ 63)) with q | q
            · exact q
            · exfalso; have := Rat.mul_pos (Rat.natCast_pos.2 q) (pw_pos (-1074)); grind
          exact mag_zero _ hm
        · rw [g] at c
          have hm : mag (x % 2 ^ 63) = 0 := by
            rcases Nat.eq_zero_or_pos (mag (x % 2 ^ 63)) with q | q
            · exact q
            · exfalso; have := Rat.mul_pos (Rat.natCast_pos.2 q) (pw_pos (-1074)); grind
          exact mag_zero _ hm
      have hs : x = 0 ∨ x = 9223372036854775808 := by omega
      rcases hs with rfl | rfl
      · have : double.read 0 = .number false 0 (-1074) := by decide +kernel
        rw [this] at r1
        simp only [Datum.number.injEq] at r1
        rw [← r1.1]; decide +kernel
      · have : double.read 9223372036854775808 = .number true 0 (-1074) := by decide +kernel
        rw [this] at r1
        simp only [Datum.number.injEq] at r1
        rw [← r1.1]; decide +kernel
    rw [← hx] at w
    subst w
    exact same_tm fx lx g
  · rcases hb with k | k
    · exact absurd k g
    obtain ⟨s, m, e, S⟩ := size_of fx k
    obtain ⟨fr, vr⟩ := mul_pw S hf vf (by omega) (by omega) p1 p2 hr
    exact ⟨fx, fr, lx, lr, vr, fun h0 => absurd h0 g⟩
theorem key_tm {p : Int} {x y x' y' : Nat} (h : Tm p x x') (k : Tm p y y') (hk : key x ≤ key y) : key x' ≤ key y' := by
  rcases Nat.lt_or_ge (key x') (key y') with g | g
  · omega
  rcases Nat.lt_or_eq_of_le g with g | g
  · -- key y' < key x'
    exfalso
    rcases Classical.em (val x < val y) with q | q
    · have a := key_of_lt h.ly k.ly (by rw [ltF_val h.fy k.fy]; exact decide_eq_true ((h.lt k).1 q))
      omega
    · rcases Classical.em (val y < val x) with q2 | q2
      · have a := key_of_lt k.lx h.lx (by rw [ltF_val k.fx h.fx]; exact decide_eq_true q2)
        omega
      · have e : val x = val y := by grind
        rcases Classical.em (val x = 0) with z | z
        · have e1 := h.z z
          have e2 := k.z (by rw [← e]; exact z)
          subst e1 e2
          omega
        · have e1 := val_inj h.fx k.fx h.lx k.lx e z
          subst e1
          have e2 := h.uniq k
          subst e2
          omega
  · omega
/-- A list, and 2^p times it. -/
structure TL (p : Int) (d d' : Array Nat) : Prop where
  size : d'.size = d.size
  tm : ∀ i, i < d.size → Tm p d[i]! d'[i]!
  md : ∀ i, i < d.size → Md (-300) 300 (val d[i]!)
theorem md_um {x : Nat} (h : Md (-300) 300 (val x)) : Um x (pw 300) := by
  have hp := pw_pos 300
  have hq := pw_pos (-300)
  rcases h with h | ⟨h1, h2⟩ | ⟨h1, h2⟩
  · exact ⟨by grind, by grind, 0, by rw [h, show ((0 : Int) : Rat) = 0 from rfl, Rat.zero_mul]⟩
  · obtain ⟨k, hk⟩ := whole_units (y := x) (last := -352) (Y := val x) (by omega) (Or.inl rfl) (by grind) (Or.inr (by rw [show (-352 : Int) + 52 = -300 by omega]; exact h1))
    exact ⟨h2, by grind, (k : Int), hk⟩
  · obtain ⟨k, hk⟩ := whole_units (y := x) (last := -352) (Y := -val x) (by omega) (Or.inr (by grind)) (by grind) (Or.inr (by rw [show (-352 : Int) + 52 = -300 by omega]; grind))
    exact ⟨by grind, h1, -(k : Int), by rw [Rat.intCast_neg]; have : ((k : Int) : Rat) = (k : Rat) := rfl; rw [this]; grind⟩
theorem sum_tm {p : Int} {d d' : Array Nat} (h : TL p d d') (p1 : -100 ≤ p) (p2 : p ≤ 100) : ∀ k, k + 1 ≤ d.size → k + 1 ≤ 40000 →
    ∃ r r', sumN (fun i => ab d[i]!) (k + 1) = some r ∧ sumN (fun i => ab d'[i]!) (k + 1) = some r' ∧ Tm p r r' ∧ Um r (((k + 1 : Nat) : Rat) * pw 300)
  | 0, hk, _ => by
    have t := h.tm 0 (by omega)
    refine ⟨d[0]!, d'[0]!, Fnt.ab t.fx, Fnt.ab t.fy, t, ?_⟩
    have := md_um (h.md 0 (by omega))
    rw [show ((0 + 1 : Nat) : Rat) = 1 from rfl, Rat.one_mul]; exact this
  | k + 1, hk, hb => by
    obtain ⟨r, r', e1, e2, t, u⟩ := sum_tm h p1 p2 k (by omega) (by omega)
    have t2 := h.tm (k + 1) (by omega)
    have eA : ((k + 1 + 1 : Nat) : Rat) * pw 300 = ((k + 1 : Nat) : Rat) * pw 300 + pw 300 := by
      rw [Rat.natCast_add (k + 1) 1, show ((1 : Nat) : Rat) = 1 from rfl]; grind
    have bd : ((k + 1 + 1 : Nat) : Rat) * pw 300 ≤ pw 330 := by
      have h1 : ((k + 1 + 1 : Nat) : Rat) ≤ ((2 ^ 30 : Nat) : Rat) := Rat.natCast_le_natCast.2 (Nat.le_trans (show k + 1 + 1 ≤ 40000 by omega) (by decide))
      have h2 := Rat.mul_le_mul_of_nonneg_right h1 (Rat.le_of_lt (pw_pos 300))
      rw [← pw_nat, ← pw_add] at h2
      exact h2
    obtain ⟨_, w⟩ := exact_write false (K := k + 1 + 1) (e := 300) (Nat.lt_of_le_of_lt (show k + 1 + 1 ≤ 40000 by omega) (by decide)) (by omega) (Rat.le_trans bd (pw_mono (by omega)))
    rw [dv_false] at w
    obtain ⟨q, q', f1, f2, t3, u3⟩ := add_tm t t2 u (md_um (h.md (k + 1) (by omega))) ⟨_, by rw [w, eA]⟩ (by rw [← eA]; exact bd) p1 p2 (Rat.mul_nonneg Rat.natCast_nonneg (Rat.le_of_lt (pw_pos 300))) (Rat.le_of_lt (pw_pos 300))
    refine ⟨q, q', ?_, ?_, t3, by rw [eA]; exact u3⟩
    · rw [sumN_step, e1, Fnt.ab t2.fx]; exact f1
    · rw [sumN_step, e2, Fnt.ab t2.fy]; exact f2
/-- Two levels: floats, the one so many times the other. -/
structure L2 (p : Int) (o o' : Option Nat) (u u' : Nat) : Prop where
  e : o = some u
  e' : o' = some u'
  tm : Tm p u u'
  md : Md (-373) 341 (val u)
theorem mean_tm {p : Int} {d d' : Array Nat} (h : TL p d d') (p1 : -100 ≤ p) (p2 : p ≤ 100) (h0 : 0 < d.size) (hb : d.size ≤ 40000) : ∃ u u', L2 p (meanD d) (meanD d') u u' := by
  obtain ⟨k, hk⟩ : ∃ k, d.size = k + 1 := ⟨d.size - 1, by omega⟩
  obtain ⟨r, r', e1, e2, t, u⟩ := sum_tm h p1 p2 k (by omega) (by omega)
  obtain ⟨fc, vc⟩ := int_val (K := k + 1) (Nat.lt_of_le_of_lt (show k + 1 ≤ 40000 by omega) (by decide))
  have bd : ((k + 1 : Nat) : Rat) * pw 300 ≤ pw 340 := by
    have h1 : ((k + 1 : Nat) : Rat) ≤ ((2 ^ 30 : Nat) : Rat) := Rat.natCast_le_natCast.2 (Nat.le_trans (show k + 1 ≤ 40000 by omega) (by decide))
    have h2 := Rat.mul_le_mul_of_nonneg_right h1 (Rat.le_of_lt (pw_pos 300))
    rw [← pw_nat, ← pw_add] at h2
    exact Rat.le_trans h2 (pw_mono (by omega))
  obtain ⟨q, q', f1, f2, t3, m3⟩ := quo_tm t (u.md bd) (by omega) (by omega) p1 p2 fc vc (by omega) (by omega)
  refine ⟨q, q', ?_, ?_, t3, m3⟩
  · unfold meanD sumD
    rw [hk, e1, show ab (wholeF (k + 1)) = some (floatOfInt .f64 ((k + 1 : Nat) : Int)) from Fnt.ab fc]; exact f1
  · unfold meanD sumD
    rw [h.size, hk, e2, show ab (wholeF (k + 1)) = some (floatOfInt .f64 ((k + 1 : Nat) : Int)) from Fnt.ab fc]; exact f2
end Go.Proofs.Ytfggdaebahdnfaa
/- Levels of lists that are times a power of two; what is found. -/
namespace Go.Proofs.Ytfggdaebahdnfaa
open Go.ChangeShapes Go.WideShapes Go.ChangeAt Go.RowKit Go.Fl Ieee

theorem TL.cut {p : Int} {d d' : Array Nat} (h : TL p d d') (a b : Nat) : TL p (d.extract a b) (d'.extract a b) := by
  have hs : (d'.extract a b).size = (d.extract a b).size := by rw [cut_size, cut_size, h.size]
  refine ⟨hs, fun i hi => ?_, fun i hi => ?_⟩
  · obtain ⟨e1, l1⟩ := cut_get d a b hi
    obtain ⟨e2, _⟩ := cut_get d' a b (by rw [hs]; exact hi)
    rw [e1, e2]; exact h.tm _ l1
  · obtain ⟨e1, l1⟩ := cut_get d a b hi
    rw [e1]; exact h.md _ l1
theorem app_get (L R : Array Nat) {i : Nat} (hi : i < L.size + R.size) : (L ++ R)[i]! = if i < L.size then L[i]! else R[i - L.size]! := by
  rw [getElem!_pos _ i (by simpa using hi), Array.getElem_append]
  split
  · rename_i h; rw [getElem!_pos L i h]
  · rename_i h; rw [getElem!_pos R _ (by omega)]
theorem TL.app {p : Int} {L L' R R' : Array Nat} (h : TL p L L') (k : TL p R R') : TL p (L ++ R) (L' ++ R') := by
  refine ⟨by simp [h.size, k.size], fun i hi => ?_, fun i hi => ?_⟩
  · have hi' : i < L.size + R.size := by simpa using hi
    rw [app_get L R hi', app_get L' R' (by rw [h.size, k.size]; exact hi'), h.size]
    split
    · rename_i g; exact h.tm i g
    · rename_i g; exact k.tm _ (by omega)
  · have hi' : i < L.size + R.size := by simpa using hi
    rw [app_get L R hi']
    split
    · rename_i g; exact h.md i g
    · rename_i g; exact k.md _ (by omega)
/-- What stands at a place in order. -/
theorem nth_tm {p : Int} {d d' : Array Nat} (h : TL p d d') {k : Nat} (hk : k < d.size) : ∃ j x x', j < d.size ∧ x = d[j]! ∧ nthD d k = ab x ∧ nthD d' k = ab x' ∧ Tm p x x' := by
  obtain ⟨ps, hps⟩ : ∃ ps, ps = (d.toList.zip d'.toList).mergeSort (fun a b => decide (key a.1 ≤ key b.1)) := ⟨_, rfl⟩
  have hl : d.toList.length = d'.toList.length := by simp [h.size]
  have hperm : ps.Perm (d.toList.zip d'.toList) := by rw [hps]; exact List.mergeSort_perm _ _
  have hmem : ∀ a ∈ ps, ∃ i, i < d.size ∧ a.1 = d[i]! ∧ a.2 = d'[i]! := fun a ha => by
    have := hperm.mem_iff.1 ha
    obtain ⟨i, hi, e⟩ := List.mem_iff_getElem.1 this
    have hi' : i < d.size := by simp at hi; omega
    refine ⟨i, hi', ?_, ?_⟩
    · rw [← e, getElem!_pos d i hi']; simp
    · rw [← e, getElem!_pos d' i (by rw [h.size]; exact hi')]; simp
  have hsort : ps.Pairwise fun a b => key a.1 ≤ key b.1 := by
    have := List.pairwise_mergeSort (le := fun a b : Nat × Nat => decide (key a.1 ≤ key b.1)) (fun a b c h1 h2 => by simp only [decide_eq_true_eq] at *; omega) (fun a b => by simp only [Bool.or_eq_true, decide_eq_true_eq]; omega) (d.toList.zip d'.toList)
    rw [← hps] at this
    exact this.imp fun h => by simpa using h
  have htm : ∀ a ∈ ps, Tm p a.1 a.2 := fun a ha => by
    obtain ⟨i, hi, e1, e2⟩ := hmem a ha
    rw [e1, e2]; exact h.tm i hi
  have hsort2 : ps.Pairwise fun a b => key a.2 ≤ key b.2 := by
    rw [List.pairwise_iff_getElem] at hsort ⊢
    intro i j hi hj hij
    exact key_tm (htm _ (List.getElem_mem hi)) (htm _ (List.getElem_mem hj)) (hsort i j hi hj hij)
  have p1 : (ps.map Prod.fst).Perm d.toList := by
    have := hperm.map Prod.fst
    rwa [List.map_fst_zip (by omega)] at this
  have p2 : (ps.map Prod.snd).Perm d'.toList := by
    have := hperm.map Prod.snd
    rwa [List.map_snd_zip (by omega)] at this
  have hlen : ps.length = d.size := by have := p1.length_eq; simpa using this
  have hkp : k < ps.length := by omega
  obtain ⟨j, hj, e1, _⟩ := hmem ps[k] (List.getElem_mem hkp)
  refine ⟨j, ps[k].1, ps[k].2, hj, e1, ?_, ?_, htm _ (List.getElem_mem hkp)⟩
  · have t := htm _ (List.getElem_mem hkp)
    have g1 : (ps.map Prod.fst).toArray[k]! = ps[k].1 := by rw [getElem!_pos _ k (by simpa using hkp)]; simp
    unfold nthD
    rw [← kth_list (d := d) (d' := (ps.map Prod.fst).toArray) (by simpa using p1) (by rw [show (ps.map Prod.fst).toArray.toList = ps.map Prod.fst by simp]; exact List.pairwise_map.2 hsort) hk, g1, unk_key t.lx]
  · have t := htm _ (List.getElem_mem hkp)
    have g1 : (ps.map Prod.snd).toArray[k]! = ps[k].2 := by rw [getElem!_pos _ k (by simpa using hkp)]; simp
    unfold nthD
    rw [← kth_list (d := d') (d' := (ps.map Prod.snd).toArray) (by simpa using p2) (by rw [show (ps.map Prod.snd).toArray.toList = ps.map Prod.snd by simp]; exact List.pairwise_map.2 hsort2) (by rw [h.size]; exact hk), g1, unk_key t.ly]
theorem md_wide {v : Rat} (h : Md (-300) 300 v) : Md (-373) 341 v := by
  have a := pw_mono (show (-373 : Int) ≤ -300 by omega)
  have b := pw_mono (show (300 : Int) ≤ 341 by omega)
  rcases h with h | ⟨h1, h2⟩ | ⟨h1, h2⟩
  · exact Or.inl h
  · exact Or.inr (Or.inl ⟨by grind, by grind⟩)
  · exact Or.inr (Or.inr ⟨by grind, by grind⟩)
theorem lev_tm {p : Int} {L L' R R' : Array Nat} {way : Int} {nth : Nat} (h : TL p L L') (k : TL p R R') (p1 : -100 ≤ p) (p2 : p ≤ 100) (zl : L.size ≤ 20000) (zr : R.size ≤ 20000) (h0 : 0 < L.size + R.size) : ∃ u u', L2 p (levD way nth L R) (levD way nth L' R') u u' := by
  have hA := h.app k
  have sz : (L ++ R).size = L.size + R.size := by simp
  unfold levD
  rw [h.size, k.size, if_neg (show ¬ (L.size + R.size = 0) by omega), if_neg (show ¬ (L.size + R.size = 0) by omega)]
  by_cases h3 : way = 3
  · rw [if_pos h3, if_pos h3]
    obtain ⟨j, x, x', hj, ex, e1, e2, t⟩ := nth_tm hA (k := min nth (L.size + R.size - 1)) (by omega)
    refine ⟨x, x', by rw [e1, Fnt.ab t.fx], by rw [e2, Fnt.ab t.fy], t, ?_⟩
    rw [ex]; exact md_wide (hA.md j hj)
  rw [if_neg h3, if_neg h3]
  by_cases h12 : way = 1 ∨ way = 2
  · rw [if_pos h12, if_pos h12]
    unfold oneD
    rw [h.size, k.size]
    rcases Nat.eq_zero_or_pos L.size with g | g
    · rw [if_pos g, if_pos g]
      exact mean_tm k p1 p2 (by omega) (by omega)
    rw [if_neg (show ¬ L.size = 0 by omega), if_neg (show ¬ L.size = 0 by omega)]
    obtain ⟨r, r', hr⟩ := mean_tm h p1 p2 g (by omega)
    rcases Nat.eq_zero_or_pos R.size with q | q
    · rw [if_pos q, if_pos q]
      exact ⟨r, r', hr⟩
    rw [if_neg (show ¬ R.size = 0 by omega), if_neg (show ¬ R.size = 0 by omega)]
    obtain ⟨s, s', hs⟩ := mean_tm k p1 p2 q (by omega)
    rw [hr.e, hr.e', hs.e, hs.e']
    have g1 : gtF (some s') (some r') = gtF (some s) (some r) := by
      have := hs.tm.gt hr.tm
      rwa [Fnt.ab hs.tm.fy, Fnt.ab hr.tm.fy, Fnt.ab hs.tm.fx, Fnt.ab hr.tm.fx] at this
    have g2 : ltF (some s') (some r') = ltF (some s) (some r) := by
      have := hs.tm.ltF hr.tm
      rwa [Fnt.ab hs.tm.fy, Fnt.ab hr.tm.fy, Fnt.ab hs.tm.fx, Fnt.ab hr.tm.fx] at this
    unfold pickD
    rw [g1, g2]
    split
    · exact ⟨s, s', rfl, rfl, hs.tm, hs.md⟩
    · exact ⟨r, r', rfl, rfl, hr.tm, hr.md⟩
  · rw [if_neg h12, if_neg h12]
    exact mean_tm hA p1 p2 (by omega) (by omega)
/-- What is endless, times a number: all numbers stand alike against it. -/
theorem inf_like {x y t : Nat} (hx : Fnt x) (hy : Fnt y) (ht : Fnt t) : gtF (ab x) (bin .mul (some 9218868437227405312) (some t)) = gtF (ab y) (bin .mul (some 9218868437227405312) (some t)) := by
  obtain ⟨s3, m3, e3, r3⟩ := fin_read ht
  have e : bin .mul (some 9218868437227405312) (some t) = if m3 = 0 then none else some (double.write (.infinity (false ^^ s3))) := by
    show double.mul 9218868437227405312 t = _
    unfold Format.mul
    rw [read_top, r3]
    simp only [Datum.product]
    split <;> rfl
  rw [e]
  split
  · cases ab x <;> cases ab y <;> rfl
  · have key : ∀ z : Nat, Fnt z → gtF (ab z) (some (double.write (.infinity (false ^^ s3)))) = s3 := fun z hz => by
      have lz := lin_abs z
      have hz' := hz
      unfold Fnt at hz'
      cases s3
      · have w : double.write (.infinity (false ^^ false)) = 9218868437227405312 := by decide +kernel
        rw [w, ← inf_ab]
        cases hg : gtF (ab z) (ab 9218868437227405312) with
        | false => rfl
        | true =>
          exfalso
          obtain ⟨_, _, h3⟩ := gt_lin.1 hg
          have e1 : lin 9218868437227405312 = 9218868437227405312 := by decide +kernel
          rw [e1] at h3
          omega
      · have w : double.write (.infinity (false ^^ true)) = 18442240474082181120 := by decide +kernel
        have n : isN 18442240474082181120 = false := by decide +kernel
        rw [w, ← ab_some n]
        refine gt_lin.2 ⟨hz.num, n, ?_⟩
        have e1 : lin 18442240474082181120 = -9218868437227405312 := by decide +kernel
        rw [e1]
        rcases lz.2 with c | c <;> omega
    rw [key x hx, key y hy]
/-- The level of a list that is times a power of two; what is found in it. -/
theorem scaled_all {p : Int} {d d' : Array Nat} {way : Int} {G T M f : Nat} (h : TL p d d') (p1 : -100 ≤ p) (p2 : p ≤ 100) (hz : d.size ≤ 16384) (ff : Fnt f) (vf : val f = pw p) {k : Nat} (hk : k < d.size) :
    lvD way G T M d' k = bin .mul (lvD way G T M d k) (some f) ∧ ∀ t, Fnt t → Md (-300) 300 (val t) → echoD way G T M (ab t) d' k = echoD way G T M (ab t) d k := by
  have hl : TL p (lef d k G T) (lef d' k G T) := h.cut _ _
  have hr : TL p (rig d k G T) (rig d' k G T) := h.cut _ _
  have zl := lef_size d k G T hz
  have zr := rig_size d k G T hz
  have tk := h.tm k hk
  rcases Nat.eq_zero_or_pos ((lef d k G T).size + (rig d k G T).size) with g | g
  · have e : levD way M (lef d k G T) (rig d k G T) = some 9218868437227405312 := by unfold levD; rw [if_pos g]
    have e' : levD way M (lef d' k G T) (rig d' k G T) = some 9218868437227405312 := by unfold levD; rw [if_pos (by rw [hl.size, hr.size]; exact g)]
    refine ⟨?_, fun t ft _ => ?_⟩
    · unfold lvD
      rw [e, e']
      obtain ⟨s3, m3, e3, r3⟩ := fin_read ff
      obtain ⟨rfl, pm⟩ := pos_of r3 (by rw [vf]; exact pw_pos _)
      show _ = double.mul 9218868437227405312 f
      unfold Format.mul
      rw [read_top, r3]
      simp only [Datum.product, if_neg (show ¬ m3 = 0 by omega)]
      decide +kernel
    · unfold echoD lvD
      rw [e, e', Fnt.ab ft]
      exact inf_like tk.fy tk.fx ft
  · obtain ⟨u, u', L⟩ := lev_tm (way := way) (nth := M) hl hr p1 p2 (by omega) (by omega) g
    refine ⟨?_, fun t ft mt => ?_⟩
    · unfold lvD
      rw [L.e, L.e']
      obtain ⟨r, hr, tr⟩ := mul_s L.tm.fx L.tm.lx L.md (by omega) (by omega) ff vf p1 p2
      rw [hr, tr.uniq L.tm]
    · unfold echoD lvD
      rw [L.e, L.e', Fnt.ab ft]
      obtain ⟨r, q, h1, h2, t3, _⟩ := mul_tm L.tm L.md (by omega) (by omega) p1 p2 ft mt (by omega) (by omega)
      rw [h1, h2, ← Fnt.ab t3.fy, ← Fnt.ab t3.fx]
      exact tk.gt t3
end Go.Proofs.Ytfggdaebahdnfaa
