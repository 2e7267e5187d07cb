/- What follows of whole numbers: the ways find less and less; of one number nothing. -/
import Derived.Test.YtfggdaebahdnfaaYe
import Derived.Test.YtfggdaebahdnfaaIa
namespace Go.Proofs.Ytfggdaebahdnfaa
open Go.ChangeShapes Go.WideShapes Go.ChangeAt Go.RowKit Go.Fl Ieee

theorem cut_get (d : Array Nat) (a b : Nat) {i : Nat} (hi : i < (d.extract a b).size) : (d.extract a b)[i]! = d[a + i]! ∧ a + i < d.size := by
  have h : i < min b d.size - a := by simpa using hi
  rw [getElem!_pos _ i hi, getElem!_pos d (a + i) (by omega)]
  refine ⟨by simp, by omega⟩
theorem cut_size (d : Array Nat) (a b : Nat) : (d.extract a b).size = min b d.size - a := by simp
theorem lef_size (d : Array Nat) (k G T : Nat) (h : d.size ≤ 16384) : (lef d k G T).size ≤ 16384 := by unfold lef; rw [cut_size]; omega
theorem rig_size (d : Array Nat) (k G T : Nat) (h : d.size ≤ 16384) : (rig d k G T).size ≤ 16384 := by unfold rig; rw [cut_size]; omega
theorem cut_all {p : Nat → Prop} {d : Array Nat} (h : ∀ i, i < d.size → p d[i]!) (a b : Nat) : ∀ i, i < (d.extract a b).size → p (d.extract a b)[i]! := fun i hi => by
  obtain ⟨e, l⟩ := cut_get d a b hi
  rw [e]; exact h _ l
theorem LI.echo {o : Option Nat} {u x t : Nat} (h : LI o u) : gtF (ab x) (bin .mul o (some t)) = gtF (ab x) (bin .mul (some u) (some t)) := by rw [h.eq]
/-- What the greater mean finds the mean of all finds, and what that finds the lesser mean finds. -/
theorem echo_chain {G T M t k : Nat} {d : Array Nat} (hd : ∀ i, i < d.size → Wn d[i]!) (hz : d.size ≤ 16384) (hk : k < d.size) (ht : Fnt t) (t0 : 0 ≤ val t) :
    (echoD 1 G T M (ab t) d k = true → echoD 0 G T M (ab t) d k = true) ∧ (echoD 0 G T M (ab t) d k = true → echoD 2 G T M (ab t) d k = true) := by
  unfold echoD lvD
  rw [Fnt.ab ht]
  have zl := lef_size d k G T hz
  have zr := rig_size d k G T hz
  rcases Nat.eq_zero_or_pos ((lef d k G T).size + (rig d k G T).size) with g | g
  · have e : ∀ y, levD y M (lef d k G T) (rig d k G T) = some 9218868437227405312 := fun y => by unfold levD; rw [if_pos g]
    rw [e, e, e]
    exact ⟨id, id⟩
  · obtain ⟨u, v, w, hu, hv, hw, l1, l2⟩ := lev_chain (nth := M) (L := lef d k G T) (R := rig d k G T) (cut_all hd _ _) (cut_all hd _ _) (by omega) (by omega) g
    rw [hu.echo, hv.echo, hw.echo]
    obtain ⟨fx, z, hz1, hz2⟩ := hd k hk
    have xv : val d[k]! ≤ 1073741824 := by
      rw [hz2]
      have := Rat.natCast_le_natCast.2 hz1
      exact this
    exact ⟨level_less fx xv hu.fin hv.fin hu.lt hv.lt ht hv.nn l2 t0, level_less fx xv hv.fin hw.fin hv.lt hw.lt ht hw.nn l1 t0⟩
/-- All cells are of one value. -/
theorem zN_same {L : Array Nat} {z : Nat} (h : ∀ i, i < L.size → zOf L[i]! = z) : ∀ k, k ≤ L.size → zN L k = z * k
  | 0, _ => rfl
  | k + 1, hk => by
    show zN L k + zOf L[k]! = z * (k + 1)
    rw [zN_same h k (by omega), h k (by omega), Nat.mul_succ]
theorem mean_same {L : Array Nat} {r x : Nat} (h : MI L r) (hx : Wn x) (hs : ∀ i, i < L.size → zOf L[i]! = zOf x) : val r = val x := by
  obtain ⟨s, c, fs, fc, vs, vc, hr⟩ := h.quo
  rw [zN_same hs _ (Nat.le_refl _), Rat.natCast_mul] at vs
  have hc : 0 < val c := by rw [vc]; exact Rat.natCast_pos.2 h.size.1
  obtain ⟨ex, bx⟩ := zOf_val hx
  have x0 : 0 ≤ val x := by rw [ex]; exact Rat.natCast_nonneg
  have b : val x ≤ 1073741824 := by rw [ex]; have := Rat.natCast_le_natCast.2 bx; exact this
  have b2 : (1073741824 : Rat) ≤ pw 990 := by
    have e : (1073741824 : Rat) = pw ((30 : Nat) : Int) := by decide +kernel
    rw [e]; exact pw_mono (by omega)
  have k := quo_mono fs fc (by rw [vs, ← ex, ← vc]; exact Rat.mul_nonneg x0 (Rat.le_of_lt hc)) hc hr (κ := val x) (B := 1073741824) (by rw [vs, vc, ← ex]) b b2 (z := x)
  have k1 := k.1 Rat.le_refl
  have k2 := k.2 Rat.le_refl
  grind
theorem nth_mem {d : Array Nat} (hF : Fit d) {k : Nat} (hk : k < d.size) : ∃ j, j < d.size ∧ nthD d k = ab d[j]! := by
  have hl := keys_length d.toList
  have hk' : k < (keys d.toList).length := by rw [hl]; simpa using hk
  have hm : kth d k ∈ keys d.toList := by
    unfold kth
    rw [getElem!_pos _ k hk']
    exact List.getElem_mem _
  have hm2 : kth d k ∈ d.toList.map key := (List.mergeSort_perm _ _).mem_iff.1 hm
  obtain ⟨x, hx, e⟩ := List.mem_map.1 hm2
  obtain ⟨j, hj, ej⟩ := List.mem_iff_getElem.1 hx
  have hj' : j < d.size := by simpa using hj
  refine ⟨j, hj', ?_⟩
  have ej' : d[j]! = x := by rw [getElem!_pos d j hj', ← ej]; simp
  unfold nthD
  rw [← e, ej']
  exact unk_key (by rw [← ej']; exact hF j hj')
/-- Of one number the level is that number, whatever the way. -/
theorem lev_same {L R : Array Nat} {nth x : Nat} {way : Int} (hL : ∀ i, i < L.size → Wn L[i]!) (hR : ∀ i, i < R.size → Wn R[i]!) (fL : Fit L) (fR : Fit R) (zl : L.size ≤ 20000) (zr : R.size ≤ 20000) (h0 : 0 < L.size + R.size) (hx : Wn x) (sL : ∀ i, i < L.size → zOf L[i]! = zOf x) (sR : ∀ i, i < R.size → zOf R[i]! = zOf x) :
    ∃ u, levD way nth L R = some u ∧ Fnt u ∧ val u = val x := by
  have sA : ∀ i, i < (L ++ R).size → zOf (L ++ R)[i]! = zOf x := by
    intro i hi
    have hi' : i < L.size + R.size := by simpa using hi
    rw [getElem!_pos _ i hi, Array.getElem_append]
    split
    · rename_i h; have := sL i h; rwa [getElem!_pos L i h] at this
    · rename_i h; have := sR (i - L.size) (by omega); rwa [getElem!_pos R _ (by omega)] at this
  have hA := whole_app hL hR
  unfold levD
  rw [if_neg (by omega)]
  by_cases h3 : way = 3
  · rw [if_pos h3]
    obtain ⟨j, hj, e⟩ := nth_mem (d := L ++ R) (fit_app fL fR) (k := min nth (L.size + R.size - 1)) (by simp; omega)
    have w := hA j hj
    refine ⟨(L ++ R)[j]!, by rw [e, Fnt.ab w.1], w.1, ?_⟩
    rw [(zOf_val w).1, sA j hj, ← (zOf_val hx).1]
  rw [if_neg h3]
  by_cases h12 : way = 1 ∨ way = 2
  · rw [if_pos h12]
    unfold oneD
    rcases Nat.eq_zero_or_pos L.size with g | g
    · rw [if_pos g]
      obtain ⟨r, hr⟩ := mean_is hR (by omega) (by omega)
      exact ⟨r, hr.eq, hr.fin, mean_same hr hx sR⟩
    rw [if_neg (by omega)]
    obtain ⟨r, hr⟩ := mean_is hL g (by omega)
    rcases Nat.eq_zero_or_pos R.size with k | k
    · rw [if_pos k]
      exact ⟨r, hr.eq, hr.fin, mean_same hr hx sL⟩
    rw [if_neg (by omega)]
    obtain ⟨q, hq⟩ := mean_is hR k (by omega)
    rw [hr.eq, hq.eq]
    unfold pickD
    split
    · exact ⟨q, rfl, hq.fin, mean_same hq hx sR⟩
    · exact ⟨r, rfl, hr.fin, mean_same hr hx sL⟩
  · rw [if_neg h12]
    obtain ⟨r, hr⟩ := mean_is hA (by simp; omega) (by simp; omega)
    exact ⟨r, hr.eq, hr.fin, mean_same hr hx sA⟩
theorem lin_abs (x : Nat) : lin x ≤ ((x % 2 ^ 63 : Nat) : Int) ∧ (lin x = ((x % 2 ^ 63 : Nat) : Int) ∨ lin x = -((x % 2 ^ 63 : Nat) : Int)) := by
  unfold lin sgn
  split
  · refine ⟨by omega, Or.inr rfl⟩
  · exact ⟨Int.le_refl _, Or.inl rfl⟩
theorem read_top : double.read 9218868437227405312 = .infinity false := by decide +kernel
/-- Nothing is greater than what is endless. -/
theorem inf_no {x t : Nat} (hx : Fnt x) (ht : Fnt t) (h : 0 < val t) : gtF (ab x) (bin .mul (some 9218868437227405312) (some t)) = false := by
  obtain ⟨s3, m3, e3, r3⟩ := fin_read ht
  obtain ⟨rfl, pm⟩ := pos_of r3 h
  have e : bin .mul (some 9218868437227405312) (some t) = some 9218868437227405312 := by
    show double.mul 9218868437227405312 t = _
    unfold Format.mul
    rw [read_top, r3]
    simp only [Datum.product, if_neg (show ¬ m3 = 0 by omega)]
    decide +kernel
  rw [e, ← inf_ab]
  cases hg : gtF (ab x) (ab 9218868437227405312) with
  | false => rfl
  | true =>
    exfalso
    obtain ⟨_, _, h3⟩ := gt_lin.1 hg
    have e1 : lin 9218868437227405312 = 9218868437227405312 := by decide +kernel
    rw [e1] at h3
    have := (lin_abs x).1
    unfold Fnt at hx
    omega
/-- Of one number nothing is found, once or more. -/
theorem same_none {G T M t k : Nat} {way : Int} {d : Array Nat} (hd : ∀ i, i < d.size → Wn d[i]!) (fd : Fit d) (hz : d.size ≤ 16384) (hk : k < d.size) (hs : ∀ i, i < d.size → val d[i]! = val d[0]!) (ht : Fnt t) (t1 : 1 ≤ val t) : echoD way G T M (ab t) d k = false := by
  unfold echoD lvD
  rw [Fnt.ab ht]
  have zl := lef_size d k G T hz
  have zr := rig_size d k G T hz
  have w := hd k hk
  have hz0 : ∀ i, i < d.size → zOf d[i]! = zOf d[k]! := fun i hi => by
    have a := (zOf_val (hd i hi)).1
    have b := (zOf_val w).1
    rw [hs i hi, ← hs k hk, b] at a
    have c := Rat.natCast_le_natCast.1 (show ((zOf d[i]! : Nat) : Rat) ≤ ((zOf d[k]! : Nat) : Rat) by rw [a]; exact Rat.le_refl)
    have c' := Rat.natCast_le_natCast.1 (show ((zOf d[k]! : Nat) : Rat) ≤ ((zOf d[i]! : Nat) : Rat) by rw [a]; exact Rat.le_refl)
    omega
  rcases Nat.eq_zero_or_pos ((lef d k G T).size + (rig d k G T).size) with g | g
  · rw [show levD way M (lef d k G T) (rig d k G T) = some 9218868437227405312 by unfold levD; rw [if_pos g]]
    exact inf_no w.1 ht (by grind)
  · obtain ⟨u, hu, fu, vu⟩ := lev_same (nth := M) (way := way) (x := d[k]!) (L := lef d k G T) (R := rig d k G T) (cut_all hd _ _) (cut_all hd _ _) (fit_cut fd _ _) (fit_cut fd _ _) (by omega) (by omega) g w (cut_all (p := fun x => zOf x = zOf d[k]!) hz0 _ _) (cut_all (p := fun x => zOf x = zOf d[k]!) hz0 _ _)
    rw [hu]
    obtain ⟨ez, bz⟩ := zOf_val w
    exact level_same w.1 (by rw [ez]; have := Rat.natCast_le_natCast.2 bz; exact this) (by rw [ez]; exact Rat.natCast_nonneg) fu ht vu t1
/-- What the statement asks of a whole number. -/
def wholeB (x : Nat) : Bool := (gtF (ab x) (ab 0) || eqF (ab x) (ab 0)) && (ltF (ab x) (ab 4742290407621132288) || eqF (ab x) (ab 4742290407621132288)) && eqF (ab x) (ab (floor x))
theorem lt_lin {x y : Nat} (h : ltF (ab x) (ab y) = true) : isN x = false ∧ isN y = false ∧ lin x < lin y := by
  cases hx : isN x with
  | true => simp [ltF, ab_none hx, ord] at h
  | false =>
    cases hy : isN y with
    | true =>
      rw [ab_none hy, ab_some hx] at h
      simp [ltF, ord] at h
    | false =>
      unfold ltF at h
      rw [ord_lin hx hy] at h
      simp only [Int.compare_eq_ite_lt] at h
      refine ⟨rfl, rfl, ?_⟩
      (repeat' split at h) <;> simp at h <;> omega
theorem wholeB_wn {x : Nat} (h : wholeB x = true) : Wn x := by
  unfold wholeB at h
  simp only [Bool.and_eq_true, Bool.or_eq_true] at h
  obtain ⟨⟨h1, h2⟩, h3⟩ := h
  have l0 : lin 0 = 0 := by decide +kernel
  have l1 : lin 4742290407621132288 = 4742290407621132288 := by decide +kernel
  have a : 0 ≤ lin x := by
    rcases h1 with h1 | h1
    · have := (gt_lin.1 h1).2.2; omega
    · have := (eq_lin h1).2.2; omega
  have b : lin x ≤ 4742290407621132288 := by
    rcases h2 with h2 | h2
    · have := (lt_lin h2).2.2; omega
    · have := (eq_lin h2).2.2; omega
  have fx : Fnt x := by
    unfold Fnt
    rcases (lin_abs x).2 with c | c <;> omega
  have f0 : Fnt 0 := by unfold Fnt; decide
  have f1 : Fnt 4742290407621132288 := by unfold Fnt; decide
  have v1 : val 4742290407621132288 = 1073741824 := by decide +kernel
  have va : 0 ≤ val x := by
    rw [gtF_val fx f0, eqF_val fx f0, val0] at h1
    simp only [decide_eq_true_eq] at h1
    grind
  have vb : val x ≤ 1073741824 := by
    rw [ltF_val fx f1, eqF_val fx f1, v1] at h2
    simp only [decide_eq_true_eq] at h2
    grind
  obtain ⟨K, fk, vk, _, _⟩ := floor_whole fx va (by grind)
  rw [eqF_val fx fk] at h3
  simp only [decide_eq_true_eq] at h3
  refine ⟨fx, K, ?_, by rw [h3, vk]⟩
  rw [h3, vk] at vb
  exact Rat.natCast_le_natCast.1 vb
end Go.Proofs.Ytfggdaebahdnfaa
