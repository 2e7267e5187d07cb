/- Levels of whole numbers: their order. -/
import Derived.Test.YtfggdaebahdnfaaYd
import Derived.Test.YtfggdaebahdnfaaHf
namespace Go.Proofs.Ytfggdaebahdnfaa
open Go.ChangeShapes Go.WideShapes Go.ChangeAt Go.RowKit Go.Fl Ieee

/-- A whole number from 0 to 2^30. -/
def Wn (x : Nat) : Prop := Fnt x ∧ ∃ z : Nat, z ≤ 1073741824 ∧ val x = (z : Rat)
open Classical in
noncomputable def zOf (x : Nat) : Nat := if h : ∃ z : Nat, val x = (z : Rat) then Classical.choose h else 0
theorem zOf_val {x : Nat} (h : Wn x) : val x = (zOf x : Rat) ∧ zOf x ≤ 1073741824 := by
  obtain ⟨_, z, hz, hv⟩ := h
  have hx : ∃ z : Nat, val x = (z : Rat) := ⟨z, hv⟩
  have e : val x = (zOf x : Rat) := by
    unfold zOf
    rw [dif_pos hx]
    exact Classical.choose_spec hx
  refine ⟨e, ?_⟩
  rw [e] at hv
  have := Rat.natCast_le_natCast.1 (show ((zOf x : Nat) : Rat) ≤ (z : Rat) by rw [hv]; exact Rat.le_refl)
  omega
theorem zOf_wh {x : Nat} (h : Wn x) : WH (ab x) (zOf x : Int) := ⟨x, Fnt.ab h.1, h.1, by rw [(zOf_val h).1]; rfl⟩
noncomputable def zN (d : Array Nat) : Nat → Nat
  | 0 => 0
  | k + 1 => zN d k + zOf d[k]!
theorem sum_wh {d : Array Nat} (h : ∀ i, i < d.size → Wn d[i]!) : ∀ k, k + 1 ≤ d.size → k + 1 ≤ 40000 → WH (sumN (fun i => ab d[i]!) (k + 1)) (zN d (k + 1) : Int) ∧ zN d (k + 1) ≤ 1073741824 * (k + 1)
  | 0, hk, _ => by
    have := zOf_val (h 0 (by omega))
    refine ⟨?_, ?_⟩
    · show WH (ab d[0]!) ((0 + zOf d[0]! : Nat) : Int)
      rw [Nat.zero_add]; exact zOf_wh (h 0 (by omega))
    · show 0 + zOf d[0]! ≤ _
      omega
  | k + 1, hk, hb => by
    obtain ⟨i1, i2⟩ := sum_wh h k (by omega) (by omega)
    have z := zOf_val (h (k + 1) (by omega))
    have e : zN d (k + 1 + 1) = zN d (k + 1) + zOf d[k + 1]! := rfl
    refine ⟨?_, by rw [e]; omega⟩
    rw [sumN_step, e]
    exact (WH.add i1 (zOf_wh (h (k + 1) (by omega))) (by unfold P53; omega) (by unfold P53; omega)).cast (by omega)
theorem zN_left (L R : Array Nat) : ∀ k, k ≤ L.size → zN (L ++ R) k = zN L k
  | 0, _ => rfl
  | k + 1, h => by
    show zN (L ++ R) k + zOf (L ++ R)[k]! = zN L k + zOf L[k]!
    rw [zN_left L R k (by omega), getElem!_pos _ k (by simp; omega), Array.getElem_append_left (by omega), getElem!_pos L k (by omega)]
theorem zN_app (L R : Array Nat) : ∀ k, k ≤ R.size → zN (L ++ R) (L.size + k) = zN L L.size + zN R k
  | 0, _ => by rw [Nat.add_zero, zN_left L R _ (Nat.le_refl _)]; rfl
  | k + 1, h => by
    show zN (L ++ R) (L.size + k) + zOf (L ++ R)[L.size + k]! = zN L L.size + (zN R k + zOf R[k]!)
    rw [zN_app L R k (by omega), getElem!_pos _ (L.size + k) (by simp; omega), Array.getElem_append_right (by omega), getElem!_pos R k (by omega)]
    simp only [Nat.add_sub_cancel_left]
    omega
/-- A mean that is a float. -/
structure MI (L : Array Nat) (r : Nat) : Prop where
  eq : meanD L = some r
  fin : Fnt r
  lt : r < 2 ^ 64
  nn : 0 ≤ val r
  quo : ∃ s c, Fnt s ∧ Fnt c ∧ val s = (zN L L.size : Rat) ∧ val c = (L.size : Rat) ∧ bin .quo (some s) (some c) = some r
  top : zN L L.size ≤ 1073741824 * L.size
  size : 0 < L.size ∧ L.size ≤ 40000
theorem quo_some {x y : Nat} (hx : Fnt x) (hy : Fnt y) (h0 : 0 < val y) : ∃ r, bin .quo (some x) (some y) = some r ∧ r < 2 ^ 64 := by
  obtain ⟨s1, m1, e1, r1⟩ := fin_read hx
  obtain ⟨s3, m3, e3, r3⟩ := fin_read hy
  obtain ⟨rfl, pm⟩ := pos_of r3 h0
  have h : ∃ d : Nat × Int, (Datum.number s1 m1 e1).quotient (double.fractionBits + 2) (.number false m3 e3) = some (.number (s1 ^^ false) d.1 d.2) := by
    simp only [Datum.quotient, if_neg (show ¬ m3 = 0 by omega)]
    exact ⟨(_, _), rfl⟩
  obtain ⟨d, hd⟩ := h
  refine ⟨double.write (.number (s1 ^^ false) d.1 d.2), ?_, write_lt _ _ _⟩
  show double.div x y = _
  unfold Format.div
  rw [r1, r3, hd]
  rfl
theorem mean_is {L : Array Nat} (h : ∀ i, i < L.size → Wn L[i]!) (h0 : 0 < L.size) (hb : L.size ≤ 40000) : ∃ r, MI L r := by
  obtain ⟨k, hk⟩ : ∃ k, L.size = k + 1 := ⟨L.size - 1, by omega⟩
  obtain ⟨⟨s, hs, fs, vs⟩, top⟩ := sum_wh h k (by omega) (by omega)
  rw [← hk] at hs vs top
  obtain ⟨fc, vc⟩ := int_val (K := L.size) (Nat.lt_of_le_of_lt hb (by decide))
  have p0 : 0 < val (floatOfInt .f64 (L.size : Int)) := by rw [vc]; exact Rat.natCast_pos.2 h0
  obtain ⟨r, hr, lr⟩ := quo_some fs fc p0
  have vs' : val s = (zN L L.size : Rat) := by rw [vs]; rfl
  have s0 : 0 ≤ val s := by rw [vs']; exact Rat.natCast_nonneg
  obtain ⟨κ, hκ⟩ : ∃ κ : Rat, κ * (L.size : Rat) = (zN L L.size : Rat) := ⟨(zN L L.size : Rat) / (L.size : Rat), Rat.div_mul_cancel (by have := Rat.natCast_pos.2 h0; grind)⟩
  have κ1 : κ ≤ 1073741824 := by
    refine le_of_mul (c := (L.size : Rat)) (Rat.natCast_pos.2 h0) ?_
    rw [hκ]
    have := Rat.natCast_le_natCast.2 top
    rw [Rat.natCast_mul] at this
    exact this
  have b : (1073741824 : Rat) ≤ pw 990 := by
    have e : (1073741824 : Rat) = pw ((30 : Nat) : Int) := by decide +kernel
    rw [e]; exact pw_mono (by omega)
  obtain ⟨fr, _, nn⟩ := quo_near fs fc s0 p0 hr (κ := κ) (B := 1073741824) (by rw [vc, vs']; exact hκ) κ1 b
  refine ⟨r, ?_, fr, lr, nn, ⟨s, _, fs, fc, vs', vc, hr⟩, top, h0, hb⟩
  unfold meanD sumD
  rw [hs, show ab (wholeF L.size) = some (floatOfInt .f64 (L.size : Int)) from Fnt.ab fc]
  exact hr
theorem MI.le {L R : Array Nat} {r q : Nat} (h : MI L r) (k : MI R q) (hle : zN L L.size * R.size ≤ zN R R.size * L.size) : val r ≤ val q := by
  obtain ⟨s, c, fs, fc, vs, vc, hr⟩ := h.quo
  obtain ⟨s', c', fs', fc', vs', vc', hq⟩ := k.quo
  have t1 := h.top
  have t2 := k.top
  have z1 := h.size
  have z2 := k.size
  exact quo_two fs fc fs' fc' vs vc vs' vc' (by omega) z1.1 (by omega) (by omega) z2.1 (by omega) hle hr hq
/-- A level that is a float. -/
structure LI (o : Option Nat) (u : Nat) : Prop where
  eq : o = some u
  fin : Fnt u
  lt : u < 2 ^ 64
  nn : 0 ≤ val u
theorem MI.li {L : Array Nat} {r : Nat} (h : MI L r) : LI (meanD L) r := ⟨h.eq, h.fin, h.lt, h.nn⟩
theorem whole_app {L R : Array Nat} (hL : ∀ i, i < L.size → Wn L[i]!) (hR : ∀ i, i < R.size → Wn R[i]!) : ∀ i, i < (L ++ R).size → Wn (L ++ R)[i]! := by
  intro i hi
  have hi' : i < L.size + R.size := by simpa using hi
  rw [getElem!_pos _ i hi, Array.getElem_append]
  split
  · rename_i h; have := hL i h; rwa [getElem!_pos L i h] at this
  · rename_i h; have := hR (i - L.size) (by omega); rwa [getElem!_pos R _ (by omega)] at this
theorem lev_chain {L R : Array Nat} {nth : Nat} (hL : ∀ i, i < L.size → Wn L[i]!) (hR : ∀ i, i < R.size → Wn R[i]!) (zl : L.size ≤ 20000) (zr : R.size ≤ 20000) (h0 : 0 < L.size + R.size) :
    ∃ u v w, LI (levD 1 nth L R) u ∧ LI (levD 0 nth L R) v ∧ LI (levD 2 nth L R) w ∧ val w ≤ val v ∧ val v ≤ val u := by
  have e0 : levD 0 nth L R = meanD (L ++ R) := by unfold levD; rw [if_neg (by omega), if_neg (by decide), if_neg (by decide)]
  have e1 : levD 1 nth L R = oneD 1 L R := by unfold levD; rw [if_neg (by omega), if_neg (by decide), if_pos (Or.inl rfl)]
  have e2 : levD 2 nth L R = oneD 2 L R := by unfold levD; rw [if_neg (by omega), if_neg (by decide), if_pos (Or.inr rfl)]
  rw [e0, e1, e2]
  rcases Nat.eq_zero_or_pos L.size with g | g
  · have : L = #[] := Array.eq_empty_of_size_eq_zero g
    subst this
    obtain ⟨r, hr⟩ := mean_is hR (by omega) (by omega)
    have o : ∀ y, oneD y #[] R = meanD R := fun y => by unfold oneD; rw [if_pos (by simp)]
    rw [o, o, show #[] ++ R = R by simp]
    exact ⟨r, r, r, hr.li, hr.li, hr.li, Rat.le_refl, Rat.le_refl⟩
  rcases Nat.eq_zero_or_pos R.size with k | k
  · have : R = #[] := Array.eq_empty_of_size_eq_zero k
    subst this
    obtain ⟨r, hr⟩ := mean_is hL (by omega) (by omega)
    have o : ∀ y, oneD y L #[] = meanD L := fun y => by unfold oneD; rw [if_neg (by omega), if_pos (by simp)]
    rw [o, o, show L ++ #[] = L by simp]
    exact ⟨r, r, r, hr.li, hr.li, hr.li, Rat.le_refl, Rat.le_refl⟩
  obtain ⟨r, hr⟩ := mean_is hL g (by omega)
  obtain ⟨q, hq⟩ := mean_is hR k (by omega)
  obtain ⟨a, ha⟩ := mean_is (whole_app hL hR) (by simp; omega) (by simp; omega)
  have za : zN (L ++ R) (L ++ R).size = zN L L.size + zN R R.size := by rw [Array.size_append]; exact zN_app L R _ (Nat.le_refl _)
  have o : ∀ y, oneD y L R = pickD y (some q) (some r) := fun y => by unfold oneD; rw [if_neg (by omega), if_neg (by omega), hr.eq, hq.eq]
  rw [o, o]
  have gg : gtF (some q) (some r) = decide (val r < val q) := by rw [← Fnt.ab hq.fin, ← Fnt.ab hr.fin]; exact gtF_val hq.fin hr.fin
  have ll : ltF (some q) (some r) = decide (val q < val r) := by rw [← Fnt.ab hq.fin, ← Fnt.ab hr.fin]; exact ltF_val hq.fin hr.fin
  have hrl : LI (some r) r := ⟨rfl, hr.fin, hr.lt, hr.nn⟩
  have hql : LI (some q) q := ⟨rfl, hq.fin, hq.lt, hq.nn⟩
  have sz : (L ++ R).size = L.size + R.size := by simp
  rcases Nat.le_total (zN L L.size * R.size) (zN R R.size * L.size) with w | w
  · have b1 : val r ≤ val a := hr.le ha (by rw [za, sz, Nat.mul_add, Nat.add_mul]; omega)
    have b2 : val a ≤ val q := ha.le hq (by rw [za, sz, Nat.mul_add, Nat.add_mul]; omega)
    have p1 : ∃ u, LI (pickD 1 (some q) (some r)) u ∧ val q ≤ val u := by
      unfold pickD
      rw [gg, ll]
      rcases rat_lt_or_le (val r) (val q) with c | c
      · rw [if_pos (Or.inl ⟨rfl, decide_eq_true c⟩)]; exact ⟨q, hql, Rat.le_refl⟩
      · rw [if_neg (by rintro (⟨_, c2⟩ | ⟨c1, _⟩); · exact absurd (of_decide_eq_true c2) (by grind)
                       · cases c1)]; exact ⟨r, hrl, c⟩
    have p2 : ∃ u, LI (pickD 2 (some q) (some r)) u ∧ val u ≤ val r := by
      unfold pickD
      rw [gg, ll]
      rcases rat_lt_or_le (val q) (val r) with c | c
      · rw [if_pos (Or.inr ⟨rfl, decide_eq_true c⟩)]; exact ⟨q, hql, Rat.le_of_lt c⟩
      · rw [if_neg (by rintro (⟨c1, _⟩ | ⟨_, c2⟩); · cases c1
                       · exact absurd (of_decide_eq_true c2) (by grind))]; exact ⟨r, hrl, Rat.le_refl⟩
    obtain ⟨u, hu, u2⟩ := p1
    obtain ⟨v, hv, v2⟩ := p2
    exact ⟨u, a, v, hu, ha.li, hv, Rat.le_trans v2 b1, Rat.le_trans b2 u2⟩
  · have b1 : val a ≤ val r := ha.le hr (by rw [za, sz, Nat.mul_add, Nat.add_mul]; omega)
    have b2 : val q ≤ val a := hq.le ha (by rw [za, sz, Nat.mul_add, Nat.add_mul]; omega)
    have p1 : ∃ u, LI (pickD 1 (some q) (some r)) u ∧ val r ≤ val u := by
      unfold pickD
      rw [gg, ll]
      rcases rat_lt_or_le (val r) (val q) with c | c
      · rw [if_pos (Or.inl ⟨rfl, decide_eq_true c⟩)]; exact ⟨q, hql, Rat.le_of_lt c⟩
      · rw [if_neg (by rintro (⟨_, c2⟩ | ⟨c1, _⟩); · exact absurd (of_decide_eq_true c2) (by grind)
                       · cases c1)]; exact ⟨r, hrl, Rat.le_refl⟩
    have p2 : ∃ u, LI (pickD 2 (some q) (some r)) u ∧ val u ≤ val q := by
      unfold pickD
      rw [gg, ll]
      rcases rat_lt_or_le (val q) (val r) with c | c
      · rw [if_pos (Or.inr ⟨rfl, decide_eq_true c⟩)]; exact ⟨q, hql, Rat.le_refl⟩
      · rw [if_neg (by rintro (⟨c1, _⟩ | ⟨_, c2⟩); · cases c1
                       · exact absurd (of_decide_eq_true c2) (by grind))]; exact ⟨r, hrl, c⟩
    obtain ⟨u, hu, u2⟩ := p1
    obtain ⟨v, hv, v2⟩ := p2
    exact ⟨u, a, v, hu, ha.li, hv, Rat.le_trans v2 b2, Rat.le_trans b1 u2⟩
end Go.Proofs.Ytfggdaebahdnfaa
