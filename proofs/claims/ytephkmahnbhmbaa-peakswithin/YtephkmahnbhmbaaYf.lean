/- A middle lies among its spots. No program but for centF. -/
import Derived.Test.YtephkmahnbhmbaaYd
import Derived.Test.YtephkmahnbhmbaaVi
namespace Go.Proofs.Ytephkmahnbhmbaa
open Go.Fl Go.Sort Ieee

theorem sub_some {x y : Nat} (hx : Fnt x) (hy : Fnt y) : ∃ r, bin .sub (some x) (some y) = some r := bin_some_sub hx hy
theorem clI_same {x : Int} (h0 : -1073741824 ≤ x) (h1 : x ≤ 1073741824) : clI x = x := by unfold clI; omega
theorem near_in {d n : Int} (hn : 1 ≤ n) (h0 : -n < d) (h1 : d < n) : -(n / 2) ≤ nearF d n ∧ nearF d n ≤ n / 2 := by
  unfold nearF
  split
  · omega
  · split <;> omega
theorem near_same {d n : Int} (h0 : -n < 2 * d) (h1 : 2 * d ≤ n) : nearF d n = d := by
  unfold nearF
  rw [if_neg (by omega), if_neg (by omega)]
/-- What is asked of the spots. -/
structure WS (d : Array Spt) (N n : Nat) : Prop where
  bin : ∀ i, i < N → 0 ≤ (d[i]!).1 ∧ (d[i]!).1 < n
  gate : ∀ i, i < N → 0 ≤ (d[i]!).2.1 ∧ (d[i]!).2.1 ≤ 999
  pow : ∀ i, i < N → Fnt (d[i]!).2.2 ∧ 0 ≤ val (d[i]!).2.2 ∧ val (d[i]!).2.2 ≤ pw 900
theorem bigN {q : Rat} (h : q ≤ 300000) : q ≤ pw 1000 := by
  have h9 : (300000 : Rat) ≤ ((2 ^ 19 : Nat) : Rat) := by decide +kernel
  rw [← pw_nat] at h9
  exact Rat.le_trans h (Rat.le_trans h9 (pw_mono (by omega)))
theorem ep_half : ep ≤ 1 / 2 := by rw [ep_is]; decide +kernel
theorem xl_ok {A C B X n : Rat} (q1 : A * 2 ≤ C) (q3 : C ≤ 3 * n - 2) (q2 : -n ≤ B * 2) (x1 : X ≤ A + ep) (x2 : B - ep ≤ X) : X ≤ 3 / 2 * n - 1 + ep ∧ -(n / 2) - ep ≤ X := by
  constructor <;> grind
/-- A middle brought back among the bins. -/
theorem with_ok {X n : Nat} {low high : Int} {K : Prop} (fX : Fnt X) (n1 : 1 ≤ n) (n2 : n ≤ 65536) (hx1 : val X ≤ 3 / 2 * (n : Rat) - 1 + ep) (hx2 : -((n : Rat) / 2) - ep ≤ val X) (two : K → (low : Rat) - ep ≤ val X ∧ val X ≤ (high : Rat) + ep) (b0 : 0 ≤ low) (b1 : high ≤ (n : Int) - 1) :
    ∃ B, withF (some X) n = some B ∧ Fnt B ∧ 0 ≤ val B ∧ val B ≤ (n : Rat) ∧ (K → ((low : Rat) - ep ≤ val B ∧ val B ≤ (high : Rat) + ep) ∨ (low = 0 ∧ (n : Rat) - ep ≤ val B)) := by
  obtain ⟨fn, vn⟩ := int_valZ (K := (n : Int)) (by omega)
  have vn' : val (floatOfInt .f64 (n : Int)) = (n : Rat) := vn
  have nr1 : (1 : Rat) ≤ (n : Rat) := Rat.natCast_le_natCast.2 n1
  have nr2 : (n : Rat) ≤ 65536 := Rat.natCast_le_natCast.2 n2
  have p0 := ep0
  have p1 := ep_half
  have f0 : Fnt 0 := by unfold Fnt; decide
  have aX : ab X = some X := Fnt.ab fX
  have an : ab (floatOfInt .f64 (n : Int)) = some (floatOfInt .f64 (n : Int)) := Fnt.ab fn
  have hl : (high : Rat) ≤ (n : Rat) - 1 := by
    have : (high : Rat) ≤ (((n : Int) - 1 : Int) : Rat) := Rat.intCast_le_intCast.2 b1
    rw [Rat.intCast_sub] at this
    exact this
  have c0 : (0 : Rat) ≤ (low : Rat) := Rat.intCast_le_intCast.2 b0
  unfold withF
  rw [← aX, ltF_val fX f0, gtF_val fX fn, eqF_val fX fn, an, val0, vn']
  rcases rat_lt_or_le (val X) 0 with k | k
  · rw [if_pos ⟨by omega, by simpa using k⟩]
    obtain ⟨B, hB⟩ := bin_some_add fX fn
    have b1' : val X + val (floatOfInt .f64 (n : Int)) ≤ 300000 := by rw [vn']; grind
    have b2' : -300000 ≤ val X + val (floatOfInt .f64 (n : Int)) := by rw [vn']; grind
    have m1 := bigN b1'
    have m2 : -pw 1000 ≤ val X + val (floatOfInt .f64 (n : Int)) := by have := bigN (show (300000 : Rat) ≤ 300000 from Rat.le_refl); grind
    obtain ⟨fB, _⟩ := add_near fX fn hB b1' b2' (bigN Rat.le_refl)
    obtain ⟨z, fz, vz⟩ := small_float (K := (n : Int) * 4194304 - 1) (by omega)
    rw [ep_unit'] at vz
    have vz' : val z = (n : Rat) - ep := vz
    refine ⟨B, by rw [aX]; exact hB, fB, ?_, ?_, fun hK => ?_⟩
    · rw [← val0]
      exact (add_mono fX fn hB m1 m2 (z := 0)).2 (by rw [val0, vn']; grind)
    · rw [← vn']
      exact (add_mono fX fn hB m1 m2 (z := floatOfInt .f64 (n : Int))).1 (by grind)
    · obtain ⟨t1, t2⟩ := two hK
      right
      have hlow : low = 0 := by
        rcases Int.lt_or_le 0 low with q | q
        · exfalso
          have : (1 : Rat) ≤ (low : Rat) := Rat.intCast_le_intCast.2 (show (1 : Int) ≤ low by omega)
          grind
        · omega
      refine ⟨hlow, ?_⟩
      rw [← vz']
      refine (add_mono fX fn hB m1 m2 (z := z)).2 ?_
      rw [vz', vn']
      grind
  · rw [if_neg (by
      rintro ⟨_, h⟩
      simp at h
      grind)]
    rcases rat_lt_or_le (val X) (n : Rat) with k2 | k2
    · rw [if_neg (by
        rintro ⟨_, h⟩
        simp at h
        grind)]
      refine ⟨X, aX, fX, k, by grind, fun hK => Or.inl (two hK)⟩
    · rw [if_pos ⟨by omega, by
        simp
        rcases rat_lt_or_le (n : Rat) (val X) with k3 | k3
        · exact Or.inl k3
        · right; grind⟩]
      obtain ⟨B, hB⟩ := bin_some_sub fX fn
      have b1' : val X - val (floatOfInt .f64 (n : Int)) ≤ 300000 := by rw [vn']; grind
      have b2' : -300000 ≤ val X - val (floatOfInt .f64 (n : Int)) := by rw [vn']; grind
      have m1 := bigN b1'
      have m2 : -pw 1000 ≤ val X - val (floatOfInt .f64 (n : Int)) := by have := bigN (show (300000 : Rat) ≤ 300000 from Rat.le_refl); grind
      obtain ⟨fB, _⟩ := sub_near fX fn hB b1' b2' (bigN Rat.le_refl)
      refine ⟨B, by rw [aX]; exact hB, fB, ?_, ?_, fun hK => ?_⟩
      · rw [← val0]
        exact (sub_mono fX fn hB m1 m2 (z := 0)).2 (by rw [val0, vn']; grind)
      · rw [← vn']
        exact (sub_mono fX fn hB m1 m2 (z := floatOfInt .f64 (n : Int))).1 (by rw [vn']; grind)
      · obtain ⟨t1, t2⟩ := two hK
        exfalso
        grind
set_option maxHeartbeats 1000000 in
theorem within_ok {d : Array Spt} {N n : Nat} {low high left right : Int} (h1 : 1 ≤ N) (hN : N ≤ 500) (n1 : 1 ≤ n) (n2 : n ≤ 65536) (hW : WS d N n) (hs : ∃ i, i < N ∧ 0 < val (d[i]!).2.2) (hb : ∀ i, i < N → low ≤ (d[i]!).1 ∧ (d[i]!).1 ≤ high) (hg : ∀ i, i < N → left ≤ (d[i]!).2.1 ∧ (d[i]!).2.1 ≤ right) (b0 : 0 ≤ low) (b1 : high < n) (g0 : 0 ≤ left) (g1 : right ≤ 999) :
    ∃ B Y S, centF d N n = (some B, some Y, some S) ∧ Fnt B ∧ Fnt Y ∧ val Y ≤ (right : Rat) + ep ∧ (left : Rat) - ep ≤ val Y ∧ 0 ≤ val B ∧ val B ≤ (n : Rat) ∧ ((high - low) * 3 ≤ n → ((low : Rat) - ep ≤ val B ∧ val B ≤ (high : Rat) + ep) ∨ (low = 0 ∧ (n : Rat) - ep ≤ val B)) := by
  obtain ⟨T, hT⟩ : ∃ T, topF d (N - 1) = T := ⟨_, rfl⟩
  have hTN : T < N := by have := topF_le d (N - 1); omega
  obtain ⟨tb, htb⟩ : ∃ t, (d[T]!).1 = t := ⟨_, rfl⟩
  obtain ⟨tg, htg⟩ : ∃ t, (d[T]!).2.1 = t := ⟨_, rfl⟩
  have tB := hW.bin T hTN
  have tG := hW.gate T hTN
  have tb1 := hb T hTN
  have tg1 := hg T hTN
  rw [htb] at tB tb1
  rw [htg] at tG tg1
  have ec : centF d N n = centT d N n tb tg := by
    unfold centF
    rw [if_neg (by omega), hT, htb, htg, clI_same (by omega) (by omega), clI_same (by omega) (by omega)]
    congr 1
    omega
  -- the gates
  obtain ⟨S, E, Q, Y, sY, S0, hQ, hY, fY, y1, y2⟩ := mid_ok (P := fun i => (d[i]!).2.2) (ev := fun i => clI (d[i]!).2.1 - tg) (lo := left - tg) (hi := right - tg) (t := tg) h1 hN hW.pow hs (fun i hi => by
    have a1 := hg i hi
    have a2 := hW.gate i hi
    rw [clI_same (by omega) (by omega)]
    omega) (by omega) (by omega) (by omega) (by omega) (by omega) (by omega)
  -- the bins, round
  obtain ⟨S2, D, R, X, sX, S20, hR, hX, fX, x1, x2⟩ := mid_ok (P := fun i => (d[i]!).2.2) (ev := fun i => nearF (clI (d[i]!).1 - tb) n) (lo := -((n : Int) / 2)) (hi := (n : Int) / 2) (t := tb) h1 hN hW.pow hs (fun i hi => by
    have a2 := hW.bin i hi
    rw [clI_same (by omega) (by omega)]
    exact near_in (by omega) (by omega) (by omega)) (by omega) (by omega) (by omega) (by omega) (by omega) (by omega)
  have eS : S2 = S := Option.some.inj (sX.s.symm.trans sY.s)
  subst eS
  have hpw : powN d N = some S2 := sY.s
  have hbin : binSum d tb n N = some D := sX.e
  have hgate : gateSum d tg N = some E := sY.e
  have hpos : posB (powN d N) = true := by
    rw [hpw, ← Fnt.ab sY.fs, posB_fin, fin_of sY.fs, gtF_val sY.fs (by unfold Fnt; decide), val0]
    simp only [Bool.true_and, decide_eq_true_eq]
    exact S0
  have e2 : centT d N n tb tg = (withF (some X) n, some Y, some S2) := by
    rw [cent_yes hpos, hpw, hbin, hgate, hQ, hR, hX, hY]
  have ey1 : ((tg + (right - tg) : Int) : Rat) = (right : Rat) := congrArg (fun z : Int => (z : Rat)) (by omega)
  have ey2 : ((tg + (left - tg) : Int) : Rat) = (left : Rat) := congrArg (fun z : Int => (z : Rat)) (by omega)
  rw [ey1] at y1
  rw [ey2] at y2
  have xl : val X ≤ 3 / 2 * (n : Rat) - 1 + ep ∧ -((n : Rat) / 2) - ep ≤ val X := by
    have q1 : ((tb + (n : Int) / 2 : Int) : Rat) * 2 ≤ ((2 * tb + n : Int) : Rat) := by
      have : (((tb + (n : Int) / 2) * 2 : Int) : Rat) ≤ ((2 * tb + n : Int) : Rat) := Rat.intCast_le_intCast.2 (by omega)
      rw [Rat.intCast_mul] at this
      exact this
    have q2 : ((-(n : Int) : Int) : Rat) ≤ ((tb + -((n : Int) / 2) : Int) : Rat) * 2 := by
      have : ((-(n : Int) : Int) : Rat) ≤ (((tb + -((n : Int) / 2)) * 2 : Int) : Rat) := Rat.intCast_le_intCast.2 (by omega)
      rw [Rat.intCast_mul] at this
      exact this
    have q3 : ((2 * tb + n : Int) : Rat) ≤ ((3 * (n : Int) - 2 : Int) : Rat) := Rat.intCast_le_intCast.2 (by omega)
    have q4 : ((3 * (n : Int) - 2 : Int) : Rat) = 3 * (n : Rat) - 2 := by
      rw [Rat.intCast_sub, Rat.intCast_mul]; rfl
    have q5 : ((-(n : Int) : Int) : Rat) = -(n : Rat) := by rw [Rat.intCast_neg]; rfl
    rw [q4] at q3
    rw [q5] at q2
    exact xl_ok q1 q3 q2 x1 x2
  have two : (high - low) * 3 ≤ n → (low : Rat) - ep ≤ val X ∧ val X ≤ (high : Rat) + ep := by
    intro hK
    obtain ⟨S3, D3, R3, X3, sX3, _, hR3, hX3, _, w1, w2⟩ := mid_ok (P := fun i => (d[i]!).2.2) (ev := fun i => nearF (clI (d[i]!).1 - tb) n) (lo := low - tb) (hi := high - tb) (t := tb) h1 hN hW.pow hs (fun i hi => by
      have a1 := hb i hi
      have a2 := hW.bin i hi
      show low - tb ≤ nearF (clI (d[i]!).1 - tb) n ∧ nearF (clI (d[i]!).1 - tb) n ≤ high - tb
      rw [clI_same (by omega) (by omega), near_same (by omega) (by omega)]
      omega) (by omega) (by omega) (by omega) (by omega) (by omega) (by omega)
    have eS3 : S3 = S2 := Option.some.inj (sX3.s.symm.trans sY.s)
    have eD3 : D3 = D := Option.some.inj (sX3.e.symm.trans sX.e)
    rw [eS3, eD3] at hR3
    have eR : R3 = R := Option.some.inj (hR3.symm.trans hR)
    rw [eR] at hX3
    have eX : X3 = X := Option.some.inj (hX3.symm.trans hX)
    rw [eX] at w1 w2
    have ew1 : ((tb + (high - tb) : Int) : Rat) = (high : Rat) := congrArg (fun z : Int => (z : Rat)) (by omega)
    have ew2 : ((tb + (low - tb) : Int) : Rat) = (low : Rat) := congrArg (fun z : Int => (z : Rat)) (by omega)
    rw [ew1] at w1
    rw [ew2] at w2
    exact ⟨w2, w1⟩
  obtain ⟨B, hB, fB, v1, v2, v3⟩ := with_ok fX n1 n2 xl.1 xl.2 two b0 (by omega)
  exact ⟨B, Y, S2, by rw [ec, e2, hB], fB, fY, y1, y2, v1, v2, v3⟩
end Go.Proofs.Ytephkmahnbhmbaa
