/- The state's own condition; the greatest of six floats. -/
import Derived.Test.YtdolfkgnehiecaaHf
namespace Go.Proofs.Ytdolfkgnehiecaa
open Go.Fl Ieee Go.RowKit

theorem near1_fnt : Fnt 4607173321528770120 := by unfold Fnt; decide
theorem near1_val : 1 / 2 ≤ val 4607173321528770120 ∧ val 4607173321528770120 ≤ 999 / 1000 := by decide +kernel
theorem big_fnt : Fnt 5958262307011166208 := by unfold Fnt; decide
theorem big_val : val 5958262307011166208 = pw 300 := by decide +kernel
theorem le_num {x y : Nat} (h : ltF (ab x) (ab y) = true ∨ eqF (ab x) (ab y) = true) : isN x = false ∧ isN y = false ∧ lin x ≤ lin y := by
  cases hx : isN x with
  | true => rw [ab_none hx] at h; simp [ltF, eqF, ord] at h
  | false =>
    cases hy : isN y with
    | true => rw [ab_none hy] at h; rw [ab_some hx] at h; simp [ltF, eqF, ord] at h
    | false =>
      rw [ltF_lin hx hy, eqF_lin hx hy] at h
      refine ⟨rfl, rfl, ?_⟩
      rcases h with h | h
      · have := of_decide_eq_true h; omega
      · have := of_decide_eq_true h; omega
theorem l_c1 {r z AC K : Rat} (hK : K ≤ 999 / 1000) (hK0 : 1 / 2 ≤ K) (h0 : 0 ≤ AC) (hr : r ≤ AC + U * AC) (hr0 : 0 ≤ r) (hz : z ≤ K * r + U * (K * r)) : z ≤ 9995 / 10000 * AC := by
  have a := Rat.mul_nonneg (show 0 ≤ 999 / 1000 - K by grind) hr0
  have b := Rat.mul_nonneg (show 0 ≤ K by grind) hr0
  grind
theorem l_c2 {l z BB AC η : Rat} (h : BB ≤ l + (U / 2 * BB + η)) (hl : l ≤ z) (hz : z ≤ 9995 / 10000 * AC) (hη : η ≤ U * AC) (h0 : 0 ≤ AC) : BB ≤ AC := by grind
theorem cond_B {a b c l r z : Nat} (ba : BN a 100) (a1 : pw (-100) ≤ val a) (bc : BN c 100) (c1 : pw (-100) ≤ val c) (hl : ab l = bin .mul (ab b) (ab b)) (hr : ab r = bin .mul (ab a) (ab c)) (hz : ab z = bin .mul (ab 4607173321528770120) (ab r)) (hle : ltF (ab l) (ab z) = true ∨ eqF (ab l) (ab z) = true) : Fnt b ∧ val b * val b ≤ val a * val c := by
  obtain ⟨nl, nz, hlin⟩ := le_num hle
  obtain ⟨r', er, br, o1, z1, p1⟩ := mulC ba bc (Or.inr a1) c1 (by omega) (by omega) (by omega)
  rw [Fnt.ab ba.f, Fnt.ab bc.f, er] at hr
  obtain rfl := of_ab hr
  have bK : BN 4607173321528770120 0 := ⟨near1_fnt, by rw [show pw 0 = 1 by decide +kernel]; have := near1_val.2; grind, by rw [show pw 0 = 1 by decide +kernel]; have := near1_val.1; grind⟩
  have lK : pw (-1) ≤ val 4607173321528770120 := by decide +kernel
  have zr : pw (-201) ≤ val r := by
    rcases z1 with h | h
    · exfalso
      have h2 := prod_low a1 c1
      have h3 := pw_pos (-100 + -100)
      obtain ⟨g1, g2⟩ := o1
      grind
    · exact h
  obtain ⟨z', ez, bz, o2, z2, p2⟩ := mulC bK br (Or.inr lK) zr (by omega) (by omega) (by omega)
  rw [Fnt.ab near1_fnt, Fnt.ab br.f, ez] at hz
  obtain rfl := of_ab hz
  have hAC := prod_low a1 c1
  have pAC := pw_pos (-100 + -100)
  have AC0 : 0 ≤ val a * val c := by grind
  have hz2 := l_c1 near1_val.2 near1_val.1 AC0 o1.1 p1 o2.1
  have fb : Fnt b := by
    refine Classical.byContradiction fun hf => ?_
    cases hb : isN b with
    | true => rw [ab_none hb] at hl; rw [ab_some nl] at hl; simp [bin] at hl
    | false =>
      obtain ⟨s, hs⟩ := inf_of hb hf
      have hm : bin .mul (some b) (some b) = some (double.word false 0x7ff0000000000000) := by
        show double.mul b b = _
        unfold Format.mul
        rw [hs]
        cases s <;> rfl
      rw [ab_some hb, hm] at hl
      have := of_ab hl
      rw [this, lin_inf] at hlin
      have := (lin_fnt bz.f).1
      simp at hlin
      omega
  refine ⟨fb, ?_⟩
  rw [Fnt.ab fb, ab_some nl] at hl
  have e := hl.symm
  have hsq := sq_nonneg (val b)
  have hη : eta ≤ U * (val a * val c) := by
    have e2 : eta ≤ U * pw (-100 + -100) := by
      rw [U_is, ← pw_add]
      exact pw_mono (by omega)
    have e3 := Rat.mul_le_mul_of_nonneg_left hAC (show (0 : Rat) ≤ U by decide +kernel)
    exact Rat.le_trans e2 e3
  rcases Rat.le_total (a := val b * val b) (b := pw 1000) with hB | hB
  · have p1000 := pw_pos 1000
    obtain ⟨fl, n⟩ := mul_near fb fb e (B := val b * val b) Rat.le_refl (by grind) hB
    rw [h53] at n
    have hv := (val_le_lin fl bz.f).2 hlin
    exact l_c2 n.2 hv hz2 hη AC0
  · exfalso
    have h9 := (mul_lin fb fb big_fnt e).2 (by rw [big_val]; exact Rat.le_trans (pw_mono (by omega)) hB)
    have h8 := (val_le_lin big_fnt bz.f).2 (by omega)
    rw [big_val] at h8
    have h7 := (prod_le ba.hi ba.lo bc.hi bc.lo).1
    rw [← pw_add] at h7
    have h6 := pw_mono (show (100 + 100 : Int) ≤ 299 by omega)
    have h5 := pw_two 299
    have h4 := pw_pos 299
    have h5' : pw 300 = 2 * pw 299 := h5
    grind
/-- The greater of two floats. -/
def mxF (x y : Nat) : Nat := match double.order x y with
  | some .lt => y
  | some .gt => x
  | some .eq => if ((FloatKind.f64).decode x).neg then y else x
  | none => x
theorem mx_or (x y : Nat) : mxF x y = x ∨ mxF x y = y := by
  unfold mxF
  split
  · exact Or.inr rfl
  · exact Or.inl rfl
  · split
    · exact Or.inr rfl
    · exact Or.inl rfl
  · exact Or.inl rfl
theorem mx_le {x y : Nat} (hx : Fnt x) (hy : Fnt y) : val x ≤ val (mxF x y) ∧ val y ≤ val (mxF x y) := by
  have h := order_lin hx.num hy.num
  rw [Int.compare_eq_ite_lt] at h
  have a := val_le_lin hx hy
  have b := val_le_lin hy hx
  unfold mxF
  rw [h]
  by_cases h1 : lin x < lin y
  · rw [if_pos h1]
    exact ⟨a.2 (by omega), Rat.le_refl⟩
  · rw [if_neg h1]
    by_cases h2 : lin y < lin x
    · rw [if_pos h2]
      exact ⟨Rat.le_refl, b.2 (by omega)⟩
    · rw [if_neg h2]
      simp only
      split
      · exact ⟨a.2 (by omega), Rat.le_refl⟩
      · exact ⟨Rat.le_refl, b.2 (by omega)⟩
theorem mx_fnt {x y : Nat} {N : Int} (hx : BN x N) (hy : BN y N) : BN (mxF x y) N := by
  rcases mx_or x y with e | e <;> rw [e] <;> assumption
theorem run_max2 {P : Program} {x y : Nat} (hx : Fnt x) (hy : Fnt y) (w : World) : (Builtin.max2 (.float .f64 x) (.float .f64 y)).run P w = .ok (.float .f64 (mxF x y)) w := by
  have h := order_lin hx.num hy.num
  have e : FloatKind.f64.format.order x y = double.order x y := rfl
  unfold Builtin.max2 mxF
  simp only [e, h]
  cases compare (lin x) (lin y) <;> rfl
theorem run_max6 {P : Program} {N : Int} {a b c d e f : Nat} (ha : BN a N) (hb : BN b N) (hc : BN c N) (hd : BN d N) (he : BN e N) (hf : BN f N) (ts : Array TypeId) (t : TypeId) (w : World) : (Builtin.max_ ts t #[.float .f64 a, .float .f64 b, .float .f64 c, .float .f64 d, .float .f64 e, .float .f64 f]).run P w = .ok (.float .f64 (mxF (mxF (mxF (mxF (mxF a b) c) d) e) f)) w := by
  have m1 := mx_fnt ha hb
  have m2 := mx_fnt m1 hc
  have m3 := mx_fnt m2 hd
  have m4 := mx_fnt m3 he
  simp [Builtin.max_, List.foldlM, run_max2 ha.f hb.f, run_max2 m1.f hc.f, run_max2 m2.f hd.f, run_max2 m3.f he.f, run_max2 m4.f hf.f]
theorem mx6 {N : Int} {a b c d e f : Nat} (ha : BN a N) (hb : BN b N) (hc : BN c N) (hd : BN d N) (he : BN e N) (hf : BN f N) : BN (mxF (mxF (mxF (mxF (mxF a b) c) d) e) f) N ∧ val a ≤ val (mxF (mxF (mxF (mxF (mxF a b) c) d) e) f) ∧ val b ≤ val (mxF (mxF (mxF (mxF (mxF a b) c) d) e) f) ∧ val c ≤ val (mxF (mxF (mxF (mxF (mxF a b) c) d) e) f) ∧ val d ≤ val (mxF (mxF (mxF (mxF (mxF a b) c) d) e) f) ∧ val e ≤ val (mxF (mxF (mxF (mxF (mxF a b) c) d) e) f) ∧ val f ≤ val (mxF (mxF (mxF (mxF (mxF a b) c) d) e) f) := by
  have m1 := mx_fnt ha hb
  have m2 := mx_fnt m1 hc
  have m3 := mx_fnt m2 hd
  have m4 := mx_fnt m3 he
  have m5 := mx_fnt m4 hf
  have l1 := mx_le ha.f hb.f
  have l2 := mx_le m1.f hc.f
  have l3 := mx_le m2.f hd.f
  have l4 := mx_le m3.f he.f
  have l5 := mx_le m4.f hf.f
  refine ⟨m5, ?_, ?_, ?_, ?_, ?_, l5.2⟩ <;> grind
end Go.Proofs.Ytdolfkgnehiecaa
