/- Chirps, squares, steps and codes are lists of good points. -/
import Derived.Test.YtgalgnopjcpocaaWb
import Derived.Test.YtgalgnopjcpocaaH
namespace Go.Proofs.Ytgalgnopjcpocaa
open Go.ChangeShapes Go.WideShapes Go.ChangeAt Go.RowKit Go.Fl Ieee

def GoodL (L : List (Option Nat × Option Nat)) : Prop := ∀ p ∈ L, ∃ c s, p = (some c, some s) ∧ Good c s
theorem goodL_nil : GoodL [] := fun p hp => by simp at hp
theorem goodL_map {N : Nat} {F : Nat → Option Nat × Option Nat} (h : ∀ k, k < N → ∃ c s, F k = (some c, some s) ∧ Good c s) : GoodL ((List.range N).map F) := by
  intro p hp
  obtain ⟨k, hk, rfl⟩ := List.mem_map.1 hp
  exact h k (List.mem_range.1 hk)
theorem goodL_row {d : List (Nat × Nat)} {L : List (Option Nat × Option Nat)} (h : d.map ab2 = L) (hg : GoodL L) : ∀ j, j < d.length → Good d[j]!.1 d[j]!.2 := by
  intro j hj
  have hm : ab2 d[j]! ∈ L := by
    rw [← h, getElem!_pos d j hj]
    exact List.mem_map.2 ⟨_, List.getElem_mem hj, rfl⟩
  obtain ⟨c, s, he, hgood⟩ := hg _ hm
  have e1 : d[j]!.1 = c := of_ab (congrArg Prod.fst he)
  have e2 : d[j]!.2 = s := of_ab (congrArg Prod.snd he)
  rw [e1, e2]; exact hgood
theorem chirp_x {N k x : Nat} (h1 : 1 ≤ N) (hN : N ≤ 2000) (hk : k < N) (hx : Fnt x) (hb : val x ≤ pw 900) (hb' : -pw 900 ≤ val x) : ∃ X, chirpX N (some x) k = some X ∧ Fnt X ∧ val X ≤ pw 1000 ∧ -pw 1000 ≤ val X := by
  have hkk : k * k ≤ 4000000 := Nat.le_trans (Nat.mul_le_mul (show k ≤ 2000 by omega) (show k ≤ 2000 by omega)) (by omega)
  obtain ⟨f1, v1⟩ := int_val (K := k * k) (by omega)
  obtain ⟨f2, v2⟩ := int_val (K := 2 * N) (by omega)
  have e1 : ((k : Int) * k) = ((k * k : Nat) : Int) := (Int.natCast_mul _ _).symm
  have e2 : (2 * (N : Int)) = ((2 * N : Nat) : Int) := by omega
  unfold chirpX
  rw [e1, e2, Fnt.ab f1, Fnt.ab f2]
  have hn0 : (1 : Rat) ≤ ((2 * N : Nat) : Rat) := by
    have : ((1 : Nat) : Rat) ≤ ((2 * N : Nat) : Rat) := Rat.natCast_le_natCast.2 (by omega)
    exact this
  have hr0 : (0 : Rat) ≤ ((k * k : Nat) : Rat) := Rat.natCast_nonneg
  have hr1 : ((k * k : Nat) : Rat) ≤ 4000000 := by
    have : ((k * k : Nat) : Rat) ≤ ((4000000 : Nat) : Rat) := Rat.natCast_le_natCast.2 hkk
    exact this
  generalize hRd : ((k * k : Nat) : Rat) = R at *
  generalize hDd : ((2 * N : Nat) : Rat) = D at *
  obtain ⟨κ, hκ⟩ : ∃ κ : Rat, κ * D = R := ⟨R / D, by rw [Rat.div_mul_cancel (by grind)]⟩
  have κ1 : κ ≤ 4000000 := by
    refine le_of_mul (c := D) (by grind) ?_
    have := Rat.mul_le_mul_of_nonneg_left hn0 (show (0 : Rat) ≤ 4000000 by decide +kernel)
    grind
  have hq : ∃ q, bin .quo (some (floatOfInt .f64 ((k * k : Nat) : Int))) (some (floatOfInt .f64 ((2 * N : Nat) : Int))) = some q := by
    obtain ⟨s, a, i, ex⟩ := fin_read f1
    obtain ⟨t, b, j, ey⟩ := fin_read f2
    have vm := val_read ey
    have hb : b ≠ 0 := by
      intro h0
      subst h0
      have : dv t 0 j = 0 := by cases t <;> simp [dv, sgn]
      grind
    show ∃ q, double.div _ _ = some q
    unfold Format.div
    rw [ex, ey]
    simp only [Datum.quotient, if_neg hb, Option.map_some]
    exact ⟨_, rfl⟩
  obtain ⟨q, hq⟩ := hq
  have p22 : pw 22 = 4194304 := by decide +kernel
  obtain ⟨q1, q2, q3⟩ := quo_near f1 f2 (by rw [v1]; exact hr0) (by rw [v2]; grind) hq (κ := κ) (B := 4000000) (by rw [v1, v2]; exact hκ) κ1 (by
    have := pw_mono (show (22 : Int) ≤ 990 by omega)
    generalize pw 990 = W at *
    grind)
  have hη := eta_le
  have hh : h80 ≤ 1 := by decide +kernel
  have hu2 : pw (-52) ≤ 1 / 1000000000 := by decide +kernel
  have hu3 : 0 ≤ pw (-52) := Rat.le_of_lt (pw_pos _)
  have q4 : val q ≤ pw 22 := by
    obtain ⟨q21, _⟩ := q2
    generalize pw (-1075) = η at *
    generalize pw (-52) = U at *
    grind
  obtain ⟨m1, m2⟩ := mul_bd hb hb' q4 (show -pw 22 ≤ val q by have := pw_pos 22; grind)
  rw [← pw_add] at m1 m2
  have e922 : (900 : Int) + 22 = 922 := by omega
  rw [e922] at m1 m2
  rw [hq]
  obtain ⟨X, hX⟩ := bin_some_mul hx q1
  obtain ⟨X1, X2⟩ := mul_near hx q1 hX m1 m2 (pw_mono (by omega))
  refine ⟨X, hX, X1, ?_⟩
  have a1 := pw_mono (show (923 : Int) ≤ 1000 by omega)
  have a2 := pw_half 923
  rw [show (923 : Int) - 1 = 922 by omega] at a2
  have a3 := pw_pos 922
  have a4 : pw (-53) ≤ 1 / 1000000000 := by decide +kernel
  have a5 := Rat.mul_le_mul_of_nonneg_right a4 (Rat.le_of_lt a3)
  have a6 : (1 : Rat) * 4 ≤ pw 922 := by
    have := pw_mono (show (2 : Int) ≤ 922 by omega)
    have b : pw 2 = 4 := by decide +kernel
    rw [b] at this
    grind
  obtain ⟨X21, X22⟩ := X2
  generalize pw (-53) * pw 922 = UU at *
  generalize pw (-1075) = η at *
  generalize pw 922 = W at *
  generalize pw 923 = W2 at *
  generalize pw 1000 = W3 at *
  constructor <;> grind
theorem chirp_goodL {n : Int} {x : Nat} (hn : n ≤ 2000) (h : (ltF (ab (Go.Fl.abs x)) (ab 8660422083433463808) || eqF (ab (Go.Fl.abs x)) (ab 8660422083433463808)) = true) : GoodL (chirpL n (ab x)) := by
  unfold chirpL
  split
  · exact goodL_nil
  · split
    · exact goodL_nil
    · split
      · rename_i h1 _ hf
        have fx := fin_iff hf
        have fb : Fnt 8660422083433463808 ∧ val 8660422083433463808 = pw 900 := ⟨by unfold Fnt; decide, by decide +kernel⟩
        rw [ltF_val (fin_abs fx) fb.1, eqF_val (fin_abs fx) fb.1, fb.2, vabs] at h
        have hle : absR (val x) ≤ pw 900 := by
          simp only [Bool.or_eq_true, decide_eq_true_eq] at h
          rcases h with h | h
          · grind
          · rw [h]; exact Rat.le_refl
        have ha := absR_le (val x)
        refine goodL_map fun k hk => ?_
        obtain ⟨X, hX, fX, b1, b2⟩ := chirp_x (N := n.toNat) (k := k) (x := x) (by omega) (by omega) hk fx (by grind) (by grind)
        obtain ⟨c, s, hc, hs, hg⟩ := turn_good fX b1 b2
        refine ⟨c, s, ?_, hg⟩
        unfold chirpF
        rw [Fnt.ab fx, hX, hc, hs]
      · exact goodL_nil
theorem frank_goodL (m : Int) : GoodL (frankL m) := by
  unfold frankL
  split
  · exact goodL_nil
  · split
    · exact goodL_nil
    · refine goodL_map fun k hk => ?_
      unfold frankF
      exact unit_good (by omega) (by omega)
theorem steps_goodL (o : List Int) (n : Int) (hn : n ≤ 2000) : GoodL (stepsL o n) := by
  unfold stepsL
  split
  · exact goodL_nil
  · split
    · exact goodL_nil
    · refine goodL_map fun k hk => ?_
      unfold stepsF
      exact unit_good (by omega) (by omega)
theorem good_plus : Good 4607182418800017408 0 := ⟨fone.1, fzero.1, by unfold Near; decide +kernel⟩
theorem good_minus : Good 13830554455654793216 0 := ⟨fmone.1, fzero.1, by unfold Near; decide +kernel⟩
theorem barker_goodL (n : Int) : GoodL (barkerL n) := by
  unfold barkerL
  refine goodL_map fun k hk => ?_
  unfold signF
  split
  · exact ⟨_, _, rfl, good_minus⟩
  · exact ⟨_, _, rfl, good_plus⟩
theorem goodL_ite {p : Prop} [Decidable p] {a b : List (Option Nat × Option Nat)} (ha : GoodL a) (hb : GoodL b) : GoodL (if p then a else b) := by
  split
  · exact ha
  · exact hb
theorem code_goodL (n : Int) : GoodL (codeL n) := by
  have c8 : GoodL (chirpL 32 (ab 4620693217682128896)) := chirp_goodL (by omega) (by decide +kernel)
  have c16 : GoodL (chirpL 64 (ab 4625196817309499392)) := chirp_goodL (by omega) (by decide +kernel)
  have s12 : GoodL (stepsL order12 16) := steps_goodL _ _ (by omega)
  have one : GoodL [(some 4607182418800017408, some 0)] := fun p hp => by
    simp at hp
    subst hp
    exact ⟨_, _, rfl, good_plus⟩
  unfold codeL
  repeat' (with_reducible refine goodL_ite ?_ ?_)
  all_goals first
    | with_reducible exact barker_goodL _
    | with_reducible exact frank_goodL _
    | with_reducible exact c8
    | with_reducible exact c16
    | with_reducible exact s12
    | with_reducible exact one
    | with_reducible exact goodL_nil
end Go.Proofs.Ytgalgnopjcpocaa
