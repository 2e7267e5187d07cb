/- Between, turned about. -/
import Derived.Test.YtephkmahnbhmbabNa
import Derived.Test.YtephkmahnbhmbabSa
namespace Go.Proofs.Ytephkmahnbhmbab
open Go.Fl Ieee Go.RowKit

/-- The one is the other turned; or both are nought; or neither is a number. -/
def Tu (o p : Option Nat) : Prop := (o = none ∧ p = none) ∨ (∃ r, isN r = false ∧ o = some r ∧ p = some (Go.Fl.neg r)) ∨ ∃ r r', o = some r ∧ p = some r' ∧ Zr r ∧ Zr r'
theorem Tu.sub (a c : Nat) : Tu (bin .sub (ab a) (ab c)) (bin .sub (ab c) (ab a)) := by
  cases ha : isN a with
  | true => left; rw [ab_none ha]; exact ⟨rfl, by cases ab c <;> rfl⟩
  | false =>
    cases hc : isN c with
    | true => left; rw [ab_none hc]; exact ⟨by cases ab a <;> rfl, rfl⟩
    | false =>
      rw [ab_some ha, ab_some hc]
      rcases sub_swap ha hc with h | ⟨r, r', h1, h2, h3⟩
      · exact Or.inl h
      · rcases h3 with rfl | h3
        · exact Or.inr (Or.inl ⟨r, bin_num h1, h1, h2⟩)
        · exact Or.inr (Or.inr ⟨r, r', h1, h2, h3⟩)
theorem Tu.quo {o p : Option Nat} (h : Tu o p) (d : Option Nat) : Tu (bin .quo o d) (bin .quo p d) := by
  rcases h with ⟨rfl, rfl⟩ | ⟨r, hr, rfl, rfl⟩ | ⟨r, r', rfl, rfl, h1, h2⟩
  · left; exact ⟨by cases d <;> rfl, by cases d <;> rfl⟩
  · have := quo_neg_l (o := some r) (p := d) (fun x hx => by cases hx; exact hr)
    simp only [Option.map_some] at this
    rw [this]
    cases hq : bin .quo (some r) d with
    | none => exact Or.inl ⟨rfl, rfl⟩
    | some q => exact Or.inr (Or.inl ⟨q, bin_num hq, rfl, rfl⟩)
  · cases d with
    | none => exact Or.inl ⟨rfl, rfl⟩
    | some y =>
      rcases zero_quo h1 y with e | ⟨q, e, z⟩ <;> rcases zero_quo h2 y with e' | ⟨q', e', z'⟩
      · exact Or.inl ⟨e, e'⟩
      · exfalso
        obtain ⟨s, i, ex⟩ := h1.read
        obtain ⟨t, j, ey⟩ := h2.read
        have e1 : double.div r y = none := e
        have e2 : double.div r' y = some q' := e'
        unfold Format.div at e1 e2
        rw [ex] at e1; rw [ey] at e2
        cases hy : double.read y <;> rw [hy] at e1 e2 <;> simp [Datum.quotient] at e1 e2
        obtain ⟨d, hd, _⟩ := e2
        exact hd.1 e1
      · exfalso
        obtain ⟨s, i, ex⟩ := h1.read
        obtain ⟨t, j, ey⟩ := h2.read
        have e1 : double.div r y = some q := e
        have e2 : double.div r' y = none := e'
        unfold Format.div at e1 e2
        rw [ex] at e1; rw [ey] at e2
        cases hy : double.read y <;> rw [hy] at e1 e2 <;> simp [Datum.quotient] at e1 e2
        obtain ⟨d, hd, _⟩ := e1
        exact hd.1 e2
      · exact Or.inr (Or.inr ⟨q, q', e, e', z, z'⟩)
theorem add_ab (a c : Nat) : bin .add (ab a) (ab c) = bin .add (ab c) (ab a) := by
  cases ha : ab a <;> cases hc : ab c <;> first | rfl | exact add_swap _ _
theorem betX_turn (a b c : Nat) : Tu (betX (ab a) (ab b) (ab c)) (betX (ab c) (ab b) (ab a)) := by
  unfold betX
  rw [add_ab c a]
  exact (Tu.sub a c).quo _
theorem isN_half : isN 4602678819172646912 = false ∧ isN 13826050856027422720 = false ∧ isN 0 = false := by decide +kernel
theorem lin_half : lin 4602678819172646912 = 4602678819172646912 ∧ lin 13826050856027422720 = -4602678819172646912 ∧ lin 0 = 0 := by decide +kernel
theorem half_lin {q : Nat} (h : isN q = false) : halfB (some q) = (decide (-4602678819172646912 ≤ lin q) && decide (lin q ≤ 4602678819172646912)) := by
  obtain ⟨n1, n2, n3⟩ := isN_half
  obtain ⟨l1, l2, l3⟩ := lin_half
  unfold halfB
  rw [ab_some n1, ab_some n2, gtF_lin h n2, eqF_lin h n2, ltF_lin h n1, eqF_lin h n1, l1, l2, Bool.eq_iff_iff]
  simp only [Bool.and_eq_true, Bool.or_eq_true, decide_eq_true_eq]
  omega
/-- What Between says is within, and turned where the heights are. -/
theorem bet_turn {a b c r s : Nat} (hr : ab r = betF (ab a) (ab b) (ab c)) (hs : ab s = betF (ab c) (ab b) (ab a)) : eqF (ab r) (ab (Go.Fl.neg s)) = true ∧ halfB (ab r) = true := by
  obtain ⟨n1, n2, n3⟩ := isN_half
  obtain ⟨l1, l2, l3⟩ := lin_half
  have key : ∃ x y, betF (ab a) (ab b) (ab c) = some x ∧ betF (ab c) (ab b) (ab a) = some y ∧ isN x = false ∧ isN y = false ∧ lin x = -lin y ∧ -4602678819172646912 ≤ lin x ∧ lin x ≤ 4602678819172646912 := by
    have h0 : ∃ x y, ab 0 = some x ∧ ab 0 = some y ∧ isN x = false ∧ isN y = false ∧ lin x = -lin y ∧ -4602678819172646912 ≤ lin x ∧ lin x ≤ 4602678819172646912 := ⟨0, 0, rfl, rfl, n3, n3, by rw [l3]; rfl, by rw [l3]; omega, by rw [l3]; omega⟩
    unfold betF
    rcases betX_turn a b c with ⟨e1, e2⟩ | ⟨q, hq, e1, e2⟩ | ⟨q, q', e1, e2, z1, z2⟩
    · rw [e1, e2]; exact h0
    · rw [e1, e2]
      have hn : isN (Go.Fl.neg q) = false := by rw [isN_neg]; exact hq
      rw [half_lin hq, half_lin hn, lin_neg]
      by_cases hc : -4602678819172646912 ≤ lin q ∧ lin q ≤ 4602678819172646912
      · rw [if_pos (by simp; omega), if_pos (by simp; omega)]
        exact ⟨q, _, rfl, rfl, hq, hn, by rw [lin_neg]; omega, hc.1, hc.2⟩
      · rw [if_neg (by simp; omega), if_neg (by simp; omega)]; exact h0
    · rw [e1, e2]
      have k1 : lin q = 0 := z1
      have k2 : lin q' = 0 := z2
      rw [half_lin z1.num, half_lin z2.num, k1, k2, if_pos (by decide), if_pos (by decide)]
      exact ⟨q, q', rfl, rfl, z1.num, z2.num, by rw [k1, k2]; rfl, by rw [k1]; omega, by rw [k1]; omega⟩
  obtain ⟨x, y, k1, k2, nx, ny, k3, k4, k5⟩ := key
  rw [k1] at hr
  rw [k2] at hs
  obtain rfl := of_ab hr
  obtain rfl := of_ab hs
  rw [ab_some nx, ab_some (show isN (Go.Fl.neg s) = false by rw [isN_neg]; exact ny), eqF_lin nx (by rw [isN_neg]; exact ny), lin_neg, half_lin nx]
  simp
  exact ⟨k3, k4, k5⟩
theorem bet_same {a b c r : Nat} (hr : ab r = betF (ab a) (ab b) (ab c)) (h : eqF (ab a) (ab c) = true) : eqF (ab r) (ab 0) = true := by
  obtain ⟨n1, n2, n3⟩ := isN_half
  obtain ⟨l1, l2, l3⟩ := lin_half
  have key : ∃ x, betF (ab a) (ab b) (ab c) = some x ∧ Zr x := by
    have hz : ∃ x, ab 0 = some x ∧ Zr x := ⟨0, rfl, l3⟩
    have ha : isN a = false := by
      cases e : isN a with
      | false => rfl
      | true => rw [ab_none e] at h; cases hc : ab c <;> rw [hc] at h <;> cases h
    have hc : isN c = false := by
      cases e : isN c with
      | false => rfl
      | true => rw [ab_none e, ab_some ha] at h; cases h
    unfold betF betX
    rw [ab_some ha, ab_some hc] at h ⊢
    rcases sub_self ha hc h with e | ⟨z, e, hz1⟩
    · rw [e]; exact hz
    · rw [e]
      generalize (bin BinOp.mul (ab 4611686018427387904) (bin BinOp.sub (bin BinOp.add (some a) (some c)) (bin BinOp.mul (ab 4611686018427387904) (ab b)))) = o
      cases o with
      | none => exact hz
      | some y =>
        rcases zero_quo hz1 y with e | ⟨q, e, z1⟩
        · rw [e]; exact hz
        · rw [e]
          have k1 : lin q = 0 := z1
          rw [half_lin z1.num, k1, if_pos (by decide)]
          exact ⟨q, rfl, z1⟩
  obtain ⟨x, k1, k2⟩ := key
  rw [k1] at hr
  obtain rfl := of_ab hr
  have k3 : lin r = 0 := k2
  rw [ab_some k2.num, ab_some n3, eqF_lin k2.num n3, k3, l3]; rfl
end Go.Proofs.Ytephkmahnbhmbab
