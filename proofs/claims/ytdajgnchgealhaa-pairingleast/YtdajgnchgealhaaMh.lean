/- What follows of the best pairing: no program. -/
import Derived.Test.YtdajgnchgealhaaMg
namespace Go.Proofs.Ytdajgnchgealhaa
open Go.ChangeShapes Go.WideShapes Go.ChangeAt Go.RowKit

theorem lq.anti {a b : Int} (h : lq a b) (k : lq b a) : a = b := by
  rcases h with h | ⟨h1, h2⟩ <;> rcases k with k | ⟨k1, k2⟩ <;> omega
theorem Best.uniq {N : Nat} {R : Nat → Nat} {T : Nat → Nat → Int} {f g : Nat → Int} (hf : Best N R T f) (hg : Best N R T g) : ∀ i, i < N → f i = g i := by
  have h1 := hf.most g hg.p
  have h2 := hg.most f hf.p
  have h3 := hf.least g hg.p (by omega)
  have h4 := hg.least f hf.p (by omega)
  have h5 := hf.first g hg.p (by omega) (by omega)
  have h6 := hg.first f hf.p (by omega) (by omega)
  have key : ∀ m i, i < m → i < N → f i = g i := fun m => by
    induction m with
    | zero => intro i hi; omega
    | succ m ih =>
      intro i hi hN
      exact (h5 i hN (fun i' hi' => (ih i' (by omega) (by omega)).symm)).anti (h6 i hN (fun i' hi' => ih i' (by omega) (by omega)))
  exact fun i hi => key (i + 1) i (by omega) hi
theorem Best.cnt_eq {N : Nat} {R : Nat → Nat} {T : Nat → Nat → Int} {f g : Nat → Int} (hf : Best N R T f) (hg : Best N R T g) : cnt N f = cnt N g ∧ tot N T f = tot N T g := by
  have h1 := hf.most g hg.p
  have h2 := hg.most f hf.p
  have h3 := hf.least g hg.p (by omega)
  have h4 := hg.least f hf.p (by omega)
  exact ⟨by omega, by omega⟩
theorem cnt_upd {N i : Nat} (hi : i < N) (f : Nat → Int) (x : Int) : cnt N (upd f i x) = cnt N f - (if f i = -1 then 0 else 1) + (if x = -1 then 0 else 1) := by
  unfold cnt
  rw [sumZ_one (n := N) (k := i) (f := fun y => if upd f i x y = -1 then 0 else 1) (g := fun y => if f y = -1 then 0 else 1) hi (fun y hy hne => by
    show (if upd f i x y = -1 then (0 : Int) else 1) = if f y = -1 then 0 else 1
    rw [upd_ne _ _ hne])]
  show _ - (if f i = -1 then (0 : Int) else 1) + (if upd f i x i = -1 then (0 : Int) else 1) = _
  rw [upd_at]
theorem tot_upd {N i : Nat} (hi : i < N) (T : Nat → Nat → Int) (f : Nat → Int) (x : Int) : tot N T (upd f i x) = tot N T f - (if f i = -1 then 0 else T i (f i).toNat) + (if x = -1 then 0 else T i x.toNat) := by
  unfold tot
  rw [sumZ_one (n := N) (k := i) (f := fun y => if upd f i x y = -1 then 0 else T y (upd f i x y).toNat) (g := fun y => if f y = -1 then 0 else T y (f y).toNat) hi (fun y hy hne => by
    show (if upd f i x y = -1 then (0 : Int) else T y (upd f i x y).toNat) = if f y = -1 then 0 else T y (f y).toNat
    rw [upd_ne _ _ hne])]
  show _ - (if f i = -1 then (0 : Int) else T i (f i).toNat) + (if upd f i x i = -1 then (0 : Int) else T i (upd f i x i).toNat) = _
  rw [upd_at]
/-- A column that is free: no row gains by it. -/
theorem Best.alone {N : Nat} {R : Nat → Nat} {T : Nat → Nat → Int} {f : Nat → Int} (h : Best N R T f) {i j : Nat} (hi : i < N) (hj : j < R i) (hT : 0 ≤ T i j) (hno : ∀ i', i' < N → f i' ≠ (j : Nat)) : ∃ x : Nat, f i = x ∧ x < R i ∧ T i x ≤ T i j ∧ (T i x = T i j → x < j) := by
  have hp : IsP N R T (upd f i j) := by
    refine ⟨fun a ha => ?_, fun a b ha hb he hne => ?_⟩
    · by_cases e : a = i
      · subst e; exact Or.inr ⟨j, upd_at _ _ _, hj, hT⟩
      · rw [upd_ne _ _ e]; exact h.p.at' a ha
    · by_cases e1 : a = i
      · by_cases e2 : b = i
        · omega
        · rw [e1, upd_at, upd_ne _ _ e2] at he
          exact absurd he.symm (hno b hb)
      · by_cases e2 : b = i
        · rw [e2, upd_at, upd_ne _ _ e1] at he
          exact absurd he (hno a ha)
        · rw [upd_ne _ _ e1] at hne
          rw [upd_ne _ _ e1, upd_ne _ _ e2] at he
          exact h.p.inj a b ha hb he hne
  have hc := cnt_upd hi f j
  have ht := tot_upd hi T f j
  have hm := h.most _ hp
  rw [if_neg (show ¬ (j : Int) = -1 by omega)] at hc ht
  rw [Int.toNat_natCast] at ht
  rcases h.p.at' i hi with e | ⟨x, e, hx, hTx⟩
  · rw [if_pos e] at hc
    omega
  · rw [if_neg (by omega)] at hc ht
    rw [e, Int.toNat_natCast] at ht
    have hl := h.least _ hp (by omega)
    refine ⟨x, e, hx, by omega, fun heq => ?_⟩
    have hfi := h.first _ hp (by omega) (by omega) i hi (fun i' hi' => upd_ne _ _ (by omega))
    rw [upd_at, e] at hfi
    have hne := hno i hi
    rcases hfi with h1 | ⟨h1, h2⟩ <;> omega
/-- Two rows do not gain by changing mates. -/
theorem Best.swap {N : Nat} {R : Nat → Nat} {T : Nat → Nat → Int} {f : Nat → Int} (h : Best N R T f) {i k x y : Nat} (hi : i < N) (hk : k < i) (hx : f i = x) (hy : f k = y) (hR : R i = R k) (h1 : 0 ≤ T i y) (h2 : 0 ≤ T k x) : T i x + T k y ≤ T i y + T k x ∧ (T i x + T k y = T i y + T k x → y < x) := by
  have hxR : x < R i := by
    rcases h.p.at' i hi with e | ⟨z, e, hz, _⟩
    · omega
    · have : z = x := by omega
      subst this; exact hz
  have hyR : y < R k := by
    rcases h.p.at' k (by omega) with e | ⟨z, e, hz, _⟩
    · omega
    · have : z = y := by omega
      subst this; exact hz
  have hxy : x ≠ y := fun e => by
    have := h.p.inj i k hi (by omega) (by rw [hx, hy, e]) (by rw [hx]; omega)
    omega
  have hval : ∀ a, upd (upd f i y) k x a = if a = k then (x : Int) else if a = i then (y : Int) else f a := fun a => rfl
  have hp : IsP N R T (upd (upd f i y) k x) := by
    refine ⟨fun a ha => ?_, fun a b ha hb he hne => ?_⟩
    · rw [hval]
      by_cases e1 : a = k
      · rw [if_pos e1, e1]; exact Or.inr ⟨x, rfl, by omega, h2⟩
      · rw [if_neg e1]
        by_cases e2 : a = i
        · rw [if_pos e2, e2]; exact Or.inr ⟨y, rfl, by omega, h1⟩
        · rw [if_neg e2]; exact h.p.at' a ha
    · rw [hval, hval] at he
      rw [hval] at hne
      have hfx : ∀ c, c < N → c ≠ i → f c ≠ (x : Int) := fun c hc hci e => hci (h.p.inj c i hc hi (by rw [e, hx]) (by rw [e]; omega))
      have hfy : ∀ c, c < N → c ≠ k → f c ≠ (y : Int) := fun c hc hck e => hck (h.p.inj c k hc (by omega) (by rw [e, hy]) (by rw [e]; omega))
      by_cases a1 : a = k
      · by_cases b1 : b = k
        · omega
        · rw [if_pos a1, if_neg b1] at he
          by_cases b2 : b = i
          · rw [if_pos b2] at he; omega
          · rw [if_neg b2] at he; exact absurd he.symm (hfx b hb b2)
      · rw [if_neg a1] at he hne
        by_cases a2 : a = i
        · rw [if_pos a2] at he
          by_cases b1 : b = k
          · rw [if_pos b1] at he; omega
          · rw [if_neg b1] at he
            by_cases b2 : b = i
            · omega
            · rw [if_neg b2] at he; exact absurd he.symm (hfy b hb b1)
        · rw [if_neg a2] at he hne
          by_cases b1 : b = k
          · rw [if_pos b1] at he; exact absurd he (hfx a ha a2)
          · rw [if_neg b1] at he
            by_cases b2 : b = i
            · rw [if_pos b2] at he; exact absurd he (hfy a ha a1)
            · rw [if_neg b2] at he; exact h.p.inj a b ha hb he hne
  have hfk : upd f i y k = y := by rw [upd_ne _ _ (by omega)]; exact hy
  have c1 := cnt_upd hi f y
  have c2 := cnt_upd (N := N) (i := k) (by omega) (upd f i y) x
  have t1 := tot_upd hi T f y
  have t2 := tot_upd (N := N) (i := k) (by omega) T (upd f i y) x
  rw [hx, if_neg (by omega), if_neg (by omega)] at c1 t1
  rw [hfk, if_neg (by omega), if_neg (by omega)] at c2 t2
  rw [Int.toNat_natCast, Int.toNat_natCast] at t1 t2
  have hl := h.least _ hp (by omega)
  refine ⟨by omega, fun heq => ?_⟩
  have hfi := h.first _ hp (by omega) (by omega) k (by omega) (fun i' hi' => by rw [hval, if_neg (by omega), if_neg (by omega)])
  rw [upd_at, hy] at hfi
  rcases hfi with e1 | ⟨e1, e2⟩ <;> omega
end Go.Proofs.Ytdajgnchgealhaa
