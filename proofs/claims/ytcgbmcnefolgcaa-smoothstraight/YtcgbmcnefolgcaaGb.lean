/- What SmoothTurned leans on. -/
import Derived.Test.YtcgbmcnefolgcaaGa
import Derived.Test.YtcgbmcnefolgcaaFe
namespace Go.Proofs.Ytcgbmcnefolgcaa
open Go.ChangeShapes Go.WideShapes Go.ChangeAt Go.RowKit Go.Fl Go.Sort Ieee

theorem fin_negF (x : Nat) : fin (ab (Go.Fl.neg x)) = fin (ab x) := by
  cases h : isN x with
  | true => rw [ab_none h, ab_none (by rw [isN_neg]; exact h)]
  | false =>
    have h' : isN (Go.Fl.neg x) = false := by rw [isN_neg]; exact h
    unfold fin
    rw [eqF_self, eqF_self, h, h', ← ab_abs, ← ab_abs]
    have : Go.Fl.abs (Go.Fl.neg x) = Go.Fl.abs x := (neg_parts x).1
    rw [this]
theorem neg_lt {x : Nat} (h : x < 2 ^ 64) : Go.Fl.neg x < 2 ^ 64 := by
  obtain ⟨h1, h2⟩ := neg_parts x
  have h3 : Go.Fl.neg x / 2 ^ 63 < 2 := by
    rw [h2]
    rcases (show x / 2 ^ 63 = 0 ∨ x / 2 ^ 63 = 1 by omega) with e | e <;> rw [e] <;> decide
  omega
/-- A list, each number of which is turned. -/
structure NgL (x y : Array Nat) : Prop where
  len : y.size = x.size
  ng : ∀ i, i < x.size → y[i]! = Go.Fl.neg x[i]!
theorem NgL.fin {x y : Array Nat} (h : NgL x y) : finL y = finL x := by
  unfold finL
  rw [h.len]
  exact allN_congr _ fun i hi => by rw [h.ng i hi, fin_negF]
theorem NgL.sl {t x y : Array Nat} (h : NgL x y) {k : Nat} (hk : k + 1 < x.size) : Tn (slA t x k) (slA t y k) := by
  unfold slA slF
  rw [h.ng k (by omega), h.ng (k + 1) hk]
  exact tn_quo (tn_sub _ _) _
theorem NgL.turn {t x y : Array Nat} (h : NgL x y) (m : Option Nat) : ∀ k, k + 1 < x.size → turnN t y m k = turnN t x m k
  | 0, _ => rfl
  | k + 1, hk => by
    have e : turnB t y m k = turnB t x m k := (tn_gt (h.sl (t := t) (k := k + 1) (by omega)) (h.sl (t := t) (k := k) (by omega)) m).symm
    unfold turnN
    rw [e, NgL.turn h m k (by omega)]
theorem NgL.err {t x y : Array Nat} (h : NgL x y) (m : Option Nat) : turE t y m = turE t x m := by
  unfold turE
  rw [h.len, h.fin]
theorem NgL.told {t x y : Array Nat} (h : NgL x y) (m : Option Nat) : turD t y m = turD t x m := by
  unfold turD
  rw [h.err]
  split
  · rename_i he
    have hl : t.size = x.size := by
      unfold turE at he
      split at he
      · rename_i q; exact (lenE0 q).1
      · rename_i q; exact absurd he q
    rw [hl]
    rcases Nat.lt_or_ge x.size 2 with q | q
    · rw [show x.size - 2 = 0 by omega]; rfl
    · exact h.turn m _ (by omega)
  · rfl
theorem turD_len (t x : Array Nat) (m : Option Nat) : (turD t x m).length ≤ 1024 := by
  unfold turD
  split
  · rename_i hq
    have := turnN_len t x m (t.size - 2)
    unfold turE at hq
    split at hq
    · rename_i he
      have := lenE0 he
      omega
    · rename_i he
      exact absurd hq he
  · simp
/-- All that are told by a greater measure are told by the lesser one. -/
theorem turn_mem {t x : Array Nat} {m : Option Nat} : ∀ {k i : Nat}, i ∈ turnN t x m k ↔ ∃ j, j < k ∧ i = j + 1 ∧ turnB t x m j = true
  | 0, i => by simp [turnN]
  | k + 1, i => by
    unfold turnN
    have ih := turn_mem (t := t) (x := x) (m := m) (k := k) (i := i)
    split
    · rename_i h
      rw [List.mem_append, ih]
      constructor
      · rintro (⟨j, h1, h2, h3⟩ | h1)
        · exact ⟨j, by omega, h2, h3⟩
        · exact ⟨k, by omega, by simpa using h1, h⟩
      · rintro ⟨j, h1, h2, h3⟩
        rcases Nat.lt_or_ge j k with q | q
        · exact Or.inl ⟨j, q, h2, h3⟩
        · obtain rfl : j = k := by omega
          right; simp [h2]
    · rename_i h
      rw [ih]
      constructor
      · rintro ⟨j, h1, h2, h3⟩; exact ⟨j, by omega, h2, h3⟩
      · rintro ⟨j, h1, h2, h3⟩
        rcases Nat.lt_or_ge j k with q | q
        · exact ⟨j, q, h2, h3⟩
        · obtain rfl : j = k := by omega
          exact absurd h3 h
theorem turn_sorted {t x : Array Nat} {m : Option Nat} : ∀ k, List.Pairwise (· < ·) (turnN t x m k)
  | 0 => List.Pairwise.nil
  | k + 1 => by
    unfold turnN
    split
    · rw [List.pairwise_append]
      refine ⟨turn_sorted k, by simp, fun a ha b hb => ?_⟩
      obtain ⟨j, h1, h2, _⟩ := turn_mem.1 ha
      simp at hb
      omega
    · exact turn_sorted k
theorem gt_less {a b : Nat} (h : (ltF (ab a) (ab b) || eqF (ab a) (ab b)) = true) {o : Option Nat} (ho : Good o) (k : gtF o (ab b) = true) : gtF o (ab a) = true := by
  have ha : isN a = false := by
    cases q : isN a with
    | false => rfl
    | true => rw [ab_none q] at h; simp [ltF, eqF, ord] at h
  have hb : isN b = false := by
    cases q : isN b with
    | false => rfl
    | true => rw [ab_none q] at h; cases hq : ab a <;> rw [hq] at h <;> simp [ltF, eqF, ord] at h
  cases o with
  | none => cases k
  | some r =>
    have hr := ho r rfl
    rw [← ab_some hr] at k ⊢
    rw [gtF_lin hr hb] at k
    rw [gtF_lin hr ha]
    rw [ltF_lin ha hb, eqF_lin ha hb] at h
    simp at h k ⊢
    omega
theorem leq_num {a b : Nat} (h : (ltF (ab a) (ab b) || eqF (ab a) (ab b)) = true) : eqF (ab b) (ab b) = true := by
  rw [eqF_self]
  cases q : isN b with
  | false => rfl
  | true => rw [ab_none q] at h; cases hq : ab a <;> rw [hq] at h <;> simp [ltF, eqF, ord] at h
theorem err_more {t x : Array Nat} {a b : Nat} (h : (ltF (ab a) (ab b) || eqF (ab a) (ab b)) = true) (hE : turE t x (ab a) = 0) : turE t x (ab b) = 0 := by
  unfold turE at hE ⊢
  split at hE
  · rename_i q
    rw [if_pos q]
    split at hE
    · rename_i q2
      simp only [Bool.and_eq_true] at q2
      rw [q2.1.1, q2.1.2, leq_num h]
      exact hE
    · cases hE
  · rename_i q; exact absurd hE q
theorem told_more {t x : Array Nat} {a b : Nat} (h : (ltF (ab a) (ab b) || eqF (ab a) (ab b)) = true) (hE : turE t x (ab a) = 0) : ∀ i, i ∈ turD t x (ab b) → i ∈ turD t x (ab a) := by
  intro i hi
  unfold turD at hi ⊢
  rw [err_more h hE, if_pos rfl, turn_mem] at hi
  rw [hE, if_pos rfl, turn_mem]
  obtain ⟨j, h1, h2, h3⟩ := hi
  exact ⟨j, h1, h2, gt_less h (fun y hy => by
    rw [Option.map_eq_some_iff] at hy
    obtain ⟨z, hz, rfl⟩ := hy
    rw [isN_abs]
    exact bin_num hz) h3⟩
theorem told_sorted (t x : Array Nat) (m : Option Nat) : List.Pairwise (· < ·) (turD t x m) := by
  unfold turD
  split
  · exact turn_sorted _
  · exact List.Pairwise.nil
/-- Where each of the second list stands in the first one. -/
def In (C D : List Nat) (k j : Nat) : Prop := ∀ i, j ≤ i → i < D.length → ∃ p, k ≤ p ∧ p < C.length ∧ C.getD p 0 = D.getD i 0
theorem getD_lt {L : List Nat} (h : List.Pairwise (· < ·) L) {i j : Nat} (hij : i < j) (hj : j < L.length) : L.getD i 0 < L.getD j 0 := by
  have := List.pairwise_iff_getElem.1 h i j (by omega) hj hij
  simpa [List.getD_eq_getElem?_getD, List.getElem?_eq_getElem (by omega : i < L.length), List.getElem?_eq_getElem hj] using this
theorem In.start {C D : List Nat} (h : ∀ i, i ∈ D → i ∈ C) : In C D 0 0 := fun i _ hi => by
  have hm : D.getD i 0 ∈ D := by rw [List.getD_eq_getElem?_getD, List.getElem?_eq_getElem hi]; simp
  obtain ⟨p, hp, e⟩ := List.mem_iff_getElem.1 (h _ hm)
  exact ⟨p, by omega, hp, by rw [List.getD_eq_getElem?_getD, List.getElem?_eq_getElem hp]; simpa using e⟩
theorem In.next {C D : List Nat} {k j p : Nat} (hC : List.Pairwise (· < ·) C) (hD : List.Pairwise (· < ·) D) (h : In C D k j) (hp : p < C.length) (e : C.getD p 0 = D.getD j 0) : In C D p (j + 1) := fun i h1 h2 => by
  obtain ⟨p', k1, k2, k3⟩ := h i (by omega) h2
  refine ⟨p', ?_, k2, k3⟩
  rcases Nat.lt_or_ge p' p with q | q
  · have a1 := getD_lt hC q hp
    have a2 := getD_lt hD (show j < i by omega) h2
    omega
  · exact q
theorem nb_may (s n : S5) (t q : Option Nat) (h : mayF s = true) : mayF (stepF s t q n) = true := by
  unfold stepF
  split
  · unfold afterF
    split
    · assumption
    · exact h
  · exact h
theorem bk_may {S : Nat → Stt} {d : Array Nat} {q : Option Nat} {m : Nat} (h : ∀ i, i ≤ m → mayF (S i).ab = true) : ∀ k, mayF (bkN S d q m k) = true
  | 0 => h m (by omega)
  | k + 1 => nb_may _ _ _ _ (h _ (by omega))
theorem eqS_may {s : S5} {x v a b c : Nat} (hs : s = ⟨ab x, ab v, ab a, ab b, ab c⟩) (h : mayF s = true) : eqS s s = true := by
  subst hs
  unfold mayF at h
  simp only [Bool.and_eq_true] at h
  obtain ⟨⟨⟨⟨⟨h1, h2⟩, h3⟩, h4, h5⟩, _⟩, _⟩ := h
  unfold eqS
  rw [eqF_self, eqF_self, eqF_self, eqF_self, eqF_self, fin_nan h1, fin_nan h2, fin_nan h3, fin_nan h4, fin_nan h5]
  rfl
end Go.Proofs.Ytcgbmcnefolgcaa
