/- A list in which what is no cell gets other numbers, in which two cells are exchanged: the level is the same. -/
import Derived.Test.YtfggdaebahdnfaaSe
namespace Go.Proofs.Ytfggdaebahdnfaa
open Go.ChangeShapes Go.WideShapes Go.ChangeAt Go.RowKit Go.Fl Ieee

theorem set_get (d : Array Nat) (k v : Nat) {i : Nat} (hi : i < d.size) : (d.set! k v)[i]! = if i = k then v else d[i]! := by
  rw [Array.set!_eq_setIfInBounds, getElem!_pos _ i (by simpa using hi), Array.getElem_setIfInBounds, getElem!_pos d i hi]
  by_cases h : k = i
  · rw [if_pos h, if_pos h.symm]
  · rw [if_neg h, if_neg (Ne.symm h)]
theorem arr_ext {a b : Array Nat} (hs : a.size = b.size) (h : ∀ i, i < a.size → a[i]! = b[i]!) : a = b :=
  Array.ext hs fun i h1 h2 => by
    have := h i h1
    rwa [getElem!_pos a i h1, getElem!_pos b i h2] at this
theorem swap_get (xs : Array Nat) {a b i : Nat} (ha : a < xs.size) (hb : b < xs.size) (hi : i < xs.size) : (xs.swap a b ha hb)[i]! = if i = a then xs[b]! else if i = b then xs[a]! else xs[i]! := by
  rw [getElem!_pos _ i (by simpa using hi), Array.getElem_swap, getElem!_pos xs i hi, getElem!_pos xs a ha, getElem!_pos xs b hb]
/-- Two lists that stand alike at the cells of a place. -/
def Alike (K G T : Nat) (d d' : Array Nat) : Prop := d'.size = d.size ∧ ∀ j, j < d.size → ((K + G < j ∧ j ≤ K + G + T) ∨ (j + G < K ∧ K ≤ j + G + T)) → d'[j]! = d[j]!
theorem Alike.lef {K G T : Nat} {d d' : Array Nat} (h : Alike K G T d d') : lef d' K G T = lef d K G T := by
  unfold Go.Proofs.Ytfggdaebahdnfaa.lef
  have hs := h.1
  refine arr_ext (by rw [cut_size, cut_size, hs]) fun i hi => ?_
  have hi2 : i < (d.extract (K - G - T) (K - G)).size := by rw [cut_size, hs] at hi; rw [cut_size]; exact hi
  obtain ⟨e1, l1⟩ := cut_get d' _ _ hi
  obtain ⟨e2, l2⟩ := cut_get d _ _ hi2
  rw [cut_size] at hi2
  rw [e1, e2]
  exact h.2 _ l2 (Or.inr (by omega))
theorem Alike.rig {K G T : Nat} {d d' : Array Nat} (h : Alike K G T d d') : rig d' K G T = rig d K G T := by
  unfold Go.Proofs.Ytfggdaebahdnfaa.rig
  have hs := h.1
  refine arr_ext (by rw [cut_size, cut_size, hs]) fun i hi => ?_
  have hi2 : i < (d.extract (K + G + 1) (K + G + 1 + T)).size := by rw [cut_size, hs] at hi; rw [cut_size]; exact hi
  obtain ⟨e1, l1⟩ := cut_get d' _ _ hi
  obtain ⟨e2, l2⟩ := cut_get d _ _ hi2
  rw [cut_size] at hi2
  rw [e1, e2]
  exact h.2 _ l2 (Or.inl (by omega))
theorem Alike.level {K G T M : Nat} {way : Int} {d d' : Array Nat} (h : Alike K G T d d') : lvD way G T M d' K = lvD way G T M d K := by
  unfold lvD; rw [h.lef, h.rig]
theorem Alike.set {K G T : Nat} {d d' : Array Nat} (h : Alike K G T d d') {i v : Nat} (hi : ¬ ((K + G < i ∧ i ≤ K + G + T) ∨ (i + G < K ∧ K ≤ i + G + T))) : Alike K G T d (d'.set! i v) := by
  refine ⟨by simp [h.1], fun j hj hc => ?_⟩
  rw [set_get d' i v (by rw [h.1]; exact hj), if_neg (fun e : j = i => hi (e ▸ hc))]
  exact h.2 j hj hc
theorem nth_perm {d d' : Array Nat} (h : d'.toList.Perm d.toList) (k : Nat) : nthD d' k = nthD d k := by
  unfold nthD kth
  have e : keys d'.toList = keys d.toList := by
    have h1 := keys_pair d'.toList
    have h2 := keys_pair d.toList
    refine List.Perm.eq_of_pairwise (le := fun x y : Nat => x ≤ y) (fun a b _ _ h1 h2 => Nat.le_antisymm h1 h2) h1 h2 ?_
    unfold keys
    exact (List.mergeSort_perm _ _).trans ((h.map key).trans (List.mergeSort_perm _ _).symm)
  rw [e]
theorem lv_swap {d : Array Nat} {K G T M P Q : Nat} (hK : K < d.size) (hP : P < d.size) (h1 : K + G < P) (h2 : P ≤ K + G + T) (h3 : Q + G < K) (h4 : K ≤ Q + G + T) : lvD 3 G T M ((d.set! P d[Q]!).set! Q d[P]!) K = lvD 3 G T M d K := by
  obtain ⟨d2, hd2⟩ : ∃ d2, (d.set! P d[Q]!).set! Q d[P]! = d2 := ⟨_, rfl⟩
  have s2 : d2.size = d.size := by rw [← hd2]; simp
  have g2 : ∀ i, i < d.size → d2[i]! = if i = Q then d[P]! else if i = P then d[Q]! else d[i]! := fun i hi => by
    rw [← hd2, set_get _ _ _ (by simpa using hi), set_get _ _ _ hi]
  rw [hd2]
  obtain ⟨L, hL⟩ : ∃ L, lef d K G T = L := ⟨_, rfl⟩
  obtain ⟨R, hR⟩ : ∃ R, rig d K G T = R := ⟨_, rfl⟩
  have zL : L.size = min (K - G) d.size - (K - G - T) := by rw [← hL]; exact cut_size _ _ _
  have zR : R.size = min (K + G + 1 + T) d.size - (K + G + 1) := by rw [← hR]; exact cut_size _ _ _
  have zL2 : (lef d2 K G T).size = L.size := by rw [zL, ← s2]; exact cut_size _ _ _
  have zR2 : (rig d2 K G T).size = R.size := by rw [zR, ← s2]; exact cut_size _ _ _
  have hq : Q - (K - G - T) < L.size := by omega
  have hp : P - (K + G + 1) < R.size := by omega
  have sz : (L ++ R).size = L.size + R.size := by simp
  have gL : ∀ i, i < L.size → L[i]! = d[K - G - T + i]! := fun i hi => by
    rw [← hL] at hi ⊢; exact (cut_get d _ _ hi).1
  have gR : ∀ i, i < R.size → R[i]! = d[K + G + 1 + i]! := fun i hi => by
    rw [← hR] at hi ⊢; exact (cut_get d _ _ hi).1
  have gL2 : ∀ i, i < L.size → (lef d2 K G T)[i]! = d2[K - G - T + i]! := fun i hi => (cut_get d2 _ _ (by rw [← zL2] at hi; exact hi)).1
  have gR2 : ∀ i, i < R.size → (rig d2 K G T)[i]! = d2[K + G + 1 + i]! := fun i hi => (cut_get d2 _ _ (by rw [← zR2] at hi; exact hi)).1
  have e : lef d2 K G T ++ rig d2 K G T = (L ++ R).swap (Q - (K - G - T)) (L.size + (P - (K + G + 1))) (by omega) (by omega) := by
    refine arr_ext (by simp [zL2, zR2]) fun i hi => ?_
    have hi' : i < L.size + R.size := by simpa [zL2, zR2] using hi
    rw [swap_get _ _ _ (by omega), app_get _ _ (by rw [zL2, zR2]; exact hi'), zL2, app_get L R (by omega), app_get L R (by omega), app_get L R hi', if_neg (show ¬ (L.size + (P - (K + G + 1)) < L.size) by omega), if_pos hq, gL _ hq, show L.size + (P - (K + G + 1)) - L.size = P - (K + G + 1) by omega, gR _ hp, show K + G + 1 + (P - (K + G + 1)) = P by omega, show K - G - T + (Q - (K - G - T)) = Q by omega]
    by_cases hl : i < L.size
    · rw [if_pos hl, if_pos hl, gL2 i hl, gL i hl, g2 _ (by omega)]
      by_cases c : i = Q - (K - G - T)
      · rw [if_pos (by omega), if_pos c]
      · rw [if_neg (by omega), if_neg (by omega), if_neg c, if_neg (by omega)]
    · have hr : i - L.size < R.size := by omega
      rw [if_neg hl, if_neg hl, gR2 _ hr, gR _ hr, g2 _ (by omega), if_neg (show ¬ (K + G + 1 + (i - L.size) = Q) by omega), if_neg (show ¬ (i = Q - (K - G - T)) by omega)]
      by_cases c : i = L.size + (P - (K + G + 1))
      · rw [if_pos (by omega), if_pos c]
      · rw [if_neg (by omega), if_neg c]
  unfold lvD levD
  rw [zL2, zR2, hL, hR, e]
  have hperm : ((L ++ R).swap (Q - (K - G - T)) (L.size + (P - (K + G + 1))) (by omega) (by omega)).toList.Perm (L ++ R).toList := (Array.swap_perm _ _).toList
  rw [nth_perm hperm]
  simp
end Go.Proofs.Ytfggdaebahdnfaa
