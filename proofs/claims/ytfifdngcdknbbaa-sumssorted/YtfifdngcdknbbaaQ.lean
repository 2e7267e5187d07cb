/- All places of a list, one behind the other: what is counted of them. -/
import Derived.Test.YtfifdngcdknbbaaN
namespace Go.Proofs.Ytfifdngcdknbbaa
open Go.ChangeShapes Go.WideShapes Go.ChangeAt Go.RowKit Go.Fl Go.Sort
attribute [local go_sem] run_store_float run_store_complex call12 call32 run_neg fold_eq fold_ne fold_lt fold_gt abs_eq

/-- How many of the first k of D are like y, less how many of the first k of O. -/
def cntK (D O : Array Nat) (y : Nat) : Nat → Int
  | 0 => 0
  | k + 1 => cntK D O y k + (if ab D[k]! == ab y then 1 else 0) - (if ab O[k]! == ab y then 1 else 0)
theorem cntK_bound (D O : Array Nat) (y : Nat) : ∀ k : Nat, -(k : Int) ≤ cntK D O y k ∧ cntK D O y k ≤ k
  | 0 => ⟨by simp [cntK], by simp [cntK]⟩
  | k + 1 => by
    have := cntK_bound D O y k
    rw [cntK]
    constructor <;> (split <;> split <;> omega)
theorem count_take (D : Array Nat) (q : Nat → Bool) : ∀ k, k ≤ D.size → ((D.toList.take (k + 1)).countP q = (D.toList.take k).countP q + if k < D.size ∧ q D[k]! = true then 1 else 0) := by
  intro k hk
  rcases Nat.lt_or_ge k D.size with hlt | hge
  · rw [List.take_succ_eq_append_getElem (by simpa using hlt), List.countP_append, getElem!_pos D k hlt]
    by_cases hq : q D[k] = true
    · simp [hq, hlt]
    · simp [hq]
  · rw [if_neg (by omega), List.take_of_length_le (by simp; omega), List.take_of_length_le (by simp; omega)]
    rfl
theorem cntK_eq (D O : Array Nat) (y : Nat) (hs : O.size = D.size) : ∀ k : Nat, k ≤ D.size → cntK D O y k = ((D.toList.take k).countP (fun x => ab x == ab y) : Int) - ((O.toList.take k).countP (fun x => ab x == ab y) : Int)
  | 0, _ => by simp [cntK]
  | k + 1, hk => by
    have ih := cntK_eq D O y hs k (by omega)
    have h1 := count_take D (fun x => ab x == ab y) k (by omega)
    have h2 := count_take O (fun x => ab x == ab y) k (by omega)
    rw [cntK, ih, h1, h2]
    have e1 : k < D.size := by omega
    have e2 : k < O.size := by omega
    simp only [e1, e2, true_and]
    push_cast
    split <;> split <;> omega
theorem like_key {x y : Nat} (hx : x < 2 ^ 64) (hy : y < 2 ^ 64) : (ab x == ab y) = (key x == key y) := by
  by_cases h : key x = key y
  · rw [key_inj hx hy h, h]; simp
  · have : ab x ≠ ab y := fun e => h (by
      cases ex : isN x <;> cases ey : isN y
      · rw [ab_some ex, ab_some ey] at e; injection e with e; rw [e]
      · rw [ab_some ex, ab_none ey] at e; cases e
      · rw [ab_none ex, ab_some ey] at e; cases e
      · rw [key_nan ex, key_nan ey])
    rw [beq_eq_false_iff_ne.2 this, beq_eq_false_iff_ne.2 h]
/-- All places, in their order: just as many of each. -/
theorem cntK_zero {D O : Array Nat} {y : Nat} (hs : O.size = D.size) (hD : Fit D) (hO : Fit O) (hy : y < 2 ^ 64) (hk : ∀ j, j < D.size → key O[j]! = kth D j) : cntK D O y D.size = 0 := by
  rw [cntK_eq D O y hs D.size (Nat.le_refl _), List.take_of_length_le (by simp), List.take_of_length_le (by simp [hs])]
  have el : ∀ (A : Array Nat), Fit A → A.toList.countP (fun x => ab x == ab y) = (A.toList.map key).countP (fun z => z == key y) := by
    intro A hA
    rw [List.countP_map]
    refine List.countP_congr fun x hx => ?_
    obtain ⟨i, hi, e⟩ := List.mem_iff_getElem.1 hx
    have hi' : i < A.size := by simpa using hi
    have := hA i hi'
    rw [getElem!_pos A i hi'] at this
    have hx64 : x < 2 ^ 64 := by rw [← e]; simpa using this
    simp only [Function.comp, like_key hx64 hy]
  rw [el D hD, el O hO]
  have ek : O.toList.map key = keys D.toList := by
    apply List.ext_getElem
    · rw [keys_length]; simp [hs]
    · intro j h1 h2
      have hj : j < O.size := by simpa using h1
      have := hk j (by omega)
      unfold kth at this
      rw [getElem!_pos O j hj, getElem!_pos _ j h2] at this
      simpa using this
  have hp : (keys D.toList).Perm (D.toList.map key) := List.mergeSort_perm _ _
  rw [ek, hp.countP_eq]
  omega

theorem owns_up {w w' : World} {b n : Nat} {v : Value} {xs : List Value} (h : w.ownsRow b 23 1 v n xs) (hu : Up w w') : w'.ownsRow b 23 1 v n xs := by
  obtain ⟨h1, h2⟩ := h
  refine ⟨h1, ?_⟩
  rcases h2 with h2 | ⟨g, cap, cur, k1, k2, k3, k4⟩
  · exact Or.inl h2
  · refine Or.inr ⟨g, cap, cur, k1, k2, ?_, k4⟩
    rw [RowKit.Below.block hu g (Array.getElem?_eq_some_iff.1 k3).1]; exact k3
/-- What has been gathered so far. -/
def Got (D : Array Nat) (i : Nat) (O : List Nat) : Prop := O.length = i ∧ ∀ j, j < i → O[j]! < 2 ^ 64 ∧ key O[j]! = kth D j
theorem Got.snoc {D : Array Nat} {i x : Nat} {O : List Nat} (h : Got D i O) (hx : x < 2 ^ 64 ∧ key x = kth D i) : Got D (i + 1) (O ++ [x]) := by
  refine ⟨by simp [h.1], fun j hj => ?_⟩
  rcases Nat.lt_or_ge j i with hlt | hge
  · have e : (O ++ [x])[j]! = O[j]! := by
      rw [getElem!_pos _ j (by simp [h.1]; omega), getElem!_pos O j (by rw [h.1]; exact hlt)]
      exact List.getElem_append_left (by rw [h.1]; exact hlt)
    rw [e]; exact h.2 j hlt
  · obtain rfl : j = i := by omega
    have e : (O ++ [x])[j]! = x := by
      rw [getElem!_pos _ j (by simp [h.1])]
      rw [List.getElem_append_right (by rw [h.1]; exact Nat.le_refl _)]
      simp [h.1]
    rw [e]; exact hx
theorem Got.fit {D : Array Nat} {i : Nat} {O : List Nat} (h : Got D i O) : Fit O.toArray := by
  intro j hj
  have hj' : j < O.length := by simpa using hj
  have := (h.2 j (by rw [← h.1]; exact hj')).1
  rw [getElem!_pos _ j hj]
  rw [getElem!_pos O j hj'] at this
  simpa using this
theorem nth9 {W : World} {blk off cap N i : Nat} {D : Array Nat} (hN : D.size = N) (HR : Hid (Reads W blk off D)) (HF : Hid (Fit D)) (hi : i < N) (hb : N ≤ 300) : Calls Try.prog 9 #[.slice (some ⟨blk, off, none⟩) N cap, .int .i64 i] W (NR W D i) := by
  subst hN
  exact t9 blk off cap i D W HR.out HF.out hi (by omega)
theorem plc_le {W : World} {x y : Nat} (hx : x < 2 ^ 64) (hy : y < 2 ^ 64) : Calls Try.prog 14 #[.float .f64 x, .float .f64 y] W fun e w' => e = .returned (.int .i64 (cmpK x y)) ∧ w' = W := t14 x y W hx hy
theorem cmpK_not {x y : Nat} (h : key x ≤ key y) : ¬ 0 < cmpK x y := by
  have := (cmpK_le x y).2 h
  omega
end Go.Proofs.Ytfifdngcdknbbaa
