/- Of what is near with more and with less; two rows beside each other. -/
import Derived.Test.YtpahjenfkgcdlabI
namespace Go.Proofs.Ytpahjenfkgcdlab
open Go.ChangeShapes Go.WideShapes Go.ChangeAt Go.RowKit

theorem ringsE_nil {m : Nat → Int} : ∀ {n : Nat}, (∀ i, i < n → 1 ≤ m i ∧ m i ≤ 4096) → ringsE m n = 0
  | 0, _ => rfl
  | n + 1, h => by
    unfold ringsE
    rw [ringsE_nil (n := n) (fun i hi => h i (by omega))]
    have := h n (by omega)
    rw [if_neg (by omega), if_neg (by omega)]
theorem ringsC_nil {m : Nat → Int} {k : Nat} (hk : k ≤ 5) (h : ∀ i, i < k → 1 ≤ m i ∧ m i ≤ 4096) : ringsC m k k false 8192 = 0 := by
  unfold ringsC
  rw [Nat.min_self, ringsE_nil h, if_neg (by omega), if_neg (by omega), if_neg (by decide), if_neg (by decide)]
theorem nears_len (r m : Nat → Int) (k : Nat) (off : Int) : (nears r m k off 8192).length ≤ 8192 := by
  have h := nearL_len (fun (x : Nat) => worst r m x k) off (8192 : Int).toNat
  have e : (8192 : Int).toNat = 8192 := by omega
  unfold nears
  omega
theorem nearC_nil (r m : Nat → Int) (k : Nat) (off : Int) : nearC 0 r m k off 8192 = 0 := by
  unfold nearC
  have h := nears_len r m k off
  rw [if_neg (by omega), if_neg (by omega)]
/-- All of B ahead of k is below what comes of A from i on. -/
def MG (A B : List Int) (i k : Nat) : Prop := k ≤ B.length ∧ ∀ j, j < k → ∀ i', i ≤ i' → i' < A.length → B[j]! < A[i']!
theorem MG.start (A B : List Int) : MG A B 0 0 := ⟨by omega, fun j hj => by omega⟩
theorem MG.next {A B : List Int} {i k : Nat} (h : MG A B i k) : MG A B (i + 1) k := ⟨h.1, fun j hj i' hi => h.2 j hj i' (by omega)⟩
theorem sorted_lt {A : List Int} (h : A.Pairwise (· < ·)) {i j : Nat} (hij : i < j) (hj : j < A.length) : A[i]! < A[j]! := by
  rw [getElem!_pos A i (by omega), getElem!_pos A j hj]
  exact List.pairwise_iff_getElem.mp h i j (by omega) hj hij
theorem sorted_le {A : List Int} (h : A.Pairwise (· < ·)) {i j : Nat} (hij : i ≤ j) (hj : j < A.length) : A[i]! ≤ A[j]! := by
  by_cases e : i = j
  · subst e; omega
  · have := sorted_lt h (show i < j by omega) hj
    omega
theorem MG.step {A B : List Int} {i k : Nat} (h : MG A B i k) (hA : A.Pairwise (· < ·)) (hk : k < B.length) (hl : B[k]! < A[i]!) : MG A B i (k + 1) := by
  refine ⟨by omega, fun j hj i' hi hi' => ?_⟩
  by_cases e : j = k
  · subst e
    have := sorted_le hA hi hi'
    omega
  · exact h.2 j (by omega) i' hi hi'
theorem MG.found {A B : List Int} {i k : Nat} (h : MG A B i k) (hB : B.Pairwise (· < ·)) (hs : ∀ z, z ∈ A → z ∈ B) (hi : i < A.length) : k < B.length ∧ A[i]! ≤ A[i]! ∧ (¬ B[k]! < A[i]! → B[k]! = A[i]!) := by
  have hm : A[i]! ∈ A := by rw [getElem!_pos A i hi]; exact List.getElem_mem hi
  obtain ⟨j, hj, e⟩ := List.getElem_of_mem (hs _ hm)
  have e' : B[j]! = A[i]! := by rw [getElem!_pos B j hj]; exact e
  have hkj : k ≤ j := by
    by_cases c : j < k
    · have := h.2 j c i (Nat.le_refl _) hi
      omega
    · omega
  refine ⟨by omega, by omega, fun hn => ?_⟩
  have := sorted_le hB hkj hj
  omega
theorem near_more {W : Nat → Int} {o : Int} {k : Nat} {z : Int} (h : z ∈ nearL W o k) : z ∈ nearL W (o + 1) k := by
  obtain ⟨x, rfl, h1, h2⟩ := nearL_form h
  exact nearL_mem.mpr ⟨h1, by omega⟩
/-- What FoldMoved leans on. -/
structure MV (r m : Nat → Int) (k : Nat) (X o : Int) (A B : List Int) : Prop where
  a : nears r m k o 8192 = A
  b : nears r m k (o + 1) 8192 = B
  la : A.length ≤ 8192
  lb : B.length ≤ 8192
  sa : A.Pairwise (· < ·)
  sb : B.Pairwise (· < ·)
  sub : ∀ z, z ∈ A → z ∈ B
  has : ∃ j, j < A.length ∧ A[j]! = X
  best : ∀ y, Bst (fun x => worst r m x k) 8192 y → 0 ≤ worst r m y k ∧ worst r m y k ≤ o ∧ (∃ t, nears r m k (worst r m y k) 8192 = y :: t) ∧ nears r m k (worst r m y k - 1) 8192 = []
theorem MV.mk' {r m : Nat → Int} {k : Nat} {X o : Int} (hm : ∀ i, i < k → 1 ≤ m i ∧ m i ≤ 4096) (hX0 : 0 ≤ X) (hX : X < 8192) (ho : 0 ≤ o) (hr : ∀ i, i < k → ∃ v, r i = X + v ∧ -o ≤ v ∧ v ≤ o) : MV r m k X o (nears r m k o 8192) (nears r m k (o + 1) 8192) := by
  have hw : worst r m X k ≤ o := (worst_le r m X o ho k).mpr fun i hi => by
    obtain ⟨v, hv, h1, h2⟩ := hr i hi
    rw [hv]
    exact far_moved (hm i hi).1 ⟨h1, h2⟩
  obtain ⟨x, rfl⟩ : ∃ x : Nat, X = x := ⟨X.toNat, by omega⟩
  refine ⟨rfl, rfl, nears_len _ _ _ _, nears_len _ _ _ _, nearL_sorted _ _ _, nearL_sorted _ _ _, fun z hz => near_more hz, ?_, fun y hy => ?_⟩
  · have hmem : (x : Int) ∈ nears r m k o 8192 := nearL_mem.mpr ⟨by omega, hw⟩
    generalize nears r m k o 8192 = A at hmem
    obtain ⟨j, hj, e⟩ := List.getElem_of_mem hmem
    exact ⟨j, hj, by rw [getElem!_pos _ j hj]; exact e⟩
  · obtain ⟨y0, y1, y2, y3⟩ := hy
    obtain ⟨y, rfl⟩ : ∃ n : Nat, y = n := ⟨y.toNat, by omega⟩
    have h1 : worst r m y k ≤ worst r m x k := y2 x (by omega) (by omega)
    refine ⟨worst_nn _ _ _ _, by omega, ?_, ?_⟩
    · exact near_first (W := fun (n : Nat) => worst r m n k) (k := (8192 : Int).toNat) (y := y) (by omega) (fun j hj => y3 j (by omega) (by omega))
    · refine near_none (fun j hj => ?_)
      have := y2 j (by omega) (by omega)
      show worst r m y k - 1 < worst r m j k
      simp only at this
      omega
end Go.Proofs.Ytpahjenfkgcdlab
