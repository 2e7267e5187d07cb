/- Products by doubling; how far numbers are round a modulus; the near ones and the best one. No program. -/
import Derived.Test.YtpahjenfkgcdlabEb
namespace Go.Proofs.Ytpahjenfkgcdlab

theorem plus_mod {a b m : Int} (ha : 0 ≤ a ∧ a < m) (hb : 0 ≤ b ∧ b < m) : (if m - b ≤ a then a - (m - b) else a + b) = (a + b) % m := by
  split
  · rw [show a + b = (a - (m - b)) + m by omega, Int.add_emod_right, Int.emod_eq_of_lt (by omega) (by omega)]
  · rw [Int.emod_eq_of_lt (by omega) (by omega)]
theorem dbl_step {s a b m : Int} : ((if b % 2 = 1 then (s + a) % m else s) + (a + a) % m * (b / 2)) % m = (s + a * b) % m := by
  have e : b = 2 * (b / 2) + b % 2 := by omega
  have e2 : ((a + a) % m * (b / 2)) % m = ((a + a) * (b / 2)) % m := by rw [Int.mul_emod, Int.emod_emod, ← Int.mul_emod]
  split
  · rename_i h
    rw [Int.add_emod, e2, Int.emod_emod, ← Int.add_emod]
    congr 1
    rw [h] at e
    generalize b / 2 = q at *
    subst e
    grind
  · rw [Int.add_emod, e2, ← Int.add_emod]
    congr 1
    have h : b % 2 = 0 := by omega
    rw [h] at e
    generalize b / 2 = q at *
    subst e
    grind
/-- How far x is from r round m. -/
def far (x r m : Int) : Int := min ((x - r) % m) ((r - x) % m)
theorem far_sub {x r m : Int} (_hm : 1 ≤ m) : (x % m - r % m) % m = (x - r) % m := by rw [← Int.sub_emod]
theorem opp_mod {z m : Int} (hm : 1 ≤ m) : (-z) % m = if z % m = 0 then 0 else m - z % m := by
  have h0 := Int.emod_nonneg z (show m ≠ 0 by omega)
  have h1 := Int.emod_lt_of_pos z (show 0 < m by omega)
  have e := Int.mul_ediv_add_emod z m
  split
  · rename_i h
    rw [h, Int.add_zero] at e
    rw [← e, show -(m * (z / m)) = m * -(z / m) by grind]
    exact Int.mul_emod_right _ _
  · generalize z % m = d at *
    generalize z / m = q at *
    subst e
    rw [show -(m * q + d) = (m - d) + m * (-q - 1) by grind, Int.add_mul_emod_self_left, Int.emod_eq_of_lt (by omega) (by omega)]
theorem far_min {x r m : Int} (hm : 1 ≤ m) : min ((x - r) % m) (m - (x - r) % m) = far x r m := by
  unfold far
  have h0 := Int.emod_nonneg (x - r) (show m ≠ 0 by omega)
  have h1 := Int.emod_lt_of_pos (x - r) (show 0 < m by omega)
  rw [show r - x = -(x - r) by omega, opp_mod hm]
  split <;> omega
theorem far_nn {x r m : Int} (hm : 1 ≤ m) : 0 ≤ far x r m ∧ far x r m < m := by
  unfold far
  have h0 := Int.emod_nonneg (x - r) (show m ≠ 0 by omega)
  have h1 := Int.emod_lt_of_pos (x - r) (show 0 < m by omega)
  have h2 := Int.emod_nonneg (r - x) (show m ≠ 0 by omega)
  omega
theorem mod_le {z m : Int} (hz : 0 ≤ z) (hm : 1 ≤ m) : z % m ≤ z := by
  rw [Int.emod_def]
  have : 0 ≤ m * (z / m) := Int.mul_nonneg (by omega) (Int.ediv_nonneg hz (by omega))
  omega
/-- A remainder that was moved by at most off is at most off far. -/
theorem far_moved {x v m off : Int} (hm : 1 ≤ m) (h : -off ≤ v ∧ v ≤ off) : far x (x + v) m ≤ off := by
  unfold far
  by_cases hv : 0 ≤ v
  · have := mod_le hv hm
    rw [show x + v - x = v by omega]
    omega
  · have := mod_le (show 0 ≤ -v by omega) hm
    rw [show x - (x + v) = -v by omega]
    omega
/-- The farthest of n. -/
def worst (r m : Nat → Int) (x : Int) : Nat → Int
  | 0 => 0
  | n + 1 => max (worst r m x n) (far x (r n) (m n))
theorem worst_nn (r m : Nat → Int) (x : Int) : ∀ n, 0 ≤ worst r m x n
  | 0 => Int.le_refl _
  | n + 1 => by have := worst_nn r m x n; unfold worst; omega
theorem worst_le (r m : Nat → Int) (x off : Int) (ho : 0 ≤ off) : ∀ n, worst r m x n ≤ off ↔ ∀ i, i < n → far x (r i) (m i) ≤ off
  | 0 => ⟨fun _ i hi => by omega, fun _ => ho⟩
  | n + 1 => by
    have ih := worst_le r m x off ho n
    unfold worst
    constructor
    · intro h i hi
      by_cases e : i = n
      · subst e; omega
      · exact ih.1 (by omega) i (by omega)
    · intro h
      have h1 := ih.2 fun i hi => h i (by omega)
      have h2 := h n (by omega)
      omega
theorem worst_lt (r m : Nat → Int) (x N : Int) (hN : 0 < N) : ∀ n, (∀ i, i < n → 1 ≤ m i ∧ m i ≤ N) → worst r m x n < N
  | 0, _ => hN
  | n + 1, h => by
    have h1 := worst_lt r m x N hN n fun i hi => h i (by omega)
    have h2 := far_nn (x := x) (r := r n) (h n (by omega)).1
    have h3 := (h n (by omega)).2
    unfold worst
    omega
/-- The numbers below k that are near. -/
def nearL (W : Nat → Int) (off : Int) (k : Nat) : List Int := ((List.range k).filter fun x => decide (W x ≤ off)).map fun (x : Nat) => (x : Int)
theorem nearL_zero (W : Nat → Int) (off : Int) : nearL W off 0 = [] := rfl
theorem nearL_succ (W : Nat → Int) (off : Int) (k : Nat) : nearL W off (k + 1) = if W k ≤ off then nearL W off k ++ [(k : Int)] else nearL W off k := by
  unfold nearL
  rw [List.range_succ, List.filter_append, List.map_append]
  by_cases h : W k ≤ off <;> simp [h]
theorem nearL_len (W : Nat → Int) (off : Int) : ∀ k, (nearL W off k).length ≤ k
  | 0 => Nat.le_refl _
  | k + 1 => by
    have := nearL_len W off k
    rw [nearL_succ]
    split <;> simp <;> omega
theorem nearL_mem {W : Nat → Int} {off : Int} {k x : Nat} : (x : Int) ∈ nearL W off k ↔ x < k ∧ W x ≤ off := by
  unfold nearL
  simp
  constructor
  · rintro ⟨a, ⟨h1, h2⟩, h3⟩
    obtain rfl : a = x := by omega
    exact ⟨h1, h2⟩
  · rintro ⟨h1, h2⟩
    exact ⟨x, ⟨h1, h2⟩, rfl⟩
theorem nearL_form {W : Nat → Int} {off : Int} {k : Nat} {z : Int} (h : z ∈ nearL W off k) : ∃ x : Nat, z = x ∧ x < k ∧ W x ≤ off := by
  unfold nearL at h
  simp at h
  obtain ⟨a, ⟨h1, h2⟩, h3⟩ := h
  exact ⟨a, h3.symm, h1, h2⟩
theorem nearL_sorted (W : Nat → Int) (off : Int) (k : Nat) : (nearL W off k).Pairwise (· < ·) := by
  unfold nearL
  rw [List.pairwise_map]
  exact (List.Pairwise.filter _ List.pairwise_lt_range).imp fun h => by omega
/-- The best so far: which, and how far. -/
def bestF (W : Nat → Int) : Nat → Int × Int
  | 0 => (0, 9223372036854775807)
  | k + 1 => if W k < (bestF W k).2 then ((k : Int), W k) else bestF W k
theorem best_inv (W : Nat → Int) (hW : ∀ k, W k < 9223372036854775807) : ∀ k, 0 < k → ∃ y : Nat, (bestF W k).1 = y ∧ (bestF W k).2 = W y ∧ y < k ∧ (∀ j, j < k → W y ≤ W j) ∧ ∀ j, j < y → W y < W j
  | 0, h => by omega
  | 1, _ => by
    have h0 := hW 0
    refine ⟨0, ?_, ?_, by omega, fun j hj => ?_, fun j hj => by omega⟩
    · simp [bestF, h0]
    · simp [bestF, h0]
    · obtain rfl : j = 0 := by omega
      exact Int.le_refl _
  | k + 2, _ => by
    obtain ⟨y, h1, h2, h3, h4, h5⟩ := best_inv W hW (k + 1) (by omega)
    rw [bestF]
    by_cases h : W (k + 1) < (bestF W (k + 1)).2
    · rw [if_pos h]
      rw [h2] at h
      refine ⟨k + 1, rfl, rfl, by omega, fun j hj => ?_, fun j hj => ?_⟩
      · by_cases e : j = k + 1
        · subst e; exact Int.le_refl _
        · have := h4 j (by omega); omega
      · have := h4 j (by omega); omega
    · rw [if_neg h]
      rw [h2] at h
      refine ⟨y, h1, h2, by omega, fun j hj => ?_, h5⟩
      by_cases e : j = k + 1
      · subst e; omega
      · exact h4 j (by omega)
/-- The first of the near ones, with the best one's bound; with one less there is none. -/
theorem near_first {W : Nat → Int} {k y : Nat} (h1 : y < k) (h4 : ∀ j, j < y → W y < W j) : ∃ t, nearL W (W y) k = (y : Int) :: t := by
  have hm : (y : Int) ∈ nearL W (W y) k := nearL_mem.2 ⟨h1, Int.le_refl _⟩
  have hs := nearL_sorted W (W y) k
  cases hl : nearL W (W y) k with
  | nil => rw [hl] at hm; cases hm
  | cons a t =>
    rw [hl] at hm hs
    obtain ⟨x, rfl, hx1, hx2⟩ := nearL_form (W := W) (off := W y) (k := k) (z := a) (by rw [hl]; exact List.mem_cons_self)
    refine ⟨t, ?_⟩
    have hxy : ¬ x < y := fun h => by have := h4 x h; omega
    rcases List.mem_cons.1 hm with e | e
    · rw [e]
    · have := List.rel_of_pairwise_cons hs e
      omega
theorem near_none {W : Nat → Int} {k : Nat} {o : Int} (h : ∀ j, j < k → o < W j) : nearL W o k = [] := by
  rw [List.eq_nil_iff_forall_not_mem]
  intro z hz
  obtain ⟨x, _, h1, h2⟩ := nearL_form hz
  have := h x h1
  omega
end Go.Proofs.Ytpahjenfkgcdlab
