/- Folded cells come out: the numbers, without the program. -/
import Derived.Test.YtijfmaepoamkgabEf
import Derived.Test.YtijfmaepoamkgabKc
namespace Go.Proofs.Ytijfmaepoamkgab

/-- Join of remainders of one number ends well, or is too large. -/
theorem join_fit (r m : Nat → Int) (X : Int) : ∀ i, (∀ j, j < i → 1 ≤ m j ∧ m j ≤ 1099511627776) → (∀ j, j < i → m j ∣ X - r j) → (∃ all, joinF r m i = (X % all, all, 0) ∧ JI r m i (X % all) all) ∨ joinF r m i = (0, 0, 3)
  | 0, _, _ => Or.inl ⟨1, by simp [joinF], by rw [Int.emod_one]; exact JI.zero r m⟩
  | i + 1, hm, hX => by
    rcases join_fit r m X i (fun j hj => hm j (by omega)) (fun j hj => hX j (by omega)) with ⟨a, he, hj⟩ | h
    · have hn := join_none r m X (i + 1) hX
      have h1 := joinF_next r m i (by rw [he]) (hm i (by omega))
      have hinv := join_inv r m (i + 1)
      rw [he] at h1
      unfold stepF at h1
      simp only at h1
      split at h1
      · exact absurd (by rw [h1]) hn
      · split at h1
        · exact Or.inr h1
        · obtain ⟨hJ, _⟩ := hinv _ _ h1
          have hu := hJ.uniq hX
          refine Or.inl ⟨_, by rw [h1, hu], by rw [hu]; exact hJ⟩
    · refine Or.inr ?_
      rw [joinF, if_pos (by rw [h]; decide), h]
theorem far_zero {x r m : Int} (hm : 1 ≤ m) (h : far x r m ≤ 0) : m ∣ x - r := by
  have h1 := Int.emod_nonneg (x - r) (show m ≠ 0 by omega)
  have h2 := Int.emod_lt_of_pos (x - r) (show 0 < m by omega)
  rw [← far_min hm] at h
  exact Int.dvd_of_emod_eq_zero (by omega)
theorem zero_far {x r m : Int} (hm : 1 ≤ m) (h : m ∣ x - r) : far x r m ≤ 0 := by
  rw [← far_min hm, Int.emod_eq_zero_of_dvd h]
  omega
theorem only_one {L : List Int} {x : Int} (hs : L.Pairwise (· < ·)) (hx : x ∈ L) (ho : ∀ z, z ∈ L → z = x) : L = [x] := by
  cases L with
  | nil => cases hx
  | cons a t =>
    have ha := ho a (by simp)
    subst ha
    cases t with
    | nil => rfl
    | cons b t =>
      have hb := ho b (by simp)
      have := (List.pairwise_cons.1 hs).1 b (by simp)
      omega
theorem near_one {r m : Nat → Int} {k X : Nat} {all : Int} (h : JI r m k ((X : Int) % all) all) (hX : ∀ j, j < k → m j ∣ (X : Int) - r j) (h1 : (X : Int) < all) (h2 : 65536 ≤ all) (h3 : X < 65536) : nearL (fun (x : Nat) => worst r m x k) 0 65536 = [(X : Int)] := by
  refine only_one (nearL_sorted _ _ _) ?_ ?_
  · rw [nearL_mem]
    exact ⟨h3, (worst_le r m X 0 (by omega) k).2 fun i hi => zero_far (h.pos i hi) (hX i hi)⟩
  · intro z hz
    obtain ⟨j, rfl, hj, hw⟩ := nearL_form hz
    have hd := (worst_le r m j 0 (by omega) k).1 hw
    have hu := h.uniq (X := (j : Int)) fun i hi => far_zero (h.pos i hi) (hd i hi)
    rw [Int.emod_eq_of_lt (by omega) (by omega), Int.emod_eq_of_lt (by omega) (by omega)] at hu
    exact hu

/-- What the law makes of its numbers: the beats' lengths, the errors, the cells. -/
def vE (ev : List Int) (i : Nat) : Int := ev[i]! % 1000 + 1
def vM (mo : List Int) (off : Int) (i : Nat) : Int := if i < mo.length then mo[i]! % (2 * off + 1) - off else 0
def vC (ev mo ot : List Int) (off x : Int) (i : Nat) : List Int := [x % vE ev i + vM mo off i] ++ if i < ot.length then [ot[i]! % 1000 + 1] else []
theorem vE_in (ev : List Int) (i : Nat) : 1 ≤ vE ev i ∧ vE ev i ≤ 1000 := by
  unfold vE
  have h1 := Int.emod_nonneg ev[i]! (show (1000 : Int) ≠ 0 by omega)
  have h2 := Int.emod_lt_of_pos ev[i]! (show (0 : Int) < 1000 by omega)
  omega
theorem vM_in (mo : List Int) {off : Int} (h : 0 ≤ off) (i : Nat) : -off ≤ vM mo off i ∧ vM mo off i ≤ off := by
  unfold vM
  split
  · have h1 := Int.emod_nonneg mo[i]! (show 2 * off + 1 ≠ 0 by omega)
    have h2 := Int.emod_lt_of_pos mo[i]! (show (0 : Int) < 2 * off + 1 by omega)
    omega
  · omega
theorem vC_len (ev mo ot : List Int) (off x : Int) (i : Nat) : (vC ev mo ot off x i).length ≤ 2 := by
  unfold vC
  split <;> simp
theorem far_near {x v m off : Int} (hm : 1 ≤ m) (h : -off ≤ v ∧ v ≤ off) : far x (x % m + v) m ≤ off := by
  have e : far x (x % m + v) m = far x (x + v) m := by
    unfold far
    rw [show (x - (x % m + v)) % m = (x - (x + v)) % m by
      rw [show x - (x % m + v) = (x - v) - x % m by omega, show x - (x + v) = (x - v) - x by omega, Int.sub_emod, Int.emod_emod, ← Int.sub_emod], show (x % m + v - x) % m = (x + v - x) % m by
      rw [show x % m + v - x = x % m + (v - x) by omega, show x + v - x = x + (v - x) by omega, Int.emod_add_emod]]
  rw [e]
  exact far_moved hm h
theorem v_in {ev mo ot : List Int} {off x : Int} (h0 : 0 ≤ off) (n : Nat) : allB off (vE ev) (vC ev mo ot off x) x n = true := by
  apply allB_iff.2
  intro i _
  unfold anyB vC
  rw [List.any_append]
  have : far x (x % vE ev i + vM mo off i) (vE ev i) ≤ off := far_near (vE_in ev i).1 (vM_in mo h0 i)
  simp [this]
theorem v_ok {ev mo ot : List Int} {off x : Int} (h0 : 0 ≤ off) {n : Nat} (hn : n ≤ 8) {code : Nat → Int} (hc : ∀ i, code i = 0) : resC code (vE ev) (vC ev mo ot off x) n off 65536 = 0 := by
  have hr : refC code (fun i => (vC ev mo ot off x i).length) n off 65536 = 0 := by
    unfold refC
    have hl : longB (fun i => (vC ev mo ot off x i).length) n = false := by
      have : ∀ m, longB (fun i => (vC ev mo ot off x i).length) m = false := fun m => by
        induction m with
        | zero => rfl
        | succ m ih =>
          refine longB_next ih ?_
          have := vC_len ev mo ot off x m
          omega
      exact this n
    have hf : firstE code n = 0 := firstE_ok fun i _ => hc i
    rw [if_neg (by omega), hl, if_neg (by simp), hf, if_neg (by simp), if_neg (by omega), if_neg (by omega)]
  unfold resC
  rw [hr, if_neg (by simp), if_neg]
  have := resL_len off (vE ev) (vC ev mo ot off x) n (65536 : Int).toNat
  have e : (65536 : Int).toNat = 65536 := rfl
  omega
theorem v_has {ev mo ot : List Int} {off : Int} {x : Nat} (h0 : 0 ≤ off) {n : Nat} (hx : x < 65536) : (x : Int) ∈ resL off (vE ev) (vC ev mo ot off x) n 65536 := by
  unfold resL
  rw [nearL_mem]
  exact ⟨hx, wB_le.2 (v_in h0 n)⟩
theorem res_at {off : Int} {E : Nat → Int} {C : Nat → List Int} {n m k : Nat} (hk : k < (resL off E C n m).length) : 0 ≤ (resL off E C n m)[k]! ∧ (resL off E C n m)[k]! < m := by
  have hm : (resL off E C n m)[k]! ∈ resL off E C n m := by rw [getElem!_pos _ k hk]; exact List.getElem_mem hk
  obtain ⟨x, hx, h1, _⟩ := nearL_form hm
  rw [hx]
  omega
theorem res_rise {off : Int} {E : Nat → Int} {C : Nat → List Int} {n m k : Nat} (hk : k + 1 < (resL off E C n m).length) : (resL off E C n m)[k]! < (resL off E C n m)[k + 1]! := by
  have := nearL_sorted (wB off E C n) 0 m
  have h2 := List.pairwise_iff_getElem.1 this k (k + 1) (by unfold resL at hk; omega) hk (by omega)
  rw [getElem!_pos _ k (by omega), getElem!_pos _ (k + 1) hk]
  exact h2
/-- What Join and Near tell of the remainders. -/
theorem v_join (ev : List Int) (x : Nat) (n : Nat) : (∃ all, joinF (fun i => (x : Int) % vE ev i) (vE ev) n = ((x : Int) % all, all, 0) ∧ 1 ≤ all ∧ ((x : Int) < all → 65536 ≤ all → x < 65536 → nearL (fun (y : Nat) => worst (fun i => (x : Int) % vE ev i) (vE ev) y n) 0 65536 = [(x : Int)])) ∨ joinF (fun i => (x : Int) % vE ev i) (vE ev) n = (0, 0, 3) := by
  have hd : ∀ j, j < n → vE ev j ∣ (x : Int) - (fun i => (x : Int) % vE ev i) j := fun j _ => by
    have := Int.emod_def (x : Int) (vE ev j)
    exact ⟨(x : Int) / vE ev j, by simp only; omega⟩
  rcases join_fit (fun i => (x : Int) % vE ev i) (vE ev) x n (fun j _ => by have := vE_in ev j; omega) hd with ⟨all, he, hj⟩ | h
  · exact Or.inl ⟨all, he, hj.one, fun h1 h2 h3 => near_one hj hd h1 h2 h3⟩
  · exact Or.inr h
end Go.Proofs.Ytijfmaepoamkgab
