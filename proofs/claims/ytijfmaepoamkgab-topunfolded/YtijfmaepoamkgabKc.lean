/- Folded ranges, without the program: the numbers that are near a cell of each beat. -/
import Derived.Test.YtijfmaepoamkgabEa
namespace Go.Proofs.Ytijfmaepoamkgab

/-- A number is near one of the cells. -/
def anyB (off E : Int) (C : List Int) (x : Int) : Bool := C.any fun c => decide (far x c E ≤ off)
/-- .. of each of n beats. -/
def allB (off : Int) (E : Nat → Int) (C : Nat → List Int) (x : Int) : Nat → Bool
  | 0 => true
  | n + 1 => allB off E C x n && anyB off (E n) (C n) x
def wB (off : Int) (E : Nat → Int) (C : Nat → List Int) (n : Nat) (x : Nat) : Int := if allB off E C x n = true then 0 else 1
/-- The numbers below k that are told. -/
def resL (off : Int) (E : Nat → Int) (C : Nat → List Int) (n k : Nat) : List Int := nearL (wB off E C n) 0 k
theorem wB_le {off : Int} {E : Nat → Int} {C : Nat → List Int} {n x : Nat} : wB off E C n x ≤ 0 ↔ allB off E C x n = true := by
  unfold wB
  split <;> simp_all
theorem allB_iff {off : Int} {E : Nat → Int} {C : Nat → List Int} {x : Int} : ∀ {n}, allB off E C x n = true ↔ ∀ i, i < n → anyB off (E i) (C i) x = true
  | 0 => by simp [allB]
  | n + 1 => by
    unfold allB
    rw [Bool.and_eq_true, allB_iff]
    constructor
    · intro ⟨h1, h2⟩ i hi
      by_cases e : i = n
      · subst e; exact h2
      · exact h1 i (by omega)
    · intro h
      exact ⟨fun i hi => h i (by omega), h n (by omega)⟩
theorem allB_false {off : Int} {E : Nat → Int} {C : Nat → List Int} {x : Int} {n i : Nat} (hi : i < n) (h : anyB off (E i) (C i) x = false) : allB off E C x n = false := by
  cases e : allB off E C x n
  · rfl
  · have := allB_iff.1 e i hi
    rw [h] at this
    cases this
theorem allB_congr {off : Int} {E E' : Nat → Int} {C : Nat → List Int} {x : Int} : ∀ {n}, (∀ i, i < n → E i = E' i) → allB off E C x n = allB off E' C x n
  | 0, _ => rfl
  | n + 1, h => by
    unfold allB
    rw [allB_congr (fun i hi => h i (by omega)), h n (by omega)]
theorem resL_yes {off : Int} {E : Nat → Int} {C : Nat → List Int} {n k : Nat} (h : allB off E C k n = true) : resL off E C n (k + 1) = resL off E C n k ++ [(k : Int)] := by
  unfold resL
  rw [nearL_succ, if_pos (wB_le.2 h)]
theorem resL_no {off : Int} {E : Nat → Int} {C : Nat → List Int} {n k : Nat} (h : allB off E C k n = false) : resL off E C n (k + 1) = resL off E C n k := by
  unfold resL
  rw [nearL_succ, if_neg (fun e => by rw [wB_le, h] at e; cases e)]
theorem resL_len (off : Int) (E : Nat → Int) (C : Nat → List Int) (n k : Nat) : (resL off E C n k).length ≤ k := nearL_len _ _ _
theorem resL_mono (off : Int) (E : Nat → Int) (C : Nat → List Int) (n : Nat) {a : Nat} : ∀ b, (resL off E C n a).length ≤ (resL off E C n (a + b)).length
  | 0 => Nat.le_refl _
  | b + 1 => by
    have := resL_mono off E C n (a := a) b
    rw [← Nat.add_assoc]
    cases e : allB off E C ((a + b : Nat) : Int) n
    · rw [resL_no e]; exact this
    · rw [resL_yes e]; simp; omega
theorem far_mod {x c m : Int} : far (x % m) c m = far x c m := by
  unfold far
  rw [show (x % m - c) % m = (x - c) % m by rw [Int.emod_sub_emod], show (c - x % m) % m = (c - x) % m by rw [Int.sub_emod, Int.emod_emod, ← Int.sub_emod]]
theorem anyB_mod {off E : Int} {C : List Int} {x : Int} : anyB off E C (x % E) = anyB off E C x := by
  unfold anyB
  simp only [far_mod]
theorem anyB_snoc {off E : Int} {C : List Int} {x c : Int} : anyB off E (C ++ [c]) x = (anyB off E C x || decide (far x c E ≤ off)) := by
  unfold anyB
  simp
/-- The first error of what stands in a row. -/
def firstE (c : Nat → Int) : Nat → Int
  | 0 => 0
  | n + 1 => if firstE c n ≠ 0 then firstE c n else c n
theorem firstE_ok {c : Nat → Int} : ∀ {n}, (∀ i, i < n → c i = 0) → firstE c n = 0
  | 0, _ => rfl
  | n + 1, h => by
    unfold firstE
    rw [firstE_ok (fun i hi => h i (by omega)), if_neg (by simp)]
    exact h n (by omega)
theorem firstE_all {c : Nat → Int} : ∀ {n}, firstE c n = 0 → ∀ i, i < n → c i = 0
  | 0, _, i, hi => by omega
  | n + 1, h, i, hi => by
    unfold firstE at h
    split at h
    · contradiction
    · rename_i h0
      have h0 : firstE c n = 0 := by simpa using h0
      by_cases e : i = n
      · subst e; exact h
      · exact firstE_all h0 i (by omega)
theorem firstE_at {c : Nat → Int} {i : Nat} (h0 : firstE c i = 0) (h : c i ≠ 0) : ∀ n, i < n → firstE c n = c i
  | 0, hn => by omega
  | n + 1, hn => by
    unfold firstE
    by_cases e : i = n
    · subst e
      rw [if_neg (by simp [h0])]
    · rw [firstE_at h0 h n (by omega), if_pos h]
theorem firstE_next {c : Nat → Int} {i : Nat} (h0 : firstE c i = 0) (h : c i = 0) : firstE c (i + 1) = 0 := by
  unfold firstE
  rw [if_neg (by simp [h0]), h]
/-- One of the lists is too long. -/
def longB (L : Nat → Nat) : Nat → Bool
  | 0 => false
  | n + 1 => longB L n || decide (256 < L n)
theorem longB_false {L : Nat → Nat} : ∀ {n}, longB L n = false → ∀ i, i < n → L i ≤ 256
  | 0, _, i, hi => by omega
  | n + 1, h, i, hi => by
    unfold longB at h
    simp at h
    by_cases e : i = n
    · subst e; exact h.2
    · exact longB_false h.1 i (by omega)
theorem longB_at {L : Nat → Nat} {i : Nat} (h : 256 < L i) : ∀ n, i < n → longB L n = true
  | 0, hn => by omega
  | n + 1, hn => by
    unfold longB
    by_cases e : i = n
    · subst e; simp [h]
    · simp [longB_at h n (by omega)]
theorem longB_next {L : Nat → Nat} {i : Nat} (h0 : longB L i = false) (h : L i ≤ 256) : longB L (i + 1) = false := by
  unfold longB
  simp [h0]
  exact h
/-- The error of what Resolve is handed. -/
def refC (code : Nat → Int) (L : Nat → Nat) (n : Nat) (off most : Int) : Int :=
  if 8 < n then 3 else if longB L n = true then 3 else if firstE code n ≠ 0 then firstE code n else if off < 0 ∨ most < 0 then 2 else if 1048576 < most then 3 else 0
theorem refC_ok {code : Nat → Int} {L : Nat → Nat} {n : Nat} {off most : Int} (h : refC code L n off most = 0) : n ≤ 8 ∧ (∀ i, i < n → L i ≤ 256) ∧ (∀ i, i < n → code i = 0) ∧ 0 ≤ off ∧ 0 ≤ most ∧ most ≤ 1048576 := by
  unfold refC at h
  repeat' split at h
  all_goals first | (exfalso; omega) | skip
  rename_i h1 h2 h3 h4 h5
  exact ⟨by omega, longB_false (by simpa using h2), firstE_all (by simpa using h3), by omega, by omega, by omega⟩
/-- .. of what it answers. -/
def resC (code : Nat → Int) (E : Nat → Int) (C : Nat → List Int) (n : Nat) (off most : Int) : Int :=
  if refC code (fun i => (C i).length) n off most ≠ 0 then refC code (fun i => (C i).length) n off most else if 65536 < (resL off E C n most.toNat).length then 3 else 0
end Go.Proofs.Ytijfmaepoamkgab
