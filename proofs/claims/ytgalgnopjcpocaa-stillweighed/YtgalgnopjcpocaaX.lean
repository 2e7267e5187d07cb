/- Fast. -/
import Derived.Test.YtgalgnopjcpocaaW
import Derived.Laws.BitsLemmas
namespace Go.Proofs.Ytgalgnopjcpocaa
open Go.ChangeShapes Go.WideShapes Go.ChangeAt Go.RowKit Go.Fl Ieee
attribute [local go_sem] run_store_float run_store_complex call20 call33 run_neg fold_eq fold_ne fold_lt fold_gt abs_eq

/-- A power of two? -/
def powB (n : Nat) : Bool := decide (0 < n) && (n &&& (n - 1)) == 0
theorem powB_two (M : Nat) : powB (2 ^ M) = true := by
  have h : 0 < 2 ^ M := Nat.pow_pos (by omega)
  unfold powB
  rw [Nat.and_two_pow_sub_one_eq_mod, Nat.mod_self]
  simp [h]
theorem wraps_i64_62 : ∀ n : Int, 0 ≤ n → n < 2 ^ 62 → IntKind.i64.wrap n = n := fun n h1 h2 => i64_id (by omega)
theorem and_pred (n : Nat) (hn : n < 4611686018427387904) (hp : 0 < n) : bits .and .i64 (n : Int) ((n : Int) - 1) = ((n &&& (n - 1) : Nat) : Int) := by
  have h := (bits_nat .i64 62 (by decide) wraps_i64_62 n (n - 1) (by omega) (by omega)).1
  rwa [show ((n - 1 : Nat) : Int) = (n : Int) - 1 by omega] at h
/-- The unit for j of 2^m, there or back, the whole having 2^M samples. -/
def uOf (back : Bool) (M j m : Nat) : C2 := unitF (wayOf back) (2 ^ M) (j * (2 ^ M / 2 ^ m))
theorem hv_congr {U V : Nat → Nat → C2} : ∀ (m : Nat) (F : Nat → C2) (j : Nat), (∀ k, k < m → ∀ j, j < 2 ^ k → U j (k + 1) = V j (k + 1)) → j < 2 ^ m → hv U m F j = hv V m F j
  | 0, _, _, _, _ => rfl
  | m + 1, F, j, h, hj => by
    have h' : ∀ k, k < m → ∀ j, j < 2 ^ k → U j (k + 1) = V j (k + 1) := fun k hk => h k (by omega)
    have e : 2 ^ (m + 1) = 2 ^ m + 2 ^ m := by rw [Nat.pow_succ]; omega
    rw [hv, hv]
    split
    · rename_i hlt
      rw [hv_congr m _ j h' hlt, hv_congr m _ j h' hlt, h m (by omega) j hlt]
    · rw [hv_congr m _ (j - 2 ^ m) h' (by omega), hv_congr m _ (j - 2 ^ m) h' (by omega), h m (by omega) (j - 2 ^ m) (by omega)]
/-- What Fast tells of 2^M samples. -/
def fastL (back : Bool) (M : Nat) (F : Nat → C2) : List C2 := if back then ((List.range (2 ^ M)).map (hv (uOf back M) M F)).map (divF (2 ^ M)) else (List.range (2 ^ M)).map (hv (uOf back M) M F)
theorem fast_row {n M : Nat} {back : Bool} {d : List (Nat × Nat)} {F : Nat → C2} {fu : Nat → Nat × Nat} (hn : n = 2 ^ M) (hd : d.length = n) (h : ∀ i, i < n → ab2 d[0 + i]! = hv (uAt fu M) M F i) (hu : ∀ j, j < 2 ^ M / 2 → ab2 (fu j) = unitF (wayOf back) (2 ^ M) j) :
    d.map ab2 = (List.range (2 ^ M)).map (hv (uOf back M) M F) := by
  subst hn
  refine List.ext_getElem? fun i => ?_
  by_cases hi : i < 2 ^ M
  · rw [ab2_at (by omega)]
    have := h i hi
    rw [Nat.zero_add] at this
    rw [this, List.getElem?_map, List.getElem?_range hi, hv_congr (V := uOf back M) M F i (fun k hk j hj => hu _ (uAt_lt (by omega) hj)) hi]; rfl
  · rw [List.getElem?_eq_none (by simp; omega), List.getElem?_eq_none (by simp; omega)]
theorem CRow.made {w w1 : World} {n g : Nat} (hg : w.heap.size = g) (hown : w1.ownsRow w.heap.size 53 1 (.slice (some ⟨w.heap.size, 0, none⟩) n n) n (madeCells (Value.complex .f64 0 0).cells (n * 1)).toList) (hgr : w.grownBy w1 none) : CRow g w1 (.slice (some ⟨g, 0, none⟩) n n) (List.replicate n (0, 0)) ∧ Up w w1 := by
  subst hg
  refine ⟨?_, Below.grown (Below.refl _ _) hgr (Nat.le_refl _) (fun j hj => by cases hj)⟩
  unfold CRow
  have e : (madeCells (Value.complex .f64 0 0).cells (n * 1)).toList = List.replicate n (.complex .f64 0 0) := by
    rw [Nat.mul_one]; exact toList_madeCells_one _ _
  rw [e] at hown
  simpa [ce] using hown
end Go.Proofs.Ytgalgnopjcpocaa
