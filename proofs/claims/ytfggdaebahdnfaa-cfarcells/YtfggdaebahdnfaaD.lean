/- The reference's sort: by halves, merged. -/
import Derived.Test.YtfggdaebahdnfaaC
namespace Go.Proofs.Ytfggdaebahdnfaa
open Go.ChangeShapes Go.WideShapes Go.ChangeAt Go.RowKit Go.Fl Go.Sort
attribute [local go_sem] run_store_float call35 call46 run_neg fold_eq fold_ne fold_lt fold_gt abs_eq

def lek (x y : Nat) : Bool := decide (key x ≤ key y)
def mg (l m : List Nat) : List Nat := l.merge m lek
theorem mg_left {A B : Array Nat} {i k : Nat} (hi : i < A.size) (hk : k < B.size) (h : key A[i]! ≤ key B[k]!) : mg (A.toList.drop i) (B.toList.drop k) = A[i]! :: mg (A.toList.drop (i + 1)) (B.toList.drop k) := by
  rw [getElem!_pos A i hi] at h ⊢
  rw [getElem!_pos B k hk] at h
  have e1 : A.toList.drop i = A[i] :: A.toList.drop (i + 1) := by rw [List.drop_eq_getElem_cons (by simpa using hi)]; simp
  have e2 : B.toList.drop k = B[k] :: B.toList.drop (k + 1) := by rw [List.drop_eq_getElem_cons (by simpa using hk)]; simp
  rw [e1, e2]
  unfold mg
  rw [List.cons_merge_cons, if_pos (by simp [lek, h])]
theorem mg_right {A B : Array Nat} {i k : Nat} (hk : k < B.size) (h : A.size ≤ i ∨ key B[k]! < key A[i]!) : mg (A.toList.drop i) (B.toList.drop k) = B[k]! :: mg (A.toList.drop i) (B.toList.drop (k + 1)) := by
  have e2 : B.toList.drop k = B[k]! :: B.toList.drop (k + 1) := by rw [List.drop_eq_getElem_cons (by simpa using hk), getElem!_pos B k hk]; simp
  rw [e2]
  rcases Nat.lt_or_ge i A.size with hi | hi
  · have h : key B[k]! < key A[i]! := by rcases h with h | h
                                         · omega
                                         · exact h
    have e1 : A.toList.drop i = A[i]! :: A.toList.drop (i + 1) := by rw [List.drop_eq_getElem_cons (by simpa using hi), getElem!_pos A i hi]; simp
    rw [e1]
    unfold mg
    rw [List.cons_merge_cons, if_neg (by simp [lek]; omega)]
  · rw [List.drop_eq_nil_of_le (by simpa using hi)]
    simp [mg]
theorem cmpK_le (x y : Nat) : cmpK x y ≤ 0 ↔ key x ≤ key y := by
  unfold cmpK
  split
  · simp; omega
  · split <;> simp <;> omega
theorem mg_perm (l m : List Nat) : (mg l m).Perm (l ++ m) := List.merge_perm_append ..
theorem mg_pair {l m : List Nat} (h1 : l.Pairwise fun x y => key x ≤ key y) (h2 : m.Pairwise fun x y => key x ≤ key y) : (mg l m).Pairwise fun x y => key x ≤ key y := by
  have h := List.pairwise_merge (le := lek) (fun a b c h1 h2 => by simp only [lek, decide_eq_true_eq] at *; omega) (fun a b => by simp only [lek, Bool.or_eq_true, decide_eq_true_eq]; omega) l m (h1.imp fun h => by simpa [lek] using h) (h2.imp fun h => by simpa [lek] using h)
  exact h.imp fun h => by simpa [lek] using h

/-- What a call of the reference's sort leaves. -/
def SortR (w : World) (d : Array Nat) (e : Ending) (w' : World) : Prop := ∃ v d', e = .returned v ∧ Hid (Own w.heap.size w' v d') ∧ Hid (Up w w') ∧ Hid (d'.toList.Perm d.toList ∧ d'.toList.Pairwise fun x y => key x ≤ key y)
def Srt (n : Nat) : Prop := ∀ (blk off cap : Nat) (d : Array Nat) (w : World), Reads w blk off d → Fit d → 0 < d.size → d.size ≤ cap → d.size ≤ n → d.size * 8 ≤ 140737488355328 → Calls Try.prog 64 #[.slice (some ⟨blk, off, none⟩) d.size cap] w (SortR w d)
set_option maxHeartbeats 1000000 in
theorem t64one (blk off cap : Nat) (d : Array Nat) (w : World) (hR : Reads w blk off d) (hp : d.size = 1) :
    Calls Try.prog 64 #[.slice (some ⟨blk, off, none⟩) d.size cap] w (SortR w d) := by
  obtain ⟨i0, hi, hz0, hz1, hz2⟩ := info_parts info23
  have HR : Hid (Reads w blk off d) := hR
  clear hR
  have hown : (w.alloc (.cells #[] 24)).ownsRow w.heap.size 24 1 (.slice (some ⟨w.heap.size, 0, none⟩) 0 0) 0 [] := own_empty w
  have hlen : d.toList.length = 1 := by simpa using hp
  rw [hp]
  go_enter Try.func64, Try.ntmps64
  go_wp2_with (at_builtin; refine wpList_append_own _ rfl _ _ 22 rfl w.heap.size 24 i0 (.float .f64 0) 1 8 Try.underlying22 hi hz0 hz1 hz2 rfl (by decide) _ _ _ rfl hown ⟨blk, off, none⟩ 1 cap (d.toList.map fe) rfl (by simp [hp]) (reads_news (HR.out.up (Up.alloc _ _))) (one_cells _) (by unfold maxLen; omega) (by omega) (by simp) ?_)
  intro v' w1 hown' hgrow _
  have O : Hid (Own w.heap.size w1 v' d) := own_of (by omega) (by rw [hp]; simpa using hown')
  have U : Hid (Up w w1) := RowKit.Below.grown ((Below.refl _ _).alloc (Nat.le_refl _) _) hgrow (by simp) (fun k hk => by simp [Value.ownBlock] at hk; omega)
  clear hown' hgrow hown
  go_wp2
  go_ret
  refine ⟨_, d, rfl, O, U, List.Perm.refl _, ?_⟩
  obtain ⟨x, hx⟩ := List.length_eq_one_iff.1 hlen
  rw [hx]
  simp
end Go.Proofs.Ytfggdaebahdnfaa
