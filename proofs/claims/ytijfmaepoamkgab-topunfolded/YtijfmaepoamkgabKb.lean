/- Plots that are one thing, without the program: each falls to the first that was told and is near. -/
import Derived.Test.YtijfmaepoamkgabKa
namespace Go.Proofs.Ytijfmaepoamkgab
open Go.Fl

/-- Two floats are at most so far apart. -/
def withB (x y m : Nat) : Bool := ltF ((bin .sub (ab x) (ab y)).map abs) (ab m) || eqF ((bin .sub (ab x) (ab y)).map abs) (ab m)
/-- A plot is near one that was told. -/
def nearB (m s : Nat) (p q : Plt) : Bool := withB p.r q.r m && withB p.s q.s s
/-- One plot more. -/
def stepM (P : Nat → Plt) (m s : Nat) : List (Nat × Option Nat) → Nat → List (Nat × Option Nat)
  | [], k => [(k, ab (P k).p)]
  | (j, v) :: T, k => if nearB m s (P k) (P j) = true then (j, bin .add v (ab (P k).p)) :: T else (j, v) :: stepM P m s T k
def mg (P : Nat → Plt) (m s : Nat) (o : List Nat) : List (Nat × Option Nat) := o.foldl (stepM P m s) []
theorem stepM_none {P : Nat → Plt} {m s k : Nat} : ∀ {T : List (Nat × Option Nat)}, (∀ i, i < T.length → nearB m s (P k) (P (T[i]!).1) = false) → stepM P m s T k = T ++ [(k, ab (P k).p)]
  | [], _ => rfl
  | (j, v) :: T, h => by
    unfold stepM
    have h0 := h 0 (by simp)
    simp at h0
    rw [if_neg (by simp [h0]), stepM_none (T := T) (fun i hi => by have := h (i + 1) (by simpa using hi); simpa using this)]
    rfl
theorem stepM_some {P : Nat → Plt} {m s k : Nat} : ∀ {T : List (Nat × Option Nat)} {t : Nat}, t < T.length → nearB m s (P k) (P (T[t]!).1) = true → (∀ i, i < t → nearB m s (P k) (P (T[i]!).1) = false) → stepM P m s T k = T.set t ((T[t]!).1, bin .add (T[t]!).2 (ab (P k).p))
  | [], t, h, _, _ => by simp at h
  | (j, v) :: T, 0, _, h, _ => by
    unfold stepM
    simp at h
    rw [if_pos h]
    simp
  | (j, v) :: T, t + 1, hl, h, hb => by
    unfold stepM
    have h0 := hb 0 (by omega)
    simp at h0
    rw [if_neg (by simp [h0]), stepM_some (T := T) (t := t) (by simpa using hl) (by simpa using h) (fun i hi => by have := hb (i + 1) (by omega); simpa using this)]
    simp
/-- Powers added from the left. -/
def addAll (P : Nat → Plt) (v : Option Nat) (l : List Nat) : Option Nat := l.foldl (fun v k => bin .add v (ab (P k).p)) v
theorem fold_cons (P : Nat → Plt) (m s : Nat) (a : Nat) : ∀ (l : List Nat) (v : Option Nat) (T : List (Nat × Option Nat)), l.foldl (stepM P m s) ((a, v) :: T) = (a, addAll P v (l.filter fun k => nearB m s (P k) (P a))) :: (l.filter fun k => !nearB m s (P k) (P a)).foldl (stepM P m s) T
  | [], v, T => rfl
  | k :: l, v, T => by
    rw [List.foldl_cons]
    unfold stepM
    by_cases h : nearB m s (P k) (P a) = true
    · rw [if_pos h, fold_cons P m s a l]
      simp [h, addAll]
    · rw [if_neg h, fold_cons P m s a l]
      simp [h]
/-- The first one takes all that are near it; the others are left. -/
theorem mg_cons (P : Nat → Plt) (m s : Nat) (a : Nat) (l : List Nat) : mg P m s (a :: l) = (a, addAll P (ab (P a).p) (l.filter fun k => nearB m s (P k) (P a))) :: mg P m s (l.filter fun k => !nearB m s (P k) (P a)) := by
  unfold mg
  rw [List.foldl_cons]
  exact fold_cons P m s a l _ []
theorem stepM_len (P : Nat → Plt) (m s k : Nat) : ∀ T, (stepM P m s T k).length ≤ T.length + 1 ∧ T.length ≤ (stepM P m s T k).length
  | [] => by simp [stepM]
  | (j, v) :: T => by
    unfold stepM
    have := stepM_len P m s k T
    split
    · simp
    · simp; omega
theorem fold_len (P : Nat → Plt) (m s : Nat) : ∀ (o : List Nat) T, (o.foldl (stepM P m s) T).length ≤ T.length + o.length ∧ T.length ≤ (o.foldl (stepM P m s) T).length
  | [], T => by simp
  | k :: o, T => by
    have h := fold_len P m s o (stepM P m s T k)
    have h2 := stepM_len P m s k T
    rw [List.foldl_cons]
    simp
    omega
theorem mg_len (P : Nat → Plt) (m s : Nat) (o : List Nat) : (mg P m s o).length ≤ o.length := by
  have := (fold_len P m s o []).1
  simpa [mg] using this
theorem mg_snoc (P : Nat → Plt) (m s : Nat) (o : List Nat) (k : Nat) : mg P m s (o ++ [k]) = stepM P m s (mg P m s o) k := by
  unfold mg
  rw [List.foldl_append]
  rfl
theorem mg_some (P : Nat → Plt) (m s : Nat) (o : List Nat) (h : 0 < o.length) : 0 < (mg P m s o).length := by
  cases o with
  | nil => simp at h
  | cons a l => rw [mg_cons]; simp
/-- Who was told is among those that came. -/
theorem stepM_mem {P : Nat → Plt} {m s k : Nat} : ∀ {T : List (Nat × Option Nat)} {x}, x ∈ stepM P m s T k → x.1 = k ∨ x.1 ∈ T.map (·.1)
  | [], x, h => by simp [stepM] at h; simp [h]
  | (j, v) :: T, x, h => by
    unfold stepM at h
    split at h
    · simp at h
      rcases h with rfl | h
      · simp
      · right; simp; right; exact ⟨_, h⟩
    · simp at h
      rcases h with rfl | h
      · simp
      · rcases stepM_mem h with e | e
        · exact Or.inl e
        · right; simp at e ⊢; right; exact e
theorem mg_mem {P : Nat → Plt} {m s : Nat} {o : List Nat} : ∀ {x}, x ∈ mg P m s o → x.1 ∈ o := by
  have key : ∀ (n : Nat) (o : List Nat), o.length = n → ∀ x, x ∈ mg P m s o → x.1 ∈ o := by
    intro n
    induction n using Nat.strongRecOn with
    | ind n ih =>
      intro o ho x hx
      cases o with
      | nil => simp [mg] at hx
      | cons a l =>
        rw [mg_cons] at hx
        simp at hx
        rcases hx with rfl | hx
        · simp
        · have hl := List.length_filter_le (fun k => !nearB m s (P k) (P a)) l
          have := ih _ (by simp at ho; omega) _ rfl x hx
          have := (List.mem_filter.1 this).1
          simp [this]
  exact fun {x} hx => key _ o rfl x hx
/-- Of plots none of which is near another one just these are told. -/
theorem mg_apart {P : Nat → Plt} {m s : Nat} : ∀ {o : List Nat}, o.Pairwise (fun a k => nearB m s (P k) (P a) = false) → mg P m s o = o.map fun k => (k, ab (P k).p)
  | [], _ => rfl
  | a :: l, h => by
    rw [List.pairwise_cons] at h
    have e1 : (l.filter fun k => nearB m s (P k) (P a)) = [] := List.filter_eq_nil_iff.2 fun k hk => by simp [h.1 k hk]
    have e2 : (l.filter fun k => !nearB m s (P k) (P a)) = l := List.filter_eq_self.2 fun k hk => by simp [h.1 k hk]
    rw [mg_cons, e1, e2, mg_apart h.2]
    rfl
end Go.Proofs.Ytijfmaepoamkgab
