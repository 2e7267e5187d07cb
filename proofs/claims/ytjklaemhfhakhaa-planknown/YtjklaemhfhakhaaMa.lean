/- Tasks that come again and again: which job runs, and until when. No program. -/

namespace Go.Proofs.Ytjklaemhfhakhaa

/-- A job: its task, its release, its deadline, what is left of it, its rank. -/
structure Jb where
  task : Int
  frm : Int
  due : Int
  left : Int
  rank : Int
/-- One is ahead of another one. -/
def ahB (a b : Jb) : Bool := if a.due ≠ b.due then decide (a.due < b.due) else if a.rank ≠ b.rank then decide (b.rank < a.rank) else decide (a.task < b.task)
def noJb : Jb := ⟨0, 0, 0, 0, 0⟩
def farT : Int := 9223372036854775807
/-- What has been found among the first k jobs. -/
def runN (J : Nat → Jb) (now : Int) : Nat → Jb × Int
  | 0 => (noJb, farT)
  | k + 1 => if max (J k).frm now < (runN J now k).2 ∨ (max (J k).frm now = (runN J now k).2 ∧ ahB (J k) (runN J now k).1 = true) then (J k, max (J k).frm now) else runN J now k
/-- When a job that runs is done, or another one takes over. -/
def endN (J : Nat → Jb) (r : Jb) (to : Int) : Nat → Int
  | 0 => to
  | k + 1 => if ahB (J k) r = true then min (endN J r to k) (J k).frm else endN J r to k

theorem ahB_iff (a b : Jb) : ahB a b = true ↔ a.due < b.due ∨ (a.due = b.due ∧ (b.rank < a.rank ∨ (a.rank = b.rank ∧ a.task < b.task))) := by
  unfold ahB
  by_cases h : a.due = b.due
  · by_cases k : a.rank = b.rank
    · simp [h, k]
    · simp [h, k]
  · simp [h]
/-- The jobs that there are, each with the number of its task. -/
def Named (n : Nat) (J : Nat → Jb) : Prop := ∀ i, i < n → (J i).task = (i : Int)
/-- m is the job that runs, from f on. -/
structure Runs (n : Nat) (J : Nat → Jb) (now : Int) (m : Nat) (f : Int) : Prop where
  lt : m < n
  at' : f = max (J m).frm now
  least : ∀ i, i < n → f ≤ max (J i).frm now
  ahead : ∀ i, i < n → i ≠ m → max (J i).frm now = f → ahB (J m) (J i) = true
theorem ah_total {n : Nat} {J : Nat → Jb} (hJ : Named n J) {i j : Nat} (hi : i < n) (hj : j < n) (h : i ≠ j) : ahB (J i) (J j) = true ∨ ahB (J j) (J i) = true := by
  have e1 := hJ i hi
  have e2 := hJ j hj
  rw [ahB_iff, ahB_iff]
  omega
theorem ah_asymm {a b : Jb} (h : ahB a b = true) : ahB b a = false := by
  cases e : ahB b a
  · rfl
  · rw [ahB_iff] at h e
    omega
theorem ah_irrefl (a : Jb) : ahB a a = false := by
  cases e : ahB a a
  · rfl
  · rw [ahB_iff] at e
    omega
theorem ah_trans {a b c : Jb} (h : ahB a b = true) (k : ahB b c = true) : ahB a c = true := by
  rw [ahB_iff] at *
  omega
theorem Runs.mono {n : Nat} {J : Nat → Jb} {now : Int} {m : Nat} {f : Int} (h : Runs n J now m f) (hk : f ≤ max (J n).frm now) (ha : max (J n).frm now = f → ahB (J m) (J n) = true) : Runs (n + 1) J now m f := by
  refine ⟨by have := h.lt; omega, h.at', fun i hi => ?_, fun i hi hne e => ?_⟩
  · rcases Nat.lt_succ_iff_lt_or_eq.1 hi with h1 | rfl
    · exact h.least i h1
    · exact hk
  · rcases Nat.lt_succ_iff_lt_or_eq.1 hi with h1 | rfl
    · exact h.ahead i h1 hne e
    · exact ha e
theorem runN_ok {J : Nat → Jb} {now : Int} : ∀ n, 0 < n → Named n J → (∀ i, i < n → max (J i).frm now < farT) → ∃ m f, runN J now n = (J m, f) ∧ Runs n J now m f
  | 0, h, _, _ => by omega
  | n + 1, _, hJ, hf => by
    have hfn := hf n (by omega)
    by_cases h0 : n = 0
    · subst h0
      refine ⟨0, max (J 0).frm now, ?_, by omega, rfl, fun i hi => ?_, fun i hi hne _ => by omega⟩
      · show (if _ then _ else _) = _
        rw [if_pos (Or.inl (by show _ < farT; exact hfn))]
      · have : i = 0 := by omega
        subst this; omega
    · obtain ⟨m, f, e, hr⟩ := runN_ok (J := J) (now := now) n (by omega) (fun i hi => hJ i (by omega)) (fun i hi => hf i (by omega))
      have hm := hr.lt
      rw [runN, e]
      simp only
      by_cases hc : max (J n).frm now < f ∨ (max (J n).frm now = f ∧ ahB (J n) (J m) = true)
      · rw [if_pos hc]
        refine ⟨n, _, rfl, by omega, rfl, fun i hi => ?_, fun i hi hne e2 => ?_⟩
        · rcases Nat.lt_succ_iff_lt_or_eq.1 hi with h1 | rfl
          · have := hr.least i h1
            rcases hc with c | c <;> omega
          · omega
        · have h1 : i < n := by omega
          have h2 := hr.least i h1
          rcases hc with c | ⟨c, c2⟩
          · omega
          · by_cases q : i = m
            · subst q; exact c2
            · exact ah_trans c2 (hr.ahead i h1 q (by omega))
      · rw [if_neg hc]
        refine ⟨m, f, rfl, hr.mono (by omega) fun e2 => ?_⟩
        rcases ah_total hJ (show n < n + 1 by omega) (show m < n + 1 by omega) (by omega) with q | q
        · exact absurd (Or.inr ⟨e2, q⟩) hc
        · exact q
theorem endN_le {J : Nat → Jb} {r : Jb} {to : Int} : ∀ n, endN J r to n ≤ to
  | 0 => Int.le_refl _
  | n + 1 => by
    have := endN_le (J := J) (r := r) (to := to) n
    rw [endN]
    split <;> omega
theorem endN_at {J : Nat → Jb} {r : Jb} {to : Int} : ∀ n i, i < n → ahB (J i) r = true → endN J r to n ≤ (J i).frm
  | 0, _, h, _ => by omega
  | n + 1, i, h, ha => by
    rw [endN]
    rcases Nat.lt_succ_iff_lt_or_eq.1 h with h1 | rfl
    · have := endN_at (to := to) n i h1 ha
      split <;> omega
    · rw [if_pos ha]; omega
theorem endN_gt {J : Nat → Jb} {r : Jb} {to x : Int} (h : x < to) : ∀ n, (∀ i, i < n → ahB (J i) r = true → x < (J i).frm) → x < endN J r to n
  | 0, _ => h
  | n + 1, hi => by
    have := endN_gt h n (fun i q => hi i (by omega))
    rw [endN]
    split
    · rename_i c
      have := hi n (by omega) c
      omega
    · exact this
/-- What takes over comes later. -/
theorem Runs.later {n : Nat} {J : Nat → Jb} {now : Int} {m : Nat} {f : Int} (h : Runs n J now m f) {i : Nat} (hi : i < n) (ha : ahB (J i) (J m) = true) : f < (J i).frm := by
  by_cases e : i = m
  · subst e; rw [ah_irrefl] at ha; cases ha
  · by_cases q : max (J i).frm now = f
    · have := h.ahead i hi e q
      rw [ah_asymm this] at ha; cases ha
    · have h1 := h.least i hi
      have h2 := h.at'
      omega
end Go.Proofs.Ytjklaemhfhakhaa
