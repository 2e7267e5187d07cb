/- What bear leaves: no program. -/
import Derived.Test.YtdajgnchgealhaaMa
namespace Go.Proofs.Ytdajgnchgealhaa
open Go.ChangeShapes Go.WideShapes Go.ChangeAt Go.RowKit

/-- bear: so many of the columns that are reached, and of the rest, are done. -/
structure Bear (n : Nat) (s s' : Sq) (first d : Nat) (x : Int) (a1 a2 : Nat) : Prop where
  same : s'.c = s.c ∧ s'.m = s.m ∧ s'.o = s.o ∧ s'.d = s.d ∧ s'.f = s.f
  u1 : ∀ i, i < n → Pr s first a1 i → s'.u i = s.u i + x
  u2 : ∀ i, i < n → ¬ Pr s first a1 i → s'.u i = s.u i
  v1 : ∀ a j : Nat, a < a1 → s.d a = j → s'.v j = s.v j - x
  v2 : ∀ j : Nat, (∀ a, a < a1 → s.d a ≠ j) → s'.v j = s.v j
  q1 : ∀ a j : Nat, d ≤ a → a < a2 → s.d a = j → s'.q j = s.q j - x
  q2 : ∀ j : Nat, (∀ a, d ≤ a → a < a2 → s.d a ≠ j) → s'.q j = s.q j
/-- The owners of the columns that are reached: rows, none of them the first, none twice. -/
structure Own (n : Nat) (s : Sq) (first d : Nat) : Prop where
  at' : ∀ a j : Nat, a < d → s.d a = j → ∃ i : Nat, i < n ∧ s.o j = i ∧ i ≠ first
  inj : ∀ a b j k : Nat, a < d → b < d → s.d a = j → s.d b = k → s.o j = s.o k → a = b
theorem Bear.start (n : Nat) (s : Sq) (first d : Nat) (x : Int) : Bear n s { s with u := upd s.u first (s.u first + x) } first d x 0 d := by
  refine ⟨⟨rfl, rfl, rfl, rfl, rfl⟩, fun i hi hp => ?_, fun i hi hp => ?_, fun a j h => by omega, fun _ _ => rfl, fun a j h1 h2 => by omega, fun _ _ => rfl⟩
  · rcases hp with rfl | ⟨b, j, h, _⟩
    · exact upd_at _ _ _
    · omega
  · exact upd_ne _ _ (fun e => hp (Or.inl e))
theorem Bear.next {n : Nat} {s s' : Sq} {first d a i j : Nat} {x : Int} (h : Bear n s s' first d x a d) (ho : Ord n s) (hw : Own n s first d) (ha : a < d) (hd : d ≤ n) (hj : s.d a = j) (hi : s.o j = i) : s'.u i = s.u i ∧ s'.v j = s.v j ∧ Bear n s { s' with u := upd s'.u i (s.u i + x), v := upd s'.v j (s.v j - x) } first d x (a + 1) d := by
  obtain ⟨i', hi', e1, e2⟩ := hw.at' a j ha hj
  have e3 : i' = i := by omega
  subst e3
  have hnp : ¬ Pr s first a i' := by
    rintro (e | ⟨b, k, h1, h2, h3⟩)
    · exact e2 e
    · have := hw.inj a b j k ha (by omega) hj h2 (by rw [hi, h3])
      omega
  have hnv : ∀ b, b < a → s.d b ≠ j := fun b hb e => by
    have := ho.inj a b (by omega) (by omega) (by rw [hj, e])
    omega
  refine ⟨h.u2 i' hi' hnp, h.v2 j hnv, h.same, fun r hr hp => ?_, fun r hr hp => ?_, fun b k hb hk => ?_, fun k hk => ?_, h.q1, h.q2⟩
  · show upd s'.u i' (s.u i' + x) r = _
    by_cases e : r = i'
    · subst e; exact upd_at _ _ _
    · rw [upd_ne _ _ e]
      refine h.u1 r hr ?_
      rcases hp with e | ⟨b, k, h1, h2, h3⟩
      · exact Or.inl e
      · by_cases e4 : b = a
        · subst e4
          exfalso
          have : k = j := by rw [hj] at h2; omega
          subst this
          rw [hi] at h3
          exact e (by omega)
        · exact Or.inr ⟨b, k, by omega, h2, h3⟩
  · show upd s'.u i' (s.u i' + x) r = _
    rw [upd_ne _ _ (fun e => hp (Or.inr ⟨a, j, by omega, hj, by rw [hi, e]⟩))]
    exact h.u2 r hr (fun hp' => hp (by
      rcases hp' with e | ⟨b, k, h1, h2⟩
      · exact Or.inl e
      · exact Or.inr ⟨b, k, by omega, h2⟩))
  · show upd s'.v j (s.v j - x) k = _
    by_cases e : k = j
    · subst e; exact upd_at _ _ _
    · rw [upd_ne _ _ e]
      by_cases e4 : b = a
      · subst e4
        rw [hj] at hk
        omega
      · exact h.v1 b k (by omega) hk
  · show upd s'.v j (s.v j - x) k = _
    rw [upd_ne _ _ (fun e => hk a (by omega) (by rw [hj, e]))]
    exact h.v2 k (fun b hb => hk b (by omega))
theorem Bear.over {n : Nat} {s s' : Sq} {first d a j : Nat} {x : Int} (h : Bear n s s' first d x d a) (ho : Ord n s) (hd : d ≤ a) (ha : a < n) (hj : s.d a = j) : s'.q j = s.q j ∧ Bear n s { s' with q := upd s'.q j (s.q j - x) } first d x d (a + 1) := by
  have hnq : ∀ b, d ≤ b → b < a → s.d b ≠ j := fun b h1 hb e => by
    have := ho.inj a b (by omega) (by omega) (by rw [hj, e])
    omega
  refine ⟨h.q2 j hnq, h.same, h.u1, h.u2, h.v1, h.v2, fun b k hb h1 hk => ?_, fun k hk => ?_⟩
  · show upd s'.q j (s.q j - x) k = _
    by_cases e : k = j
    · subst e; exact upd_at _ _ _
    · rw [upd_ne _ _ e]
      by_cases e4 : b = a
      · subst e4
        rw [hj] at hk
        omega
      · exact h.q1 b k hb (by omega) hk
  · show upd s'.q j (s.q j - x) k = _
    rw [upd_ne _ _ (fun e => hk a hd (by omega) (by rw [hj, e]))]
    exact h.q2 k (fun b h1 hb => hk b h1 (by omega))
end Go.Proofs.Ytdajgnchgealhaa
