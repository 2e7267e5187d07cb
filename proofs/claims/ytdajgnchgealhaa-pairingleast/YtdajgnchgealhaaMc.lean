/- Pairings that come about; what hand leaves: no program. -/
import Derived.Test.YtdajgnchgealhaaMb
namespace Go.Proofs.Ytdajgnchgealhaa
open Go.ChangeShapes Go.WideShapes Go.ChangeAt Go.RowKit

/-- Each row's column and each column's row fit together. -/
structure Mt (n : Nat) (s : Sq) : Prop where
  m : ∀ i, i < n → s.m i = -1 ∨ ∃ j : Nat, j < n ∧ s.m i = j ∧ s.o j = i
  o : ∀ j, j < n → s.o j = -1 ∨ ∃ i : Nat, i < n ∧ s.o j = i ∧ s.m i = j
/-- Pairs cost what is borne. -/
def Ti (n : Nat) (s : Sq) : Prop := ∀ i j : Nat, i < n → j < n → s.m i = j → s.c i j = s.u i + s.v j
theorem Ord.pos {n : Nat} {s : Sq} (h : Ord n s) : ∃ ps : Nat → Nat, ∀ a, a < n → ∀ j : Nat, s.d a = j → ps j = a := by
  classical
  refine ⟨fun j => if h : ∃ a, a < n ∧ s.d a = (j : Int) then Classical.choose h else 0, fun a ha j hj => ?_⟩
  have hx : ∃ a, a < n ∧ s.d a = (j : Int) := ⟨a, ha, hj⟩
  show (if h : ∃ a, a < n ∧ s.d a = (j : Int) then Classical.choose h else 0) = a
  rw [dif_pos hx]
  have := Classical.choose_spec hx
  exact h.inj _ _ this.1 ha (by rw [this.2, hj])
/-- How each column that is reached was reached. -/
def Tree (n : Nat) (s : Sq) (k d : Nat) : Prop := ∀ a j : Nat, a ≤ d → s.d a = j → ∃ r : Nat, r < n ∧ s.f j = r ∧ s.c r j = s.u r + s.v j ∧ (r = k ∨ ∃ b jb : Nat, b < a ∧ s.d b = jb ∧ s.o jb = r)
/-- While hand goes back: the column jc, at the place a, is to be given away. -/
structure Hand (n k : Nat) (s s' : Sq) (a jc : Nat) : Prop where
  same : s'.c = s.c ∧ s'.u = s.u ∧ s'.v = s.v ∧ s'.d = s.d ∧ s'.f = s.f
  pos : s.d a = jc
  hm : ∀ i, i < n → s'.m i = -1 ∨ ∃ j : Nat, j < n ∧ s'.m i = j ∧ j ≠ jc ∧ s'.o j = i
  ho : ∀ j, j < n → j ≠ jc → s'.o j = -1 ∨ ∃ i : Nat, i < n ∧ s'.o j = i ∧ s'.m i = j
  ti : Ti n s'
  un : ∀ i, i < n → (s'.m i = -1 ↔ s.m i = -1)
  old : ∀ b j : Nat, b < a → s.d b = j → s'.o j = s.o j
  fr : ∀ j, j < n → j ≠ jc → s'.o j = -1 → s.o j = -1
/-- When hand is done. -/
structure Handed (n k : Nat) (s s' : Sq) : Prop where
  same : s'.c = s.c ∧ s'.u = s.u ∧ s'.v = s.v ∧ s'.d = s.d ∧ s'.f = s.f
  mt : Mt n s'
  ti : Ti n s'
  un : ∀ i, i < n → (s'.m i = -1 ↔ s.m i = -1 ∧ i ≠ k)
  fr : ∀ j, j < n → s'.o j = -1 → s.o j = -1
theorem Hand.start {n k : Nat} {s : Sq} {a jc : Nat} (hm : Mt n s) (ht : Ti n s) (hp : s.d a = jc) (hf : s.o jc = -1) : Hand n k s s a jc := by
  refine ⟨⟨rfl, rfl, rfl, rfl, rfl⟩, hp, fun i hi => ?_, fun j hj _ => hm.o j hj, ht, fun _ _ => Iff.rfl, fun _ _ _ _ => rfl, fun _ _ _ h => h⟩
  rcases hm.m i hi with h | ⟨j, h1, h2, h3⟩
  · exact Or.inl h
  · refine Or.inr ⟨j, h1, h2, fun e => ?_, h3⟩
    rw [e, hf] at h3
    omega
/-- What the step needs to know: the row that reached the column, and that row's old column. -/
theorem Hand.look {n k d : Nat} {s s' : Sq} {a jc : Nat} (h : Hand n k s s' a jc) (ht : Tree n s k d) (had : a ≤ d) (hdn : d < n) (hord : Ord n s) (hk : s.m k = -1) (hkn : k < n) : ∃ r : Nat, r < n ∧ s'.f jc = r ∧ ((r = k ∧ s'.m r = -1 ∧ Handed n k s { s' with o := upd s'.o jc r, m := upd s'.m r jc }) ∨ (r ≠ k ∧ ∃ b jb : Nat, b < a ∧ jb < n ∧ s'.m r = jb ∧ Hand n k s { s' with o := upd s'.o jc r, m := upd s'.m r jc } b jb)) := by
  obtain ⟨r, hr, hf, hc, hor⟩ := ht a jc had h.pos
  have hjc : jc < n := by
    obtain ⟨j, h1, h2⟩ := hord.at' a (by omega)
    have := h.pos
    omega
  refine ⟨r, hr, by rw [h.same.2.2.2.2]; exact hf, ?_⟩
  have hti : Ti n { s' with o := upd s'.o jc r, m := upd s'.m r jc } := fun i j hi hj he => by
    show s'.c i j = s'.u i + s'.v j
    have he' : upd s'.m r jc i = j := he
    by_cases e : i = r
    · subst e
      rw [upd_at] at he'
      have : jc = j := by omega
      subst this
      rw [h.same.1, h.same.2.1, h.same.2.2.1]
      exact hc
    · rw [upd_ne _ _ e] at he'
      exact h.ti i j hi hj he'
  by_cases hrk : r = k
  · subst hrk
    have hmr : s'.m r = -1 := (h.un r hr).2 hk
    refine Or.inl ⟨rfl, hmr, h.same, ⟨fun i hi => ?_, fun j hj => ?_⟩, hti, fun i hi => ?_, fun j hj he => ?_⟩
    · show upd s'.m r jc i = -1 ∨ ∃ j : Nat, j < n ∧ upd s'.m r jc i = j ∧ upd s'.o jc r j = i
      by_cases e : i = r
      · subst e
        exact Or.inr ⟨jc, hjc, upd_at _ _ _, upd_at _ _ _⟩
      · rw [upd_ne _ _ e]
        rcases h.hm i hi with h1 | ⟨j, h1, h2, h3, h4⟩
        · exact Or.inl h1
        · exact Or.inr ⟨j, h1, h2, by rw [upd_ne _ _ h3]; exact h4⟩
    · show upd s'.o jc r j = -1 ∨ ∃ i : Nat, i < n ∧ upd s'.o jc r j = i ∧ upd s'.m r jc i = j
      by_cases e : j = jc
      · subst e
        exact Or.inr ⟨r, hr, upd_at _ _ _, upd_at _ _ _⟩
      · rw [upd_ne _ _ e]
        rcases h.ho j hj e with h1 | ⟨i, h1, h2, h3⟩
        · exact Or.inl h1
        · refine Or.inr ⟨i, h1, h2, ?_⟩
          rw [upd_ne _ _ (fun e2 => by rw [e2, hmr] at h3; omega)]
          exact h3
    · show upd s'.m r jc i = -1 ↔ _
      by_cases e : i = r
      · subst e
        rw [upd_at]
        constructor
        · intro h1; omega
        · intro h1; exact absurd rfl h1.2
      · rw [upd_ne _ _ e]
        exact ⟨fun h1 => ⟨(h.un i hi).1 h1, e⟩, fun h1 => (h.un i hi).2 h1.1⟩
    · have he' : upd s'.o jc r j = -1 := he
      by_cases e : j = jc
      · rw [e, upd_at] at he'; omega
      · rw [upd_ne _ _ e] at he'
        exact h.fr j hj e he'
  · rcases hor with e | ⟨b, jb, hb, hdb, hob⟩
    · exact absurd e hrk
    have hjbc : jb ≠ jc := fun e => by
      have h1 := h.pos
      have := hord.inj a b (by omega) (by omega) (by rw [h1, hdb, e])
      omega
    have hjb : jb < n := by
      obtain ⟨j, h1, h2⟩ := hord.at' b (by omega)
      omega
    have hob' : s'.o jb = r := by rw [h.old b jb hb hdb, hob]
    have hmr : s'.m r = jb := by
      rcases h.ho jb hjb hjbc with h1 | ⟨i, h1, h2, h3⟩
      · omega
      · have : i = r := by omega
        subst this
        exact h3
    refine Or.inr ⟨hrk, b, jb, hb, hjb, hmr, h.same, hdb, fun i hi => ?_, fun j hj hne => ?_, hti, fun i hi => ?_, fun b' j hb' hd' => ?_, fun j hj hne he => ?_⟩
    · show upd s'.m r jc i = -1 ∨ ∃ j : Nat, j < n ∧ upd s'.m r jc i = j ∧ j ≠ jb ∧ upd s'.o jc r j = i
      by_cases e : i = r
      · subst e
        exact Or.inr ⟨jc, hjc, upd_at _ _ _, fun e => hjbc e.symm, upd_at _ _ _⟩
      · rw [upd_ne _ _ e]
        rcases h.hm i hi with h1 | ⟨j, h1, h2, h3, h4⟩
        · exact Or.inl h1
        · exact Or.inr ⟨j, h1, h2, fun e2 => by rw [e2, hob'] at h4; omega, by rw [upd_ne _ _ h3]; exact h4⟩
    · show upd s'.o jc r j = -1 ∨ ∃ i : Nat, i < n ∧ upd s'.o jc r j = i ∧ upd s'.m r jc i = j
      by_cases e : j = jc
      · subst e
        exact Or.inr ⟨r, hr, upd_at _ _ _, upd_at _ _ _⟩
      · rw [upd_ne _ _ e]
        rcases h.ho j hj e with h1 | ⟨i, h1, h2, h3⟩
        · exact Or.inl h1
        · refine Or.inr ⟨i, h1, h2, ?_⟩
          rw [upd_ne _ _ (fun e2 => by rw [e2, hmr] at h3; omega)]
          exact h3
    · show upd s'.m r jc i = -1 ↔ _
      by_cases e : i = r
      · subst e
        rw [upd_at]
        constructor
        · intro h1; omega
        · intro h1
          have := (h.un i hi).2 h1
          omega
      · rw [upd_ne _ _ e]; exact h.un i hi
    · show upd s'.o jc r j = _
      rw [upd_ne _ _ (fun e => by
        have h1 := h.pos
        have := hord.inj a b' (by omega) (by omega) (by rw [h1, hd', e])
        omega)]
      exact h.old b' j (by omega) hd'
    · have he' : upd s'.o jc r j = -1 := he
      by_cases e : j = jc
      · rw [e, upd_at] at he'; omega
      · rw [upd_ne _ _ e] at he'
        exact h.fr j hj e he'
end Go.Proofs.Ytdajgnchgealhaa
