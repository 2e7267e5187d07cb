/- Of all least pairings of a square the one that is ahead: no program. -/
import Derived.Test.YtdajgnchgealhaaMe
namespace Go.Proofs.Ytdajgnchgealhaa
open Go.ChangeShapes Go.WideShapes Go.ChangeAt Go.RowKit

theorem pigeon_miss {n j : Nat} {g : Nat → Nat} (h1 : ∀ a, a < n → g a < n) (h2 : ∀ a b, a < n → b < n → g a = g b → a = b) (h3 : ∀ a, a < n → g a ≠ j) (hj : j < n) : False := by
  have := pigeon n (n - 1) (fun a => if g a < j then g a else g a - 1) (fun a ha => by
    have e1 := h1 a ha
    have e2 := h3 a ha
    show (if g a < j then g a else g a - 1) < n - 1
    split <;> omega) (fun a b ha hb he => by
    have e1 := h3 a ha
    have e2 := h3 b hb
    revert he
    show (if g a < j then g a else g a - 1) = (if g b < j then g b else g b - 1) → _
    intro he
    refine h2 a b ha hb ?_
    split at he <;> split at he <;> omega)
  omega
/-- What is told of a row. -/
def told (s : Sq) (i : Nat) : Int := toldI s i (s.m i).toNat
/-- A pairing of all rows whose pairs cost what is borne. -/
structure PM (n : Nat) (s : Sq) (τ : Nat → Nat) : Prop where
  lt : ∀ i, i < n → τ i < n
  inj : ∀ i j, i < n → j < n → τ i = τ j → i = j
  ti : ∀ i, i < n → s.c i (τ i) = s.u i + s.v (τ i)
/-- Is what is told ahead, or the same? -/
def lq (a b : Int) : Prop := b = -1 ∨ (a ≠ -1 ∧ a ≤ b)
theorem lq.refl (a : Int) : lq a a := by
  by_cases h : a = -1
  · exact Or.inl h
  · exact Or.inr ⟨h, Int.le_refl _⟩
/-- Up to the row k none is ahead. -/
def Lex (n k : Nat) (s : Sq) : Prop := ∀ τ, PM n s τ → ∀ i, i < k → (∀ i', i' < i → toldI s i' (τ i') = told s i') → lq (told s i) (toldI s i (τ i))
structure Two (n k : Nat) (s : Sq) : Prop where
  per : Per n s
  ti : Ti n s
  fe : ∀ i j, i < n → j < n → s.u i + s.v j ≤ s.c i j
  sm : Small n s
  lex : Lex n k s
theorem told_neg {s : Sq} {i j : Nat} (h : toldI s i j < 0) : s.c i j = 281474976710657 := by
  unfold toldI at h
  split at h
  · assumption
  · omega
theorem told_pos {s : Sq} {i j : Nat} (h : s.c i j ≠ 281474976710657) : toldI s i j = j := if_neg h
theorem told_apart {s : Sq} {i j : Nat} (h : s.c i j = 281474976710657) : toldI s i j = -1 := if_pos h
/-- If a pairing has a column for the row, and tells the same of the rows ahead, that column's row is reached. -/
theorem Srch.must {n row held : Nat} {s s' : Sq} (hp : Per n s) (hrow : s.m row = held) (hrn : row < n) (hco : ∀ r j : Nat, r < n → j < n → r ≠ row → s'.f r = -1 → (j = held ∨ ∃ x : Nat, x < n ∧ s.m x = j ∧ s'.f x ≠ -1) → may s r j row = false) {τ : Nat → Nat} (hτ : PM n s τ) (ht : ∀ i, i < row → toldI s i (τ i) = told s i) {x : Nat} (hx : s.o (τ row) = x) (hne : τ row ≠ held) : s'.f x ≠ -1 := by
  classical
  intro hfx
  -- whose column a row would take
  let g : Nat → Nat := fun i => (s.o (τ i)).toNat
  have hg : ∀ i, i < n → g i < n ∧ s.o (τ i) = (g i : Nat) ∧ s.m (g i) = (τ i : Nat) := fun i hi => by
    obtain ⟨y, h1, h2, h3⟩ := hp.o (τ i) (hτ.lt i hi)
    have : g i = y := by show (s.o (τ i)).toNat = y; rw [h2, Int.toNat_natCast]
    rw [this]; exact ⟨h1, h2, h3⟩
  have hgi : ∀ i j, i < n → j < n → g i = g j → i = j := fun i j hi hj he => by
    have h1 := (hg i hi).2.2
    have h2 := (hg j hj).2.2
    rw [he] at h1
    exact hτ.inj i j hi hj (by omega)
  let U : Nat → Prop := fun i => i ≠ row ∧ s'.f i = -1
  have hU : ∀ i, i < n → U i → U (g i) := fun i hi hu => by
    obtain ⟨h1, h2, h3⟩ := hg i hi
    have hno : (g i = row ∨ s'.f (g i) ≠ -1) → False := fun hor => by
      have hm : may s i (τ i) row = false := by
        refine hco i (τ i) hi (hτ.lt i hi) hu.1 hu.2 ?_
        rcases hor with e | e
        · rw [e, hrow] at h3
          exact Or.inl (by omega)
        · exact Or.inr ⟨g i, h1, h3, e⟩
      have hb : borneB s i (τ i) = true := by unfold borneB; simp [hτ.ti i hi]
      have hnot : ¬ (row < i ∨ s.c i (τ i) = 281474976710657 ∧ told s i < 0) := fun hh => by
        unfold may mayB at hm
        rw [hb] at hm
        rcases hh with hh | ⟨h4, h5⟩
        · simp [hh] at hm
        · unfold told at h5
          simp [h4, h5] at hm
      have hir : i < row := by
        have := hu.1
        omega
      have hti := ht i hir
      by_cases hc : s.c i (τ i) = 281474976710657
      · rw [told_apart hc] at hti
        exact hnot (Or.inr ⟨hc, by omega⟩)
      · rw [told_pos hc] at hti
        have hmi : s.m i = (τ i : Nat) := by
          obtain ⟨y, y1, y2, y3⟩ := hp.m i hi
          unfold told at hti
          rw [y2, Int.toNat_natCast] at hti
          have hcy : s.c i y ≠ 281474976710657 := fun e => by rw [told_apart e] at hti; omega
          rw [told_pos hcy] at hti
          omega
        have hgi' : g i = i := hp.inj h1 hi (by rw [h3, hmi])
        rcases hor with e | e
        · exact hu.1 (by rw [← hgi', e])
        · rw [hgi'] at e
          exact e hu.2
    refine ⟨fun e => hno (Or.inl e), Classical.byContradiction fun e => hno (Or.inr e)⟩
  have hgr : U (g row) := by
    obtain ⟨h1, h2, h3⟩ := hg row hrn
    have hgx : g row = x := by
      rw [hx] at h2; omega
    refine ⟨fun e => ?_, by rw [hgx]; exact hfx⟩
    rw [e, hrow] at h3
    exact hne (by omega)
  let h : Nat → Nat := fun i => if i = row ∨ U i then g i else i
  have hh : ∀ i, i < n → (i = row ∨ U i) → U (g i) := fun i hi hor => by
    rcases hor with e | e
    · rw [e]; exact hgr
    · exact hU i hi e
  refine pigeon_miss (n := n) (j := row) (g := h) (fun a ha => ?_) (fun a b ha hb he => ?_) (fun a ha => ?_) hrn
  · show (if a = row ∨ U a then g a else a) < n
    split
    · exact (hg a ha).1
    · exact ha
  · revert he
    show (if a = row ∨ U a then g a else a) = (if b = row ∨ U b then g b else b) → _
    intro he
    split at he <;> split at he
    · exact hgi a b ha hb he
    · rename_i h1 h2
      exact absurd (Or.inr (he ▸ hh a ha h1)) h2
    · rename_i h1 h2
      exact absurd (Or.inr (he.symm ▸ hh b hb h2)) h1
    · exact he
  · show (if a = row ∨ U a then g a else a) ≠ row
    split
    · rename_i h1
      exact (hh a ha h1).1
    · rename_i h1
      exact fun e => h1 (Or.inl e)
/-- The row keeps its column. -/
theorem Two.stay {n k held : Nat} {s s' : Sq} (h : Two n k s) (hk : k < n) (hrow : s.m k = held) (hsame : s'.c = s.c ∧ s'.u = s.u ∧ s'.v = s.v ∧ s'.m = s.m ∧ s'.o = s.o) (hno : ∀ τ, PM n s τ → (∀ i, i < k → toldI s i (τ i) = told s i) → ∀ j : Nat, τ k = j → s.c k j ≠ 281474976710657 → s.c k held ≠ 281474976710657 ∧ held ≤ j) : Two n (k + 1) s' := by
  obtain ⟨e1, e2, e3, e4, e5⟩ := hsame
  have htl : ∀ i j, toldI s' i j = toldI s i j := fun i j => by unfold toldI; rw [e1]
  have htd : ∀ i, told s' i = told s i := fun i => by unfold told; rw [htl, e4]
  refine ⟨⟨?_, ?_⟩, ?_, ?_, ⟨?_, ?_, ?_⟩, fun τ hτ i hi hlt => ?_⟩
  · rw [e4, e5]; exact h.per.m
  · rw [e4, e5]; exact h.per.o
  · unfold Ti; rw [e1, e2, e3, e4]; exact h.ti
  · rw [e1, e2, e3]; exact h.fe
  · rw [e1]; exact h.sm.c
  · rw [e2]; exact h.sm.u
  · rw [e3]; exact h.sm.v
  · have hτ' : PM n s τ := ⟨hτ.lt, hτ.inj, by have := hτ.ti; rw [e1, e2, e3] at this; exact this⟩
    have hlt' : ∀ i', i' < i → toldI s i' (τ i') = told s i' := fun i' hi' => by rw [← htl, ← htd]; exact hlt i' hi'
    rw [htl, htd]
    by_cases e : i = k
    · subst e
      by_cases hc : s.c i (τ i) = 281474976710657
      · exact Or.inl (told_apart hc)
      · obtain ⟨h1, h2⟩ := hno τ hτ' hlt' (τ i) rfl hc
        unfold told
        rw [hrow, Int.toNat_natCast, told_pos h1, told_pos hc]
        exact Or.inr ⟨by omega, by omega⟩
    · exact h.lex τ hτ' i (by omega) hlt'
/-- The row is moved. -/
theorem Two.moved {n k held j : Nat} {s s' s'' : Sq} {ρ : Nat → Nat} (h : Two n k s) (hk : k < n) (hj : j < n) (hsame : s'.c = s.c ∧ s'.u = s.u ∧ s'.v = s.v ∧ s'.m = s.m ∧ s'.o = s.o) (hfr : From n k held s s' ρ) (hm : Moved n k j s' s'') (hw : wiP s k j) (hno : ∀ τ, PM n s τ → (∀ i, i < k → toldI s i (τ i) = told s i) → ∀ j' : Nat, τ k = j' → s.c k j' ≠ 281474976710657 → j ≤ j') : Two n (k + 1) s'' ∧ s''.c = s.c := by
  obtain ⟨e1, e2, e3, e4, e5⟩ := hsame
  obtain ⟨g1, g2, g3⟩ := hm.same
  have c1 : s''.c = s.c := g1.trans e1
  have c2 : s''.u = s.u := g2.trans e2
  have c3 : s''.v = s.v := g3.trans e3
  have htl : ∀ i j, toldI s'' i j = toldI s i j := fun i j => by unfold toldI; rw [c1]
  have hres : ∀ i, i < n → i ≠ k → s''.m i = s.m i ∨ ∃ y : Nat, y < n ∧ s''.m i = y ∧ may s i y k = true := fun i hi hik => by
    rcases hm.res i hi hik with h1 | ⟨h1, h2⟩
    · exact Or.inl (by rw [h1, e4])
    · rcases hfr i hi with h3 | ⟨h3, y, h4, h5, h6, h7⟩
      · exact absurd h3 h1
      · exact Or.inr ⟨y, h4, by rw [h2, h5], h6⟩
  have hmay : ∀ i y, may s i y k = true → s.c i y = s.u i + s.v y ∧ (k < i ∨ s.c i y = 281474976710657 ∧ told s i < 0) := fun i y hh => by
    unfold may mayB borneB at hh
    simp only [Bool.and_eq_true, Bool.or_eq_true, beq_iff_eq, decide_eq_true_eq] at hh
    refine ⟨hh.1, ?_⟩
    rcases hh.2 with h1 | h1
    · exact Or.inl h1
    · exact Or.inr ⟨h1.1, h1.2⟩
  have htd : ∀ i, i < k → told s'' i = told s i := fun i hi => by
    unfold told
    rw [htl]
    rcases hres i (by omega) (by omega) with h1 | ⟨y, h1, h2, h3⟩
    · rw [h1]
    · obtain ⟨h4, h5⟩ := hmay i y h3
      rcases h5 with h5 | ⟨h5, h6⟩
      · omega
      · rw [h2, Int.toNat_natCast, told_apart h5]
        unfold told at h6
        rw [told_apart (told_neg h6)]
  refine ⟨⟨hm.per, fun i jj hi hjj he => ?_, ?_, ⟨?_, ?_, ?_⟩, fun τ hτ i hi hlt => ?_⟩, c1⟩
  · rw [c1, c2, c3]
    by_cases e : i = k
    · subst e
      have h1 := hm.at'
      have : jj = j := by omega
      subst this
      have h2 := hw.2
      unfold borneB at h2
      simpa using h2
    · rcases hres i hi e with h1 | ⟨y, h1, h2, h3⟩
      · exact h.ti i jj hi hjj (by rw [← h1]; exact he)
      · have : y = jj := by omega
        subst this
        exact (hmay i y h3).1
  · rw [c1, c2, c3]; exact h.fe
  · rw [c1]; exact h.sm.c
  · rw [c2]; exact h.sm.u
  · rw [c3]; exact h.sm.v
  · have hτ' : PM n s τ := ⟨hτ.lt, hτ.inj, by have := hτ.ti; rw [c1, c2, c3] at this; exact this⟩
    rw [htl]
    by_cases e : i = k
    · subst e
      have hlt' : ∀ i', i' < i → toldI s i' (τ i') = told s i' := fun i' hi' => by rw [← htl, ← htd i' hi']; exact hlt i' hi'
      by_cases hc : s.c i (τ i) = 281474976710657
      · exact Or.inl (told_apart hc)
      · have h1 := hno τ hτ' hlt' (τ i) rfl hc
        unfold told
        rw [htl, hm.at', Int.toNat_natCast, told_pos hw.1, told_pos hc]
        exact Or.inr ⟨by omega, by omega⟩
    · rw [htd i (by omega)]
      exact h.lex τ hτ' i (by omega) (fun i' hi' => by rw [← htl, ← htd i' (by omega)]; exact hlt i' hi')
theorem From.self {n k held : Nat} {s s' : Sq} {ρ : Nat → Nat} (h : From n k held s s' ρ) (hsame : s'.c = s.c ∧ s'.u = s.u ∧ s'.v = s.v ∧ s'.m = s.m ∧ s'.o = s.o) : From n k held s' s' ρ := fun x hx => by
  obtain ⟨e1, e2, e3, e4, e5⟩ := hsame
  have hm : ∀ x j, may s' x j k = may s x j k := fun x j => by
    unfold may mayB borneB toldI
    rw [e1, e2, e3, e4]
  rcases h x hx with h1 | ⟨h1, j, h2, h3, h4, h5⟩
  · exact Or.inl h1
  · refine Or.inr ⟨h1, j, h2, h3, by rw [hm]; exact h4, ?_⟩
    rw [e5]; exact h5
/-- What the search has not found cannot be. -/
theorem Srch.no {n k first held : Nat} {s s' : Sq} (h : Srch n k first held s s') (hp : Per n s) (hrow : s.m k = held) (hk : k < n) (hfn : first < n) {x0 : Nat} (hx0 : s.o first = x0) (hf0 : s'.f x0 = -1) {τ : Nat → Nat} (hτ : PM n s τ) (ht : ∀ i, i < k → toldI s i (τ i) = told s i) {j x : Nat} (hj : τ k = j) (hx : s.o j = x) (hne : j ≠ held) : s'.f x ≠ -1 := by
  rcases h.co with ⟨y, h1, h2, h3⟩ | hco
  · exfalso
    obtain ⟨z, z1, z2, z3⟩ := hp.o first hfn
    have e1 : z = x0 := by omega
    subst e1
    have : y = z := hp.inj h1 z1 (by rw [h2, z3])
    subst this
    exact h3 hf0
  · exact Srch.must hp hrow hk hco hτ ht (by rw [hj]; exact hx) (by rw [hj]; exact hne)
theorem PM.wi {n k : Nat} {s : Sq} {τ : Nat → Nat} (h : PM n s τ) (hk : k < n) {j : Nat} (hj : τ k = j) (hc : s.c k j ≠ 281474976710657) : wiP s k j := by
  refine ⟨hc, ?_⟩
  have := h.ti k hk
  rw [hj] at this
  unfold borneB
  simp [this]
end Go.Proofs.Ytdajgnchgealhaa
