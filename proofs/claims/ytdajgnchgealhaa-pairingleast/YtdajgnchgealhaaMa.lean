/- What nearest and bear leave: no program. -/
import Derived.Test.YtdajgnchgealhaaBb
namespace Go.Proofs.Ytdajgnchgealhaa
open Go.ChangeShapes Go.WideShapes Go.ChangeAt Go.RowKit

/-- By how much a column is dearer than what it and a row bear. -/
def slk (s : Sq) (r j : Nat) : Int := s.c r j - s.u r - s.v j
/-- The columns' order: each a column, none twice. -/
structure Ord (n : Nat) (s : Sq) : Prop where
  at' : ∀ a, a < n → ∃ j : Nat, j < n ∧ s.d a = j
  inj : ∀ a b, a < n → b < n → s.d a = s.d b → a = b
/-- nearest, from the place d on, up to the place e. -/
structure Near (n : Nat) (s s' : Sq) (row d e : Nat) : Prop where
  same : s'.c = s.c ∧ s'.u = s.u ∧ s'.v = s.v ∧ s'.m = s.m ∧ s'.o = s.o
  lo : ∀ a, a < d → s'.d a = s.d a
  hi : ∀ a, e ≤ a → a < n → s'.d a = s.d a
  mid : ∀ a, d ≤ a → a < e → ∃ b, d ≤ b ∧ b < e ∧ s'.d a = s.d b
  inj : ∀ a b, a < n → b < n → s'.d a = s'.d b → a = b
  val : ∀ a, d ≤ a → a < e → ∀ j : Nat, s.d a = j → (slk s row j < s.q j ∧ s'.q j = slk s row j ∧ s'.f j = row) ∨ (s.q j ≤ slk s row j ∧ s'.q j = s.q j ∧ s'.f j = s.f j)
  oth : ∀ j : Nat, (∀ a, d ≤ a → a < e → s.d a ≠ (j : Int)) → s'.q j = s.q j ∧ s'.f j = s.f j
  least : ∀ a, d ≤ a → a < e → ∀ j j0 : Nat, s'.d a = j → s'.d d = j0 → s'.q j0 ≤ s'.q j
theorem Near.start {n : Nat} {s : Sq} (ho : Ord n s) (row d : Nat) : Near n s s row d d :=
  ⟨⟨rfl, rfl, rfl, rfl, rfl⟩, fun _ _ => rfl, fun _ _ _ => rfl, fun a h1 h2 => by omega, ho.inj, fun a h1 h2 => by omega, fun _ _ => ⟨rfl, rfl⟩, fun a h1 h2 => by omega⟩
theorem Near.slk {n : Nat} {s s' : Sq} {row d e : Nat} (h : Near n s s' row d e) (r j : Nat) : slk s' r j = slk s r j := by
  unfold Ytdajgnchgealhaa.slk
  rw [h.same.1, h.same.2.1, h.same.2.2.1]
theorem Near.ord {n : Nat} {s s' : Sq} {row d e : Nat} (h : Near n s s' row d e) (ho : Ord n s) (he : e ≤ n) : Ord n s' := by
  refine ⟨fun a ha => ?_, h.inj⟩
  by_cases h1 : a < d
  · rw [h.lo a h1]; exact ho.at' a ha
  · by_cases h2 : a < e
    · obtain ⟨b, h3, h4, h5⟩ := h.mid a (by omega) h2
      rw [h5]; exact ho.at' b (by omega)
    · rw [h.hi a (by omega) ha]; exact ho.at' a ha
/-- What one step does to 'over' and 'from'. -/
def nearV (s : Sq) (row j : Nat) : Sq := if slk s row j < s.q j then { s with q := upd s.q j (slk s row j), f := upd s.f j row } else s
theorem nearV_d (s : Sq) (row j : Nat) : (nearV s row j).d = s.d ∧ (nearV s row j).c = s.c ∧ (nearV s row j).u = s.u ∧ (nearV s row j).v = s.v ∧ (nearV s row j).m = s.m ∧ (nearV s row j).o = s.o := by
  unfold nearV; split <;> exact ⟨rfl, rfl, rfl, rfl, rfl, rfl⟩
theorem nearV_at (s : Sq) (row j : Nat) : (slk s row j < s.q j ∧ (nearV s row j).q j = slk s row j ∧ (nearV s row j).f j = row) ∨ (s.q j ≤ slk s row j ∧ (nearV s row j).q j = s.q j ∧ (nearV s row j).f j = s.f j) := by
  unfold nearV
  by_cases h : slk s row j < s.q j
  · rw [if_pos h]; exact Or.inl ⟨h, upd_at _ _ _, upd_at _ _ _⟩
  · rw [if_neg h]; exact Or.inr ⟨by omega, rfl, rfl⟩
theorem nearV_ne (s : Sq) (row : Nat) {j i : Nat} (hi : i ≠ j) : (nearV s row j).q i = s.q i ∧ (nearV s row j).f i = s.f i := by
  unfold nearV
  split
  · exact ⟨upd_ne _ _ hi, upd_ne _ _ hi⟩
  · exact ⟨rfl, rfl⟩
/-- One step; x is the column that is brought to the front, y the one that comes in its place. -/
theorem Near.next {n : Nat} {s s' s2 : Sq} {row d e j : Nat} (h : Near n s s' row d e) (ho : Ord n s) (hd : d ≤ e) (he : e < n) (hj : s.d e = j) {j0 : Nat} (h0 : s'.d d = j0)
    (h2 : (s2 = nearV s' row j ∧ (nearV s' row j).q j0 ≤ (nearV s' row j).q j) ∨ (s2 = { nearV s' row j with d := upd (upd s'.d d j) e j0 } ∧ (nearV s' row j).q j ≤ (nearV s' row j).q j0)) : Near n s s2 row d (e + 1) := by
  obtain ⟨d1, d2, d3, d4, d5, d6⟩ := nearV_d s' row j
  have hq2 : s2.q = (nearV s' row j).q ∧ s2.f = (nearV s' row j).f ∧ s2.c = s'.c ∧ s2.u = s'.u ∧ s2.v = s'.v ∧ s2.m = s'.m ∧ s2.o = s'.o := by
    rcases h2 with ⟨rfl, _⟩ | ⟨rfl, _⟩
    · exact ⟨rfl, rfl, d2, d3, d4, d5, d6⟩
    · exact ⟨rfl, rfl, d2, d3, d4, d5, d6⟩
  obtain ⟨q1, q2, q3, q4, q5, q6, q7⟩ := hq2
  have hje : s'.d e = j := by rw [h.hi e (Nat.le_refl _) he, hj]
  -- the places
  have hpl : ∃ g : Nat → Nat, (∀ a, a < n → g a < n) ∧ (∀ a b, g a = g b → a = b) ∧ (∀ a, a < d → g a = a) ∧ (∀ a, e < a → g a = a) ∧ (∀ a, d ≤ a → a ≤ e → d ≤ g a ∧ g a ≤ e) ∧ (∀ a, s2.d a = s'.d (g a)) := by
    rcases h2 with ⟨rfl, _⟩ | ⟨rfl, _⟩
    · exact ⟨fun a => a, fun a ha => ha, fun a b e => e, fun a _ => rfl, fun a _ => rfl, fun a h1 h2 => ⟨h1, h2⟩, fun a => by rw [d1]⟩
    · refine ⟨fun a => if a = e then d else if a = d then e else a, fun a ha => ?_, fun a b hab => ?_, fun a ha => ?_, fun a ha => ?_, fun a h1 h2 => ?_, fun a => ?_⟩
      · show (if a = e then d else if a = d then e else a) < n
        split
        · omega
        · split <;> omega
      · revert hab
        show (if a = e then d else if a = d then e else a) = (if b = e then d else if b = d then e else b) → _
        split <;> split <;> (try split) <;> (try split) <;> intro hab <;> omega
      · show (if a = e then d else if a = d then e else a) = a
        split
        · omega
        · split <;> omega
      · show (if a = e then d else if a = d then e else a) = a
        split
        · omega
        · split <;> omega
      · show d ≤ (if a = e then d else if a = d then e else a) ∧ (if a = e then d else if a = d then e else a) ≤ e
        split
        · omega
        · split <;> omega
      · show upd (upd s'.d d j) e j0 a = s'.d (if a = e then d else if a = d then e else a)
        unfold upd
        by_cases e1 : a = e
        · rw [if_pos e1, if_pos e1, h0]
        · rw [if_neg e1, if_neg e1]
          by_cases e2 : a = d
          · rw [if_pos e2, if_pos e2, hje]
          · rw [if_neg e2, if_neg e2]
  obtain ⟨g, g1, g2, g3, g4, g5, g6⟩ := hpl
  have hold : ∀ a, d ≤ a → a ≤ e → ∃ b, d ≤ b ∧ b ≤ e ∧ s'.d a = s.d b := fun a h1 h3 => by
    by_cases e1 : a < e
    · obtain ⟨b, b1, b2, b3⟩ := h.mid a h1 e1
      exact ⟨b, b1, by omega, b3⟩
    · exact ⟨a, h1, h3, h.hi a (by omega) (by omega)⟩
  refine ⟨⟨q3.trans h.same.1, q4.trans h.same.2.1, q5.trans h.same.2.2.1, q6.trans h.same.2.2.2.1, q7.trans h.same.2.2.2.2⟩, fun a ha => ?_, fun a h1 h3 => ?_, fun a h1 h3 => ?_, fun a b ha hb hab => ?_, fun a h1 h3 i hi => ?_, fun i hi => ?_, fun a h1 h3 i i0 hi hi0 => ?_⟩
  · rw [g6, g3 a ha]; exact h.lo a ha
  · rw [g6, g4 a (by omega)]; exact h.hi a (by omega) h3
  · obtain ⟨b, b1, b2, b3⟩ := hold (g a) (g5 a h1 (by omega)).1 (g5 a h1 (by omega)).2
    exact ⟨b, b1, by omega, by rw [g6, b3]⟩
  · rw [g6, g6] at hab
    exact g2 _ _ (h.inj _ _ (g1 a ha) (g1 b hb) hab)
  · rw [q1, q2]
    by_cases e1 : a = e
    · subst e1
      have hij : i = j := by rw [hi] at hj; omega
      subst hij
      have hoth := h.oth i (fun b b1 b2 hb => by
        have := ho.inj b a (by omega) he (by rw [hb, hi])
        omega)
      have := nearV_at s' row i
      rw [h.slk] at this
      rw [hoth.1, hoth.2] at this
      exact this
    · have hij : i ≠ j := fun e2 => e1 (ho.inj a e (by omega) he (by rw [hi, hj, e2]))
      rw [(nearV_ne s' row hij).1, (nearV_ne s' row hij).2]
      exact h.val a h1 (by omega) i hi
  · have hij : i ≠ j := fun e2 => hi e hd (by omega) (by rw [hj, e2])
    rw [q1, q2, (nearV_ne s' row hij).1, (nearV_ne s' row hij).2]
    exact h.oth i (fun a h1 h3 => hi a h1 (by omega))
  · rw [q1]
    have hmin : ∀ b, d ≤ b → b < e → ∀ x : Nat, s'.d b = x → (nearV s' row j).q j0 ≤ (nearV s' row j).q x := fun b b1 b2 x hx => by
      have hxj : x ≠ j := fun e2 => by
        have := h.inj b e (by omega) he (by rw [hx, hje, e2])
        omega
      rw [(nearV_ne s' row hxj).1]
      have h4 := h.least b b1 b2 x j0 hx h0
      by_cases e3 : j0 = j
      · have := h.inj d e (by omega) he (by rw [h0, hje, e3])
        omega
      · rw [(nearV_ne s' row e3).1]; exact h4
    have hgd := g5 d (Nat.le_refl _) hd
    have hga := g5 a h1 (by omega)
    rw [g6] at hi hi0
    -- the front
    have hfr : (nearV s' row j).q i0 ≤ (nearV s' row j).q j0 ∧ (nearV s' row j).q i0 ≤ (nearV s' row j).q j := by
      rcases h2 with ⟨rfl, hle⟩ | ⟨rfl, hle⟩
      · have : s'.d d = i0 := by rw [← hi0, ← g6, d1]
        have : i0 = j0 := by omega
        subst this
        exact ⟨Int.le_refl _, hle⟩
      · have : (upd (upd s'.d d j) e j0) d = i0 := by rw [← hi0, ← g6]
        by_cases e1 : d = e
        · subst e1
          rw [upd_at] at this
          have : i0 = j0 := by omega
          subst this
          have : i0 = j := by omega
          subst this
          exact ⟨Int.le_refl _, Int.le_refl _⟩
        · rw [upd_ne _ _ e1, upd_at] at this
          have : i0 = j := by omega
          subst this
          exact ⟨hle, Int.le_refl _⟩
    by_cases e1 : g a < e
    · have := hmin (g a) hga.1 e1 i hi
      omega
    · have e2 : g a = e := by omega
      rw [e2, hje] at hi
      have : i = j := by omega
      subst this
      exact hfr.2
/-- The rows that are reached: the first, and the owners of the first columns in order. -/
def Pr (s : Sq) (k e r : Nat) : Prop := r = k ∨ ∃ b j : Nat, b < e ∧ s.d b = j ∧ s.o j = r
end Go.Proofs.Ytdajgnchgealhaa
