/- What pair keeps: no program. -/
import Derived.Test.YtdajgnchgealhaaMc
namespace Go.Proofs.Ytdajgnchgealhaa
open Go.ChangeShapes Go.WideShapes Go.ChangeAt Go.RowKit

theorem pigeon : ∀ (n k : Nat) (g : Nat → Nat), (∀ j, j < n → g j < k) → (∀ i j, i < n → j < n → g i = g j → i = j) → n ≤ k
  | 0, _, _, _, _ => Nat.zero_le _
  | n + 1, 0, g, h, _ => absurd (h 0 (by omega)) (by omega)
  | n + 1, k + 1, g, h, hi => by
    have := pigeon n k (fun j => if g j = k then g n else g j) (fun j hj => by
      show (if g j = k then g n else g j) < k
      have h1 := h j (by omega)
      have h2 := h n (by omega)
      split
      · have : g j ≠ g n := fun e => by have := hi j n (by omega) (by omega) e; omega
        omega
      · omega) (fun i j hi' hj' he => by
      have h1 : g i ≠ g n := fun e => by have := hi i n (by omega) (by omega) e; omega
      have h2 : g j ≠ g n := fun e => by have := hi j n (by omega) (by omega) e; omega
      revert he
      show (if g i = k then g n else g i) = (if g j = k then g n else g j) → _
      split <;> split <;> intro he
      · exact hi i j (by omega) (by omega) (by omega)
      · exact absurd he.symm h2
      · exact absurd he h1
      · exact hi i j (by omega) (by omega) he)
    omega
theorem Ord.surj {n : Nat} {s : Sq} (h : Ord n s) {j : Nat} (hj : j < n) : ∃ a, a < n ∧ s.d a = j := by
  apply Classical.byContradiction
  intro hno
  have hne : ∀ a, a < n → s.d a ≠ j := fun a ha e => hno ⟨a, ha, e⟩
  have := pigeon n (n - 1) (fun a => if (s.d a).toNat < j then (s.d a).toNat else (s.d a).toNat - 1) (fun a ha => by
    obtain ⟨x, h1, h2⟩ := h.at' a ha
    have := hne a ha
    show (if (s.d a).toNat < j then (s.d a).toNat else (s.d a).toNat - 1) < n - 1
    rw [h2, Int.toNat_natCast]
    split <;> omega) (fun a b ha hb he => by
    obtain ⟨x, h1, h2⟩ := h.at' a ha
    obtain ⟨y, h3, h4⟩ := h.at' b hb
    have e1 := hne a ha
    have e2 := hne b hb
    revert he
    show (if (s.d a).toNat < j then (s.d a).toNat else (s.d a).toNat - 1) = (if (s.d b).toNat < j then (s.d b).toNat else (s.d b).toNat - 1) → _
    rw [h2, h4, Int.toNat_natCast, Int.toNat_natCast]
    intro he
    refine h.inj a b ha hb ?_
    rw [h2, h4]
    split at he <;> split at he <;> omega)
  omega
/-- Between the calls of pair: the rows up to k have a mate. -/
structure Inv (n k : Nat) (s : Sq) : Prop where
  mt : Mt n s
  fe : ∀ i j, i < n → j < n → s.u i + s.v j ≤ s.c i j
  ti : Ti n s
  u0 : ∀ i, i < n → 0 ≤ s.u i
  v0 : ∀ j, j < n → s.v j ≤ 0
  vf : ∀ j, j < n → s.o j = -1 → s.v j = 0
  un : ∀ i, i < n → (s.m i = -1 ↔ k ≤ i)
  od : Ord n s
  sm : Small n s
/-- There is a column that is free. -/
theorem Inv.free {n k : Nat} {s : Sq} (h : Inv n k s) (hk : k < n) : ∃ j, j < n ∧ s.o j = -1 := by
  apply Classical.byContradiction
  intro hno
  have hown : ∀ j, j < n → ∃ i : Nat, i < n ∧ s.o j = i ∧ s.m i = j := fun j hj => by
    rcases h.mt.o j hj with e | e
    · exact absurd ⟨j, hj, e⟩ hno
    · exact e
  have := pigeon n k (fun j => (s.o j).toNat) (fun j hj => by
    obtain ⟨i, h1, h2, h3⟩ := hown j hj
    show (s.o j).toNat < k
    rw [h2, Int.toNat_natCast]
    apply Classical.byContradiction
    intro hh
    have := (h.un i h1).2 (by omega)
    omega) (fun a b ha hb he => by
    obtain ⟨i, h1, h2, h3⟩ := hown a ha
    obtain ⟨i', h4, h5, h6⟩ := hown b hb
    have e : i = i' := by
      revert he
      show (s.o a).toNat = (s.o b).toNat → _
      rw [h2, h5]; omega
    subst e
    omega)
  omega
/-- At the head of pair's loop: d columns are reached, row is the newest row. -/
structure Head (n k d row : Nat) (s : Sq) : Prop where
  inv : Inv n k s
  dn : d ≤ n
  own : Own n s k d
  tr : ∀ a j : Nat, a < d → s.d a = j → ∃ r : Nat, r < n ∧ s.f j = r ∧ s.c r j = s.u r + s.v j ∧ (r = k ∨ ∃ b jb : Nat, b < a ∧ s.d b = jb ∧ s.o jb = r)
  rn : row < n
  rw : (d = 0 ∧ row = k) ∨ ∃ e j : Nat, d = e + 1 ∧ s.d e = j ∧ s.o j = row
  rest : ∀ a j : Nat, d ≤ a → a < n → s.d a = j → (d = 0 ∧ s.q j = 9223372036854775807) ∨ ∃ e, d = e + 1 ∧ (∃ r : Nat, r < n ∧ s.f j = r ∧ Pr s k e r ∧ s.q j = slk s r j) ∧ ∀ r, r < n → Pr s k e r → s.q j ≤ slk s r j
theorem Head.lt {n k d row : Nat} {s : Sq} (h : Head n k d row s) (hk : k < n) : d < n := by
  obtain ⟨j, hj, hf⟩ := h.inv.free hk
  obtain ⟨a, ha, hd⟩ := h.inv.od.surj hj
  apply Classical.byContradiction
  intro hn
  obtain ⟨i, h1, h2, _⟩ := h.own.at' a j (by omega) hd
  omega
theorem Inv.slk0 {n k : Nat} {s : Sq} (h : Inv n k s) {r j : Nat} (hr : r < n) (hj : j < n) : 0 ≤ slk s r j ∧ slk s r j ≤ 562949953421314 := by
  have h1 := h.fe r j hr hj
  have h2 := h.u0 r hr
  have h3 := h.sm.v j hj
  have h4 := h.sm.c r j hr hj
  unfold slk
  omega
/-- Behind nearest. -/
structure Mid (n k d : Nat) (s : Sq) : Prop where
  inv : Inv n k s
  own : Own n s k d
  tr : ∀ a j : Nat, a < d → s.d a = j → ∃ r : Nat, r < n ∧ s.f j = r ∧ s.c r j = s.u r + s.v j ∧ (r = k ∨ ∃ b jb : Nat, b < a ∧ s.d b = jb ∧ s.o jb = r)
  r1 : ∀ a j : Nat, d ≤ a → a < n → s.d a = j → ∃ r : Nat, r < n ∧ s.f j = r ∧ Pr s k d r ∧ s.q j = slk s r j
  r2 : ∀ a j : Nat, d ≤ a → a < n → s.d a = j → ∀ r, r < n → Pr s k d r → s.q j ≤ slk s r j
  least : ∀ a j j0 : Nat, d ≤ a → a < n → s.d a = j → s.d d = j0 → s.q j0 ≤ s.q j
theorem Near.inv {n k d row e : Nat} {s s' : Sq} (hn : Near n s s' row d e) (he : e ≤ n) (h : Inv n k s) : Inv n k s' := by
  obtain ⟨e1, e2, e3, e4, e5⟩ := hn.same
  refine ⟨⟨?_, ?_⟩, ?_, ?_, ?_, ?_, ?_, ?_, hn.ord h.od he, ⟨?_, ?_, ?_⟩⟩
  · rw [e4, e5]; exact h.mt.m
  · rw [e4, e5]; exact h.mt.o
  · rw [e1, e2, e3]; exact h.fe
  · unfold Ti; rw [e1, e2, e3, e4]; exact h.ti
  · rw [e2]; exact h.u0
  · rw [e3]; exact h.v0
  · rw [e3, e5]; exact h.vf
  · rw [e4]; exact h.un
  · rw [e1]; exact h.sm.c
  · rw [e2]; exact h.sm.u
  · rw [e3]; exact h.sm.v
theorem Near.pr {n k d row e : Nat} {s s' : Sq} (hn : Near n s s' row d e) {a r : Nat} (ha : a ≤ d) : Pr s' k a r ↔ Pr s k a r := by
  unfold Pr
  rw [hn.same.2.2.2.2]
  constructor
  · rintro (h | ⟨b, j, h1, h2, h3⟩)
    · exact Or.inl h
    · exact Or.inr ⟨b, j, h1, by rw [← hn.lo b (by omega)]; exact h2, h3⟩
  · rintro (h | ⟨b, j, h1, h2, h3⟩)
    · exact Or.inl h
    · exact Or.inr ⟨b, j, h1, by rw [hn.lo b (by omega)]; exact h2, h3⟩
theorem Head.mid {n k d row : Nat} {s s' : Sq} (h : Head n k d row s) (hn : Near n s s' row d n) (hk : k < n) : Mid n k d s' := by
  have hd := h.lt hk
  obtain ⟨e1, e2, e3, e4, e5⟩ := hn.same
  -- who is reached
  have hpr : ∀ r, Pr s k d r ↔ ((∃ e, d = e + 1 ∧ Pr s k e r) ∨ r = row) := fun r => by
    rcases h.rw with ⟨h1, h2⟩ | ⟨e, j, h1, h2, h3⟩
    · constructor
      · rintro (h4 | ⟨b, j, h4, _⟩)
        · exact Or.inr (by omega)
        · omega
      · rintro (⟨e, h4, _⟩ | h4)
        · omega
        · exact Or.inl (by omega)
    · constructor
      · rintro (h4 | ⟨b, jb, h4, h5, h6⟩)
        · exact Or.inl ⟨e, h1, Or.inl h4⟩
        · by_cases hb : b = e
          · subst hb
            have : jb = j := by omega
            subst this
            exact Or.inr (by omega)
          · exact Or.inl ⟨e, h1, Or.inr ⟨b, jb, by omega, h5, h6⟩⟩
      · rintro (⟨e', h4, h5⟩ | h4)
        · rcases h5 with h5 | ⟨b, jb, h5, h6⟩
          · exact Or.inl h5
          · exact Or.inr ⟨b, jb, by omega, h6⟩
        · exact Or.inr ⟨e, j, by omega, h2, by rw [h3, h4]⟩
  have hoth : ∀ a j : Nat, a < d → s.d a = j → s'.q j = s.q j ∧ s'.f j = s.f j := fun a j ha hj => hn.oth j (fun b hb1 hb2 e => by
    have := h.inv.od.inj a b (by omega) (by omega) (by rw [hj, e])
    omega)
  -- the rest's values
  have hval : ∀ a j : Nat, d ≤ a → a < n → s.d a = j → (∃ r : Nat, r < n ∧ s'.f j = r ∧ Pr s k d r ∧ s'.q j = slk s r j) ∧ ∀ r, r < n → Pr s k d r → s'.q j ≤ slk s r j := fun a j ha1 ha2 hj => by
    have hjn : j < n := by
      obtain ⟨j', h1, h2⟩ := h.inv.od.at' a ha2
      omega
    have hs := h.inv.slk0 h.rn hjn
    rcases hn.val a ha1 ha2 j hj with ⟨v1, v2, v3⟩ | ⟨v1, v2, v3⟩
    · refine ⟨⟨row, h.rn, v3, (hpr row).2 (Or.inr rfl), v2⟩, fun r hr hp => ?_⟩
      rcases (hpr r).1 hp with ⟨e, he, hpe⟩ | rfl
      · rcases h.rest a j ha1 ha2 hj with ⟨h1, _⟩ | ⟨e', h1, _, h3⟩
        · omega
        · have : e = e' := by omega
          subst this
          have := h3 r hr hpe
          omega
      · omega
    · rcases h.rest a j ha1 ha2 hj with ⟨h1, h2⟩ | ⟨e', h1, ⟨r, h2, h3, h4, h5⟩, h6⟩
      · omega
      · refine ⟨⟨r, h2, by rw [v3, h3], (hpr r).2 (Or.inl ⟨e', h1, h4⟩), by rw [v2, h5]⟩, fun r' hr' hp => ?_⟩
        rcases (hpr r').1 hp with ⟨e, he, hpe⟩ | rfl
        · have : e = e' := by omega
          subst this
          have := h6 r' hr' hpe
          omega
        · omega
  have hback : ∀ a j : Nat, d ≤ a → a < n → s'.d a = j → ∃ b, d ≤ b ∧ b < n ∧ s.d b = j := fun a j h1 h2 h3 => by
    obtain ⟨b, b1, b2, b3⟩ := hn.mid a h1 h2
    exact ⟨b, b1, b2, by rw [← b3, h3]⟩
  refine ⟨hn.inv (Nat.le_refl _) h.inv, ⟨fun a j ha hj => ?_, fun a b j j' ha hb hj hj' he => ?_⟩, fun a j ha hj => ?_, fun a j h1 h2 h3 => ?_, fun a j h1 h2 h3 r hr hp => ?_, fun a j j0 h1 h2 h3 h4 => hn.least a h1 h2 j j0 h3 h4⟩
  · rw [e5]
    exact h.own.at' a j ha (by rw [← hn.lo a ha]; exact hj)
  · rw [e5] at he
    exact h.own.inj a b j j' ha hb (by rw [← hn.lo a ha]; exact hj) (by rw [← hn.lo b hb]; exact hj') he
  · have hj' : s.d a = j := by rw [← hn.lo a ha]; exact hj
    obtain ⟨r, r1, r2, r3, r4⟩ := h.tr a j ha hj'
    refine ⟨r, r1, by rw [(hoth a j ha hj').2]; exact r2, by rw [e1, e2, e3]; exact r3, ?_⟩
    rcases r4 with r4 | ⟨b, jb, r4, r5, r6⟩
    · exact Or.inl r4
    · exact Or.inr ⟨b, jb, r4, by rw [hn.lo b (by omega)]; exact r5, by rw [e5]; exact r6⟩
  · obtain ⟨b, b1, b2, b3⟩ := hback a j h1 h2 h3
    obtain ⟨r, r1, r2, r3, r4⟩ := (hval b j b1 b2 b3).1
    exact ⟨r, r1, r2, (hn.pr (Nat.le_refl _)).2 r3, by rw [hn.slk]; exact r4⟩
  · obtain ⟨b, b1, b2, b3⟩ := hback a j h1 h2 h3
    rw [hn.slk]
    exact (hval b j b1 b2 b3).2 r hr ((hn.pr (Nat.le_refl _)).1 hp)
/-- Behind bear. -/
theorem Mid.bear {n k d j0 : Nat} {s s' : Sq} (h : Mid n k d s) (hb : Bear n s s' k d (s.q j0) d n) (hj0 : s.d d = j0) (hd : d < n) (hk : k < n) :
    Inv n k s' ∧ Tree n s' k d ∧ ∀ row : Nat, row < n → s'.o j0 = row → Head n k (d + 1) row s' := by
  obtain ⟨e1, e2, e3, e4, e5⟩ := hb.same
  have hj0n : j0 < n := by
    obtain ⟨j', h1, h2⟩ := h.inv.od.at' d hd
    omega
  have hx : 0 ≤ s.q j0 := by
    obtain ⟨r, r1, r2, r3, r4⟩ := h.r1 d j0 (Nat.le_refl _) hd hj0
    have := h.inv.slk0 r1 hj0n
    omega
  generalize hxx : s.q j0 = x at *
  have hrc : ∀ j, j < n → (∃ a : Nat, a < d ∧ s.d a = j ∧ s'.v j = s.v j - x) ∨ (∃ a : Nat, d ≤ a ∧ a < n ∧ s.d a = j ∧ s'.v j = s.v j ∧ s'.q j = s.q j - x) := fun j hj => by
    obtain ⟨a, ha, hda⟩ := h.inv.od.surj hj
    by_cases had : a < d
    · exact Or.inl ⟨a, had, hda, hb.v1 a j had hda⟩
    · refine Or.inr ⟨a, by omega, ha, hda, hb.v2 j (fun b hb1 e => ?_), hb.q1 a j (by omega) ha hda⟩
      have := h.inv.od.inj a b ha (by omega) (by rw [hda, e])
      omega
  have hur : ∀ i, i < n → (Pr s k d i ∧ s'.u i = s.u i + x) ∨ (¬ Pr s k d i ∧ s'.u i = s.u i) := fun i hi => by
    by_cases hp : Pr s k d i
    · exact Or.inl ⟨hp, hb.u1 i hi hp⟩
    · exact Or.inr ⟨hp, hb.u2 i hi hp⟩
  have hfe : ∀ i j, i < n → j < n → s'.u i + s'.v j ≤ s'.c i j := fun i j hi hj => by
    rw [e1]
    have h1 := h.inv.fe i j hi hj
    rcases hur i hi with ⟨hp, hu⟩ | ⟨hp, hu⟩ <;> rcases hrc j hj with ⟨a, ha, hda, hv⟩ | ⟨a, ha1, ha2, hda, hv, hq⟩
    · omega
    · have h2 := h.r2 a j ha1 ha2 hda i hi hp
      have h3 := h.least a j j0 ha1 ha2 hda hj0
      unfold slk at h2
      omega
    · omega
    · omega
  have hti : Ti n s' := fun i j hi hj he => by
    rw [e2] at he
    rw [e1]
    have h1 := h.inv.ti i j hi hj he
    have hoj : s.o j = i := by
      rcases h.inv.mt.m i hi with h2 | ⟨j', h2, h3, h4⟩
      · omega
      · have : j = j' := by omega
        subst this
        exact h4
    rcases hur i hi with ⟨hp, hu⟩ | ⟨hp, hu⟩ <;> rcases hrc j hj with ⟨a, ha, hda, hv⟩ | ⟨a, ha1, ha2, hda, hv, hq⟩
    · omega
    · exfalso
      rcases hp with hp | ⟨b, jb, hb1, hb2, hb3⟩
      · have := (h.inv.un i hi).2 (by omega)
        omega
      · have hjbn : jb < n := by
          obtain ⟨j', h2, h3⟩ := h.inv.od.at' b (by omega)
          omega
        have hmj : s.m i = jb := by
          rcases h.inv.mt.o jb hjbn with h2 | ⟨i', h2, h3, h4⟩
          · omega
          · have : i' = i := by omega
            subst this
            exact h4
        have hjj : jb = j := by omega
        subst hjj
        have := h.inv.od.inj a b ha2 (by omega) (by rw [hda, hb2])
        omega
    · exact absurd (Or.inr ⟨a, j, ha, hda, hoj⟩) hp
    · omega
  have hvf : ∀ j, j < n → s'.o j = -1 → s'.v j = 0 := fun j hj he => by
    rw [e3] at he
    have h1 := h.inv.vf j hj he
    rcases hrc j hj with ⟨a, ha, hda, hv⟩ | ⟨a, ha1, ha2, hda, hv, hq⟩
    · obtain ⟨i, h2, h3, _⟩ := h.own.at' a j ha hda
      omega
    · omega
  have hu0 : ∀ i, i < n → 0 ≤ s'.u i := fun i hi => by
    have h1 := h.inv.u0 i hi
    rcases hur i hi with ⟨hp, hu⟩ | ⟨hp, hu⟩ <;> omega
  have hv0 : ∀ j, j < n → s'.v j ≤ 0 := fun j hj => by
    have h1 := h.inv.v0 j hj
    rcases hrc j hj with ⟨a, ha, hda, hv⟩ | ⟨a, ha1, ha2, hda, hv, hq⟩ <;> omega
  obtain ⟨jf, hjf, hof⟩ := h.inv.free hk
  have hul : ∀ i, i < n → s'.u i ≤ 281474976710657 := fun i hi => by
    have h1 := hfe i jf hi hjf
    have h2 := hvf jf hjf (by rw [e3]; exact hof)
    have h3 := h.inv.sm.c i jf hi hjf
    rw [e1] at h1
    omega
  have hinv : Inv n k s' := by
    refine ⟨⟨?_, ?_⟩, hfe, hti, hu0, hv0, hvf, ?_, ⟨?_, ?_⟩, ⟨?_, fun i hi => ?_, fun j hj => ?_⟩⟩
    · rw [e2, e3]; exact h.inv.mt.m
    · rw [e2, e3]; exact h.inv.mt.o
    · rw [e2]; exact h.inv.un
    · rw [e4]; exact h.inv.od.at'
    · rw [e4]; exact h.inv.od.inj
    · rw [e1]; exact h.inv.sm.c
    · have h1 := hu0 i hi
      have h2 := hul i hi
      omega
    · have h1 := hv0 j hj
      rcases h.inv.mt.o j hj with h2 | ⟨i, h2, h3, h4⟩
      · have := hvf j hj (by rw [e3]; exact h2)
        omega
      · have h5 := hti i j h2 hj (by rw [e2]; exact h4)
        have h6 := hul i h2
        have h7 := h.inv.sm.c i j h2 hj
        rw [e1] at h5
        omega
  have hpr : ∀ r, Pr s' k d r ↔ Pr s k d r := fun r => by
    unfold Pr
    rw [e3, e4]
  have htree : Tree n s' k d := fun a j ha hj => by
    rw [e4] at hj
    by_cases had : a < d
    · obtain ⟨r, r1, r2, r3, r4⟩ := h.tr a j had hj
      refine ⟨r, r1, by rw [e5]; exact r2, ?_, by rw [e3, e4]; exact r4⟩
      have hp : Pr s k d r := by
        rcases r4 with r4 | ⟨b, jb, r4, r5, r6⟩
        · exact Or.inl r4
        · exact Or.inr ⟨b, jb, by omega, r5, r6⟩
      rw [e1, hb.u1 r r1 hp, hb.v1 a j had hj]
      omega
    · have had' : a = d := by omega
      subst had'
      have hjj : j = j0 := by omega
      subst hjj
      obtain ⟨r, r1, r2, r3, r4⟩ := h.r1 a j (Nat.le_refl _) hd hj
      refine ⟨r, r1, by rw [e5]; exact r2, ?_, by rw [e3, e4]; exact r3⟩
      rcases hrc j hj0n with ⟨b, hb1, hb2, hv⟩ | ⟨b, hb1, hb2, hb3, hv, hq⟩
      · have := h.inv.od.inj a b hd (by omega) (by rw [hj, hb2])
        omega
      · rw [e1, hb.u1 r r1 r3, hv]
        unfold slk at r4
        omega
  refine ⟨hinv, htree, fun row hrow ho => ?_⟩
  have hslk : ∀ r j a, r < n → Pr s k d r → d ≤ a → a < n → s.d a = (j : Nat) → slk s' r j = slk s r j - x := fun r j a hr hp ha1 ha2 hda => by
    have hjn : j < n := by
      obtain ⟨j', h1, h2⟩ := h.inv.od.at' a ha2
      omega
    rcases hrc j hjn with ⟨b, hb1, hb2, hv⟩ | ⟨b, hb1, hb2, hb3, hv, hq⟩
    · have := h.inv.od.inj a b ha2 (by omega) (by rw [hda, hb2])
      omega
    · unfold slk
      rw [e1, hb.u1 r hr hp, hv]
      omega
  refine ⟨hinv, by omega, ⟨fun a j ha hj => ?_, fun a b j j' ha hb' hj hj' he => ?_⟩, fun a j ha hj => htree a j (by omega) hj, hrow, Or.inr ⟨d, j0, rfl, by rw [e4]; exact hj0, ho⟩, fun a j ha1 ha2 hj => Or.inr ⟨d, rfl, ?_, fun r hr hp => ?_⟩⟩
  · rw [e4] at hj
    rw [e3]
    by_cases had : a < d
    · exact h.own.at' a j had hj
    · have had' : a = d := by omega
      subst had'
      have hjj : j = j0 := by omega
      subst hjj
      rw [e3] at ho
      refine ⟨row, hrow, ho, fun e => ?_⟩
      rcases h.inv.mt.o j hj0n with h2 | ⟨i, h2, h3, h4⟩
      · omega
      · have : i = row := by omega
        subst this
        have := (h.inv.un i h2).2 (by omega)
        omega
  · rw [e4] at hj hj'
    rw [e3] at he
    have hjn : j < n := by
      obtain ⟨x', h1, h2⟩ := h.inv.od.at' a (by omega)
      omega
    have hjn' : j' < n := by
      obtain ⟨x', h1, h2⟩ := h.inv.od.at' b (by omega)
      omega
    have hown : ∀ c y : Nat, c < d + 1 → s.d c = y → y < n → ∃ i : Nat, i < n ∧ s.o y = i ∧ s.m i = y := fun c y hc hy hyn => by
      rcases h.inv.mt.o y hyn with h2 | h2
      · by_cases hcd : c < d
        · obtain ⟨i, h3, h4, _⟩ := h.own.at' c y hcd hy
          omega
        · have : c = d := by omega
          subst this
          have : y = j0 := by omega
          subst this
          rw [e3] at ho
          omega
      · exact h2
    obtain ⟨i, h1, h2, h3⟩ := hown a j ha hj hjn
    obtain ⟨i', h4, h5, h6⟩ := hown b j' hb' hj' hjn'
    have : i = i' := by omega
    subst this
    have : j = j' := by omega
    subst this
    exact h.inv.od.inj a b (by omega) (by omega) (by rw [hj, hj'])
  · rw [e4] at hj
    obtain ⟨r, r1, r2, r3, r4⟩ := h.r1 a j (by omega) ha2 hj
    refine ⟨r, r1, by rw [e5]; exact r2, (hpr r).2 r3, ?_⟩
    rw [hslk r j a r1 r3 (by omega) ha2 hj, hb.q1 a j (by omega) ha2 hj, r4]
  · rw [e4] at hj
    have := h.r2 a j (by omega) ha2 hj r hr ((hpr r).1 hp)
    rw [hslk r j a hr ((hpr r).1 hp) (by omega) ha2 hj, hb.q1 a j (by omega) ha2 hj]
    omega
/-- Behind hand. -/
theorem Handed.inv {n k : Nat} {s s' : Sq} (h : Handed n k s s') (hi : Inv n k s) : Inv n (k + 1) s' := by
  obtain ⟨e1, e2, e3, e4, e5⟩ := h.same
  refine ⟨h.mt, ?_, h.ti, ?_, ?_, fun j hj he => ?_, fun i hi' => ?_, ⟨?_, ?_⟩, ⟨?_, ?_, ?_⟩⟩
  · rw [e1, e2, e3]; exact hi.fe
  · rw [e2]; exact hi.u0
  · rw [e3]; exact hi.v0
  · rw [e3]; exact hi.vf j hj (h.fr j hj he)
  · rw [h.un i hi', hi.un i hi']
    omega
  · rw [e4]; exact hi.od.at'
  · rw [e4]; exact hi.od.inj
  · rw [e1]; exact hi.sm.c
  · rw [e2]; exact hi.sm.u
  · rw [e3]; exact hi.sm.v
end Go.Proofs.Ytdajgnchgealhaa
