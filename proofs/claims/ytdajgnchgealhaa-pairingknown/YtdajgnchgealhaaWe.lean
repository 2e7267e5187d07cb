/- The calls of PairingKnown. -/
import Derived.Test.YtdajgnchgealhaaWc
import Derived.Test.YtdajgnchgealhaaMh
namespace Go.Proofs.Ytdajgnchgealhaa
open Go.ChangeShapes Go.WideShapes Go.ChangeAt Go.RowKit
attribute [local go_sem] isSome_set

theorem pinC {f : Nat → Int} (h : Best 2 (tabR [[1, 1], [1, 1]]) (tabT [[1, 1], [1, 1]]) f) : (f 0 = 0 ∧ f 1 = 1) ∧ cnt 2 f = 2 ∧ tot 2 (tabT [[1, 1], [1, 1]]) f = 2 := by
  have g0 : IsP 2 (tabR [[1, 1], [1, 1]]) (tabT [[1, 1], [1, 1]]) (fun i => [0, 1].getD i (-1)) := by
    refine ⟨fun i hi => ?_, fun i i' hi hi' he hne => ?_⟩
    · rcases (show i = 0 ∨ i = 1 by omega) with rfl | rfl
      · exact Or.inr ⟨0, rfl, by decide, by decide⟩
      · exact Or.inr ⟨1, rfl, by decide, by decide⟩
    · revert he hne
      rcases (show i = 0 ∨ i = 1 by omega) with rfl | rfl <;> rcases (show i' = 0 ∨ i' = 1 by omega) with rfl | rfl <;> simp
  have m := h.most _ g0
  have l := h.least _ g0
  have fi : cnt 2 (fun i => [0, 1].getD i (-1)) = cnt 2 f → tot 2 (tabT [[1, 1], [1, 1]]) (fun i => [0, 1].getD i (-1)) = tot 2 (tabT [[1, 1], [1, 1]]) f → lq (f 0) (0) := fun a b => h.first _ g0 a b 0 (by omega) (fun i' hi' => by omega)
  have i01 := h.p.inj 0 1 (by omega) (by omega)
  simp only [cnt, tot, sumZ] at m l fi ⊢
  have o0 : f 0 = -1 ∨ f 0 = 0 ∨ f 0 = 1 := by
    rcases h.p.at' 0 (by omega) with e | ⟨j, e, hj, hT⟩
    · exact Or.inl e
    · have hj' : j < 2 := hj
      rcases (show j = 0 ∨ j = 1 by omega) with rfl | rfl
      · omega
      · omega
  have o1 : f 1 = -1 ∨ f 1 = 0 ∨ f 1 = 1 := by
    rcases h.p.at' 1 (by omega) with e | ⟨j, e, hj, hT⟩
    · exact Or.inl e
    · have hj' : j < 2 := hj
      rcases (show j = 0 ∨ j = 1 by omega) with rfl | rfl
      · omega
      · omega
  rcases o0 with e0 | e0 | e0 <;> rcases o1 with e1 | e1 | e1 <;> rw [e0] at i01 <;> rw [e1] at i01 <;> simp [e0, e1, tabT, lq] at m l fi i01 ⊢
theorem pinD {f : Nat → Int} (h : Best 2 (tabR [[5, -1], [5, -1]]) (tabT [[5, -1], [5, -1]]) f) : (f 0 = 0 ∧ f 1 = -1) ∧ cnt 2 f = 1 ∧ tot 2 (tabT [[5, -1], [5, -1]]) f = 5 := by
  have g0 : IsP 2 (tabR [[5, -1], [5, -1]]) (tabT [[5, -1], [5, -1]]) (fun i => [0, -1].getD i (-1)) := by
    refine ⟨fun i hi => ?_, fun i i' hi hi' he hne => ?_⟩
    · rcases (show i = 0 ∨ i = 1 by omega) with rfl | rfl
      · exact Or.inr ⟨0, rfl, by decide, by decide⟩
      · exact Or.inl rfl
    · revert he hne
      rcases (show i = 0 ∨ i = 1 by omega) with rfl | rfl <;> rcases (show i' = 0 ∨ i' = 1 by omega) with rfl | rfl <;> simp
  have m := h.most _ g0
  have l := h.least _ g0
  have fi : cnt 2 (fun i => [0, -1].getD i (-1)) = cnt 2 f → tot 2 (tabT [[5, -1], [5, -1]]) (fun i => [0, -1].getD i (-1)) = tot 2 (tabT [[5, -1], [5, -1]]) f → lq (f 0) (0) := fun a b => h.first _ g0 a b 0 (by omega) (fun i' hi' => by omega)
  have i01 := h.p.inj 0 1 (by omega) (by omega)
  simp only [cnt, tot, sumZ] at m l fi ⊢
  have o0 : f 0 = -1 ∨ f 0 = 0 := by
    rcases h.p.at' 0 (by omega) with e | ⟨j, e, hj, hT⟩
    · exact Or.inl e
    · have hj' : j < 2 := hj
      rcases (show j = 0 ∨ j = 1 by omega) with rfl | rfl
      · omega
      · exact absurd hT (by decide)
  have o1 : f 1 = -1 ∨ f 1 = 0 := by
    rcases h.p.at' 1 (by omega) with e | ⟨j, e, hj, hT⟩
    · exact Or.inl e
    · have hj' : j < 2 := hj
      rcases (show j = 0 ∨ j = 1 by omega) with rfl | rfl
      · omega
      · exact absurd hT (by decide)
  rcases o0 with e0 | e0 <;> rcases o1 with e1 | e1 <;> rw [e0] at i01 <;> rw [e1] at i01 <;> simp [e0, e1, tabT, lq] at m l fi i01 ⊢
theorem pinE {f : Nat → Int} (h : Best 3 (tabR [[1, 2], [3, 4], [5, 6]]) (tabT [[1, 2], [3, 4], [5, 6]]) f) : cnt 3 f < 3 := by
  have i01 := h.p.inj 0 1 (by omega) (by omega)
  have i02 := h.p.inj 0 2 (by omega) (by omega)
  have i12 := h.p.inj 1 2 (by omega) (by omega)
  simp only [cnt, sumZ]
  have o : ∀ i, i < 3 → f i = -1 ∨ f i = 0 ∨ f i = 1 := fun i hi => by
    rcases h.p.at' i hi with e | ⟨j, e, hj, _⟩
    · exact Or.inl e
    · have : j < 2 := by
        rcases (show i = 0 ∨ i = 1 ∨ i = 2 by omega) with rfl | rfl | rfl <;> exact hj
      omega
  rcases o 0 (by omega) with e0 | e0 | e0 <;> rcases o 1 (by omega) with e1 | e1 | e1 <;> rcases o 2 (by omega) with e2 | e2 | e2 <;> rw [e0] at i01 i02 <;> rw [e1] at i01 i12 <;> rw [e2] at i02 i12 <;> simp [e0, e1, e2] at i01 i02 i12 ⊢
theorem pinF {f : Nat → Int} (h : Best 2 (tabR [[], []]) (tabT [[], []]) f) : (f 0 = -1 ∧ f 1 = -1) ∧ cnt 2 f = 0 ∧ tot 2 (tabT [[], []]) f = 0 := by
  have o : ∀ i, i < 2 → f i = -1 := fun i hi => by
    rcases h.p.at' i hi with e | ⟨j, e, hj, _⟩
    · exact e
    · rcases (show i = 0 ∨ i = 1 by omega) with rfl | rfl <;> exact absurd hj (Nat.not_lt_zero _)
  refine ⟨⟨o 0 (by omega), o 1 (by omega)⟩, ?_, ?_⟩
  · simp [cnt, sumZ, o 0, o 1]
  · simp [tot, sumZ, o 0, o 1]
theorem k1 (w : World) : Calls Try.prog 11 #[.slice (some ⟨w.heap.size + 1 + 1, 0, none⟩) 2 2] (((w.alloc (.cells #[.int .i64 1, .int .i64 1] 2)).alloc (.cells #[.int .i64 1, .int .i64 1] 2)).alloc (.cells #[.slice (some ⟨w.heap.size, 0, none⟩) 2 2, .slice (some ⟨w.heap.size + 1, 0, none⟩) 2 2] 43)) fun e w' => ∃ g, e = .returned (.tuple #[.slice (some ⟨g, 0, none⟩) 2 2, .int .i64 2, .int .i64 0]) ∧ Hid (IRo w' (some ⟨g, 0, none⟩) 2 (fun j => [0, 1].getD j 0)) ∧ Hid (Up w w') := by
  refine (t11 (cap := 2) (tv2 w [1, 1] [1, 1] rfl rfl rfl) (good_of (l := [[1, 1], [1, 1]]) (by decide))).mono ?_
  rintro e w' ⟨g, f, HB, hor⟩
  obtain ⟨⟨p0, p1⟩, p3, p4⟩ := pinC HB.out
  rcases hor with ⟨h1, h2, h3⟩ | ⟨h1, _⟩
  · rw [p4] at h2
    refine ⟨g, h2, fun j hj => ?_, (Up.alloc _ _).trans ((Up.alloc _ _).trans ((Up.alloc _ _).trans (h3.out.up)))⟩
    obtain ⟨b, o, e1, e2⟩ := h3.out.iro j hj
    refine ⟨b, o, e1, ?_⟩
    rw [e2]
    have hj' : j < 2 := hj
    rcases (show j = 0 ∨ j = 1 by omega) with rfl | rfl
    · rw [p0]; rfl
    · rw [p1]; rfl
  · have := h1.out
    rw [p3] at this
    omega
theorem k2 (w : World) : Calls Try.prog 11 #[.slice (some ⟨w.heap.size + 1 + 1, 0, none⟩) 2 2] (((w.alloc (.cells #[.int .i64 5, .int .i64 (-1)] 2)).alloc (.cells #[.int .i64 3, .int .i64 (-1)] 2)).alloc (.cells #[.slice (some ⟨w.heap.size, 0, none⟩) 2 2, .slice (some ⟨w.heap.size + 1, 0, none⟩) 2 2] 43)) fun e w' => e = .returned (.tuple #[.slice none 0 0, .int .i64 0, .int .i64 170]) ∧ Hid (Up w w') := by
  refine (t11 (cap := 2) (tv2 w [5, -1] [3, -1] rfl rfl rfl) (good_of (l := [[5, -1], [3, -1]]) (by decide))).mono ?_
  rintro e w' ⟨g, f, HB, hor⟩
  obtain ⟨_, p3, _⟩ := pinB HB.out
  rcases hor with ⟨h1, _⟩ | ⟨_, h2, h3⟩
  · have := h1.out
    rw [p3] at this
    omega
  · exact ⟨h2, (Up.alloc _ _).trans ((Up.alloc _ _).trans ((Up.alloc _ _).trans h3.out))⟩
theorem k3 (w : World) : Calls Try.prog 15 #[.slice (some ⟨w.heap.size + 1 + 1, 0, none⟩) 2 2] (((w.alloc (.cells #[.int .i64 5, .int .i64 (-1)] 2)).alloc (.cells #[.int .i64 5, .int .i64 (-1)] 2)).alloc (.cells #[.slice (some ⟨w.heap.size, 0, none⟩) 2 2, .slice (some ⟨w.heap.size + 1, 0, none⟩) 2 2] 43)) fun e w' => ∃ g, e = .returned (.tuple #[.slice (some ⟨g, 0, none⟩) 2 2, .int .i64 1, .int .i64 5, .int .i64 0]) ∧ Hid (IRo w' (some ⟨g, 0, none⟩) 2 (fun j => [0, -1].getD j 0)) ∧ Hid (Up w w') := by
  refine (t15 (cap := 2) (tv2 w [5, -1] [5, -1] rfl rfl rfl) (good_of (l := [[5, -1], [5, -1]]) (by decide))).mono ?_
  rintro e w' ⟨g, f, h2, HB, h3⟩
  obtain ⟨⟨p0, p1⟩, p3, p4⟩ := pinD HB.out
  have h2 : e = .returned (.tuple #[.slice (some ⟨g, 0, none⟩) 2 2, .int .i64 (cnt 2 f), .int .i64 (tot 2 (tabT [[5, -1], [5, -1]]) f), .int .i64 0]) := h2
  rw [p3, p4] at h2
  refine ⟨g, h2, fun j hj => ?_, (Up.alloc _ _).trans ((Up.alloc _ _).trans ((Up.alloc _ _).trans (h3.out.up)))⟩
  obtain ⟨b, o, e1, e2⟩ := h3.out.iro j hj
  refine ⟨b, o, e1, ?_⟩
  rw [e2]
  have hj' : j < 2 := hj
  rcases (show j = 0 ∨ j = 1 by omega) with rfl | rfl
  · rw [p0]; rfl
  · rw [p1]; rfl
theorem k4 (w : World) : Calls Try.prog 11 #[.slice (some ⟨w.heap.size + 1 + 1 + 1, 0, none⟩) 3 3] ((((w.alloc (.cells #[.int .i64 1, .int .i64 2] 2)).alloc (.cells #[.int .i64 3, .int .i64 4] 2)).alloc (.cells #[.int .i64 5, .int .i64 6] 2)).alloc (.cells #[.slice (some ⟨w.heap.size, 0, none⟩) 2 2, .slice (some ⟨w.heap.size + 1, 0, none⟩) 2 2, .slice (some ⟨w.heap.size + 1 + 1, 0, none⟩) 2 2] 43)) fun e w' => e = .returned (.tuple #[.slice none 0 0, .int .i64 0, .int .i64 170]) ∧ Hid (Up w w') := by
  refine (t11 (cap := 3) (tv3 w [1, 2] [3, 4] [5, 6] rfl rfl rfl rfl) (good_of (l := [[1, 2], [3, 4], [5, 6]]) (by decide))).mono ?_
  rintro e w' ⟨g, f, HB, hor⟩
  have p3 := pinE HB.out
  rcases hor with ⟨h1, _⟩ | ⟨_, h2, h3⟩
  · have h4 : cnt 3 f = ((3 : Nat) : Int) := h1.out
    omega
  · exact ⟨h2, (Up.alloc _ _).trans ((Up.alloc _ _).trans ((Up.alloc _ _).trans ((Up.alloc _ _).trans h3.out)))⟩
theorem k5 (w : World) : Calls Try.prog 11 #[.slice none 0 0] w fun e w' => ∃ g, e = .returned (.tuple #[.slice (some ⟨g, 0, none⟩) 0 0, .int .i64 0, .int .i64 0]) ∧ Hid (Up w w') := by
  refine (t11 (N := 0) (R := fun _ => 0) (T := fun _ _ => 0) (fun i hi => by omega) ⟨by omega, fun i hi => by omega, fun i j hi => by omega⟩).mono ?_
  rintro e w' ⟨g, f, HB, ⟨h1, h2, h3⟩ | ⟨h1, _⟩⟩
  · exact ⟨g, h2, h3.out.up⟩
  · have : (0 : Int) < 0 := h1.out
    omega
theorem chk_uniq {N : Nat} {R : Nat → Nat} {T : Nat → Nat → Int} {z z' : Int} (h : Chk N R T z) (h' : Chk N R T z') : z' = z := by
  have A : ∀ z, Chk N R T z → (256 < N ∨ ∃ i, i < N ∧ 256 < R i) → z = 3 := fun z h hb => by
    rcases h with ⟨e, _⟩ | ⟨_, h1, h2, _⟩ | ⟨_, h1, h2, _⟩ | ⟨_, h1⟩
    · exact e
    · rcases hb with hb | ⟨i, h3, h4⟩
      · omega
      · have := h2 i h3; omega
    · rcases hb with hb | ⟨i, h3, h4⟩
      · omega
      · have := (h2 i h3).1; omega
    · rcases hb with hb | ⟨i, h3, h4⟩
      · have := h1.n; omega
      · have := (h1.r i h3).1; omega
  have B : ∀ z, Chk N R T z → ¬ (256 < N ∨ ∃ i, i < N ∧ 256 < R i) → (∃ i, i < N ∧ R i ≠ R 0) → z = 5 := fun z h hn hb => by
    rcases h with ⟨_, h1⟩ | ⟨e, _⟩ | ⟨_, h1, h2, _⟩ | ⟨_, h1⟩
    · exact absurd h1 hn
    · exact e
    · obtain ⟨i, h3, h4⟩ := hb
      exact absurd (h2 i h3).2 h4
    · obtain ⟨i, h3, h4⟩ := hb
      exact absurd (h1.r i h3).2 h4
  rcases h with ⟨e, h1⟩ | ⟨e, h1, h2, h3⟩ | ⟨e, h1, h2, i, j, h3, h4, h5⟩ | ⟨e, h1⟩
  · rw [e]; exact A z' h' h1
  · rw [e]
    exact B z' h' (fun hb => by
      rcases hb with hb | ⟨i, h4, h5⟩
      · omega
      · have := h2 i h4; omega) h3
  · rcases h' with ⟨e', k1⟩ | ⟨e', _, _, i', k1, k2⟩ | ⟨e', _⟩ | ⟨e', k1⟩
    · exfalso
      rcases k1 with k1 | ⟨i', k1, k2⟩
      · omega
      · have := (h2 i' k1).1; omega
    · exact absurd (h2 i' k1).2 k2
    · rw [e, e']
    · have := k1.t i j h3 h4; omega
  · rw [e]; exact h'.good h1
theorem k11 (w : World) : Calls Try.prog 11 #[.slice (some ⟨w.heap.size + 1 + 1, 0, none⟩) 2 2] (((w.alloc (.cells #[.int .i64 1, .int .i64 2] 2)).alloc (.cells #[.int .i64 3] 2)).alloc (.cells #[.slice (some ⟨w.heap.size, 0, none⟩) 2 2, .slice (some ⟨w.heap.size + 1, 0, none⟩) 1 1] 43)) fun e w' => e = .returned (.tuple #[.slice none 0 0, .int .i64 0, .int .i64 5]) ∧ Hid (Up w w') := by
  have hc : Chk 2 (tabR [[1, 2], [3]]) (tabT [[1, 2], [3]]) 5 := Or.inr (Or.inl ⟨rfl, by omega, fun i hi => by rcases (show i = 0 ∨ i = 1 by omega) with rfl | rfl <;> decide, 1, by omega, by decide⟩)
  refine (t11e (cap := 2) (tv2 w [1, 2] [3] rfl rfl rfl) (by omega) (fun i hi => by rcases (show i = 0 ∨ i = 1 by omega) with rfl | rfl <;> decide) (fun z' hz => chk_uniq hc hz) (by omega)).mono ?_
  rintro e w' ⟨h1, rfl⟩
  exact ⟨h1, (Up.alloc _ _).trans ((Up.alloc _ _).trans (Up.alloc _ _))⟩
theorem tv1 (w : World) (x0 : List Int) {a0 b : Array Value} (h0 : a0 = (x0.map (Value.int .i64)).toArray) (hb : b = #[.slice (some ⟨w.heap.size, 0, none⟩) x0.length x0.length]) : TV ((w.alloc (.cells a0 2)).alloc (.cells b 43)) (some ⟨w.heap.size + 1, 0, none⟩) 1 (tabR [x0]) (tabT [x0]) := by
  have e1 := sz1 w (.cells a0 2)
  refine tv_build (bl := [w.heap.size]) (l := [x0]) e1 hb (fun i hi => ?_)
  have hi' : i < 1 := hi
  obtain rfl : i = 0 := by omega
  exact iro_new h0 rfl
theorem k12 (w : World) : Calls Try.prog 11 #[.slice (some ⟨w.heap.size + 1, 0, none⟩) 1 1] ((w.alloc (.cells #[.int .i64 1099511627777] 2)).alloc (.cells #[.slice (some ⟨w.heap.size, 0, none⟩) 1 1] 43)) fun e w' => e = .returned (.tuple #[.slice none 0 0, .int .i64 0, .int .i64 2]) ∧ Hid (Up w w') := by
  have hc : Chk 1 (tabR [[1099511627777]]) (tabT [[1099511627777]]) 2 := Or.inr (Or.inr (Or.inl ⟨rfl, by omega, fun i hi => by (have e : i = 0 := (by omega)); subst e; decide, 0, 0, by omega, by decide, by decide⟩))
  refine (t11e (cap := 1) (tv1 w [1099511627777] rfl rfl) (by omega) (fun i hi => by (have e : i = 0 := (by omega)); subst e; decide) (fun z' hz => chk_uniq hc hz) (by omega)).mono ?_
  rintro e w' ⟨h1, rfl⟩
  exact ⟨h1, (Up.alloc _ _).trans (Up.alloc _ _)⟩
end Go.Proofs.Ytdajgnchgealhaa
