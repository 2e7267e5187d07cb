/- Tables that are written out; works. -/
import Derived.Test.YtdajgnchgealhaaBn
namespace Go.Proofs.Ytdajgnchgealhaa
open Go.ChangeShapes Go.WideShapes Go.ChangeAt Go.RowKit
attribute [local go_sem] isSome_set

def tabR (l : List (List Int)) (i : Nat) : Nat := (l.getD i []).length
def tabT (l : List (List Int)) (i j : Nat) : Int := (l.getD i []).getD j 0
def goodB (l : List (List Int)) : Bool := decide (l.length ≤ 256) && l.all fun r => decide (r.length ≤ 256) && decide (r.length = (l.getD 0 []).length) && r.all fun x => decide (x ≤ 1099511627776)
theorem getD_mem {α : Type} {l : List α} {i : Nat} (h : i < l.length) (d : α) : l.getD i d ∈ l := by
  rw [List.getD_eq_getElem?_getD, List.getElem?_eq_getElem h, Option.getD_some]
  exact List.getElem_mem h
theorem good_of {l : List (List Int)} (h : goodB l = true) : Good l.length (tabR l) (tabT l) := by
  unfold goodB at h
  rw [Bool.and_eq_true, decide_eq_true_eq, List.all_eq_true] at h
  have hr : ∀ i, i < l.length → ((l.getD i []).length ≤ 256 ∧ (l.getD i []).length = (l.getD 0 []).length) ∧ ∀ x ∈ l.getD i [], x ≤ 1099511627776 := fun i hi => by
    have := h.2 _ (getD_mem hi [])
    simp only [Bool.and_eq_true, decide_eq_true_eq, List.all_eq_true] at this
    exact this
  exact ⟨h.1, fun i hi => (hr i hi).1, fun i j hi hj => (hr i hi).2 _ (getD_mem hj 0)⟩
theorem row_new {w : World} {x : List Int} {a : Array Value} {t : TypeId} (h : a = (x.map (Value.int .i64)).toArray) {g : Nat} (hg : g = w.heap.size) {j : Nat} (hj : j < x.length) : (w.alloc (.cells a t)).cell? ⟨g, j, none⟩ = some (.int .i64 (x.getD j 0)) := by
  rw [World.cell?_alloc_at _ _ _ _ hg, h]
  simp [hj]
theorem iro_new {w : World} {x : List Int} {a : Array Value} {t : TypeId} (h : a = (x.map (Value.int .i64)).toArray) {g : Nat} (hg : g = w.heap.size) : IRo (w.alloc (.cells a t)) (some ⟨g, 0, none⟩) x.length (fun j => x.getD j 0) := fun j hj => ⟨g, 0, rfl, by rw [Nat.zero_add]; exact row_new h hg hj⟩
/-- A table whose rows are there. -/
theorem tv_build {W : World} {bl : List Nat} {l : List (List Int)} {a : Array Value} {g : Nat} (hg : g = W.heap.size) (ha : a = ((List.range l.length).map fun i => Value.slice (some ⟨bl.getD i 0, 0, none⟩) (l.getD i []).length (l.getD i []).length).toArray) (hr : ∀ i, i < l.length → IRo W (some ⟨bl.getD i 0, 0, none⟩) (l.getD i []).length (fun j => (l.getD i []).getD j 0)) : TV (W.alloc (.cells a 43)) (some ⟨g, 0, none⟩) l.length (tabR l) (tabT l) := fun i hi => by
  refine ⟨g, 0, some ⟨bl.getD i 0, 0, none⟩, (l.getD i []).length, rfl, ?_, (hr i hi).up (Up.alloc _ _)⟩
  rw [Nat.zero_add, World.cell?_alloc_at _ _ _ _ hg, ha]
  simp [hi, tabR]
theorem sz1 (w : World) (o : Obj) : w.heap.size + 1 = (w.alloc o).heap.size := by simp
theorem tv2 (w : World) (x0 x1 : List Int) {a0 a1 b : Array Value} (h0 : a0 = (x0.map (Value.int .i64)).toArray) (h1 : a1 = (x1.map (Value.int .i64)).toArray) (hb : b = #[.slice (some ⟨w.heap.size, 0, none⟩) x0.length x0.length, .slice (some ⟨w.heap.size + 1, 0, none⟩) x1.length x1.length]) : TV (((w.alloc (.cells a0 2)).alloc (.cells a1 2)).alloc (.cells b 43)) (some ⟨w.heap.size + 1 + 1, 0, none⟩) 2 (tabR [x0, x1]) (tabT [x0, x1]) := by
  have e1 := sz1 w (.cells a0 2)
  have e2 := sz1 (w.alloc (.cells a0 2)) (.cells a1 2)
  refine tv_build (bl := [w.heap.size, w.heap.size + 1]) (l := [x0, x1]) (by rw [← e2, ← e1]) hb (fun i hi => ?_)
  have hi' : i < 2 := hi
  rcases (show i = 0 ∨ i = 1 by omega) with rfl | rfl
  · exact (iro_new h0 rfl).up (Up.alloc _ _)
  · exact iro_new h1 e1
theorem tv3 (w : World) (x0 x1 x2 : List Int) {a0 a1 a2 b : Array Value} (h0 : a0 = (x0.map (Value.int .i64)).toArray) (h1 : a1 = (x1.map (Value.int .i64)).toArray) (h2 : a2 = (x2.map (Value.int .i64)).toArray) (hb : b = #[.slice (some ⟨w.heap.size, 0, none⟩) x0.length x0.length, .slice (some ⟨w.heap.size + 1, 0, none⟩) x1.length x1.length, .slice (some ⟨w.heap.size + 1 + 1, 0, none⟩) x2.length x2.length]) : TV ((((w.alloc (.cells a0 2)).alloc (.cells a1 2)).alloc (.cells a2 2)).alloc (.cells b 43)) (some ⟨w.heap.size + 1 + 1 + 1, 0, none⟩) 3 (tabR [x0, x1, x2]) (tabT [x0, x1, x2]) := by
  have e1 := sz1 w (.cells a0 2)
  have e2 := sz1 (w.alloc (.cells a0 2)) (.cells a1 2)
  have e3 := sz1 ((w.alloc (.cells a0 2)).alloc (.cells a1 2)) (.cells a2 2)
  refine tv_build (bl := [w.heap.size, w.heap.size + 1, w.heap.size + 1 + 1]) (l := [x0, x1, x2]) (by rw [← e3, ← e2, ← e1]) hb (fun i hi => ?_)
  have hi' : i < 3 := hi
  rcases (show i = 0 ∨ i = 1 ∨ i = 2 by omega) with rfl | rfl | rfl
  · exact (iro_new h0 rfl).up ((Up.alloc _ _).trans (Up.alloc _ _))
  · exact (iro_new h1 e1).up (Up.alloc _ _)
  · exact iro_new h2 (by show w.heap.size + 1 + 1 = _; rw [← e2, ← e1])
/-- The best of small tables. -/
theorem pinA {f : Nat → Int} (h : Best 3 (tabR [[4, 1, 3], [2, 0, 5], [3, 2, 2]]) (tabT [[4, 1, 3], [2, 0, 5], [3, 2, 2]]) f) : (f 0 = 1 ∧ f 1 = 0 ∧ f 2 = 2) ∧ cnt 3 f = 3 ∧ tot 3 (tabT [[4, 1, 3], [2, 0, 5], [3, 2, 2]]) f = 5 := by
  have g0 : IsP 3 (tabR [[4, 1, 3], [2, 0, 5], [3, 2, 2]]) (tabT [[4, 1, 3], [2, 0, 5], [3, 2, 2]]) (fun i => [1, 0, 2].getD i (-1)) := by
    refine ⟨fun i hi => ?_, fun i i' hi hi' he hne => ?_⟩
    · rcases (show i = 0 ∨ i = 1 ∨ i = 2 by omega) with rfl | rfl | rfl
      · exact Or.inr ⟨1, rfl, by decide, by decide⟩
      · exact Or.inr ⟨0, rfl, by decide, by decide⟩
      · exact Or.inr ⟨2, rfl, by decide, by decide⟩
    · revert he
      rcases (show i = 0 ∨ i = 1 ∨ i = 2 by omega) with rfl | rfl | rfl <;> rcases (show i' = 0 ∨ i' = 1 ∨ i' = 2 by omega) with rfl | rfl | rfl <;> simp
  have m := h.most _ g0
  have l := h.least _ g0
  have i1 := h.p.inj 0 1 (by omega) (by omega)
  have i2 := h.p.inj 0 2 (by omega) (by omega)
  have i3 := h.p.inj 1 2 (by omega) (by omega)
  simp only [cnt, tot, sumZ] at m l ⊢
  have o : ∀ i, i < 3 → f i = -1 ∨ f i = 0 ∨ f i = 1 ∨ f i = 2 := fun i hi => by
    rcases h.p.at' i hi with e | ⟨j, e, hj, _⟩
    · exact Or.inl e
    · have : j < 3 := by
        rcases (show i = 0 ∨ i = 1 ∨ i = 2 by omega) with rfl | rfl | rfl <;> exact hj
      omega
  rcases o 0 (by omega) with e0 | e0 | e0 | e0 <;> rcases o 1 (by omega) with e1 | e1 | e1 | e1 <;> rcases o 2 (by omega) with e2 | e2 | e2 | e2 <;> rw [e0] at i1 i2 <;> rw [e1] at i1 i3 <;> rw [e2] at i2 i3 <;> simp [e0, e1, e2, tabT] at m l i1 i2 i3 ⊢
theorem pinB {f : Nat → Int} (h : Best 2 (tabR [[5, -1], [3, -1]]) (tabT [[5, -1], [3, -1]]) f) : (f 0 = -1 ∧ f 1 = 0) ∧ cnt 2 f = 1 ∧ tot 2 (tabT [[5, -1], [3, -1]]) f = 3 := by
  have g0 : IsP 2 (tabR [[5, -1], [3, -1]]) (tabT [[5, -1], [3, -1]]) (fun i => [-1, 0].getD i (-1)) := by
    refine ⟨fun i hi => ?_, fun i i' hi hi' he hne => ?_⟩
    · rcases (show i = 0 ∨ i = 1 by omega) with rfl | rfl
      · exact Or.inl rfl
      · exact Or.inr ⟨0, rfl, by decide, by decide⟩
    · revert he hne
      rcases (show i = 0 ∨ i = 1 by omega) with rfl | rfl <;> rcases (show i' = 0 ∨ i' = 1 by omega) with rfl | rfl <;> simp
  have m := h.most _ g0
  have l := h.least _ g0
  have i1 := h.p.inj 0 1 (by omega) (by omega)
  simp only [cnt, tot, sumZ] at m l ⊢
  have o : ∀ i, i < 2 → f i = -1 ∨ f i = 0 := fun i hi => by
    rcases h.p.at' i hi with e | ⟨j, e, hj, hT⟩
    · exact Or.inl e
    · rcases (show i = 0 ∨ i = 1 by omega) with rfl | rfl
      · have hj' : j < 2 := hj
        rcases (show j = 0 ∨ j = 1 by omega) with rfl | rfl
        · exact Or.inr e
        · exact absurd hT (by decide)
      · have hj' : j < 2 := hj
        rcases (show j = 0 ∨ j = 1 by omega) with rfl | rfl
        · exact Or.inr e
        · exact absurd hT (by decide)
  rcases o 0 (by omega) with e0 | e0 <;> rcases o 1 (by omega) with e1 | e1 <;> rw [e0] at i1 <;> rw [e1] at i1 <;> simp [e0, e1, tabT] at m l i1 ⊢
theorem Row.iro {w w' : World} {g N : Nat} {f : Nat → Int} (h : Row w w' g N f) : IRo w' (some ⟨g, 0, none⟩) N f := fun i hi => ⟨g, 0, rfl, by rw [Nat.zero_add]; exact h.c i hi⟩
set_option maxRecDepth 20000 in
set_option maxHeartbeats 1000000 in
theorem t9 (w : World) : Calls Try.prog 9 #[] w fun e w' => e = .returned (.bool true) ∧ Hid (Up w w') := by
  have C11 : Hid (Calls Try.prog 11 #[.slice (some ⟨w.heap.size + 1 + 1 + 1, 0, none⟩) 3 3] ((((w.alloc (.cells #[.int .i64 4, .int .i64 1, .int .i64 3] 2)).alloc (.cells #[.int .i64 2, .int .i64 0, .int .i64 5] 2)).alloc (.cells #[.int .i64 3, .int .i64 2, .int .i64 2] 2)).alloc (.cells #[.slice (some ⟨w.heap.size, 0, none⟩) 3 3, .slice (some ⟨w.heap.size + 1, 0, none⟩) 3 3, .slice (some ⟨w.heap.size + 1 + 1, 0, none⟩) 3 3] 43)) fun e w' => ∃ g, e = .returned (.tuple #[.slice (some ⟨g, 0, none⟩) 3 3, .int .i64 5, .int .i64 0]) ∧ Hid (IRo w' (some ⟨g, 0, none⟩) 3 (fun j => [1, 0, 2].getD j 0)) ∧ Hid (Up w w')) := by
    refine (t11 (cap := 3) (tv3 w [4, 1, 3] [2, 0, 5] [3, 2, 2] rfl rfl rfl rfl) (good_of (l := [[4, 1, 3], [2, 0, 5], [3, 2, 2]]) (by decide))).mono ?_
    rintro e w' ⟨g, f, HB, hor⟩
    obtain ⟨⟨p0, p1, p2⟩, p3, p4⟩ := pinA HB.out
    rcases hor with ⟨h1, h2, h3⟩ | ⟨h1, _⟩
    · rw [p4] at h2
      refine ⟨g, h2, fun j hj => ?_, (Up.alloc _ _).trans ((Up.alloc _ _).trans ((Up.alloc _ _).trans ((Up.alloc _ _).trans h3.out.up)))⟩
      obtain ⟨b, o, e1, e2⟩ := h3.out.iro j hj
      refine ⟨b, o, e1, ?_⟩
      rw [e2]
      rcases (show j = 0 ∨ j = 1 ∨ j = 2 by omega) with rfl | rfl | rfl
      · rw [p0]; rfl
      · rw [p1]; rfl
      · rw [p2]; rfl
    · have := h1.out
      rw [p3] at this
      omega
  have C15 : Hid (∀ w : World, Calls Try.prog 15 #[.slice (some ⟨w.heap.size + 1 + 1, 0, none⟩) 2 2] (((w.alloc (.cells #[.int .i64 5, .int .i64 (-1)] 2)).alloc (.cells #[.int .i64 3, .int .i64 (-1)] 2)).alloc (.cells #[.slice (some ⟨w.heap.size, 0, none⟩) 2 2, .slice (some ⟨w.heap.size + 1, 0, none⟩) 2 2] 43)) fun e w' => ∃ g, e = .returned (.tuple #[.slice (some ⟨g, 0, none⟩) 2 2, .int .i64 1, .int .i64 3, .int .i64 0]) ∧ Hid (IRo w' (some ⟨g, 0, none⟩) 2 (fun j => [-1, 0].getD j 0)) ∧ Hid (Up w w')) := fun w => by
    refine (t15 (cap := 2) (tv2 w [5, -1] [3, -1] rfl rfl rfl) (good_of (l := [[5, -1], [3, -1]]) (by decide))).mono ?_
    rintro e w' ⟨g, f, h2, HB, h3⟩
    obtain ⟨⟨p0, p1⟩, p3, p4⟩ := pinB HB.out
    have h2' : e = .returned (.tuple #[.slice (some ⟨g, 0, none⟩) 2 2, .int .i64 (cnt 2 f), .int .i64 (tot 2 (tabT [[5, -1], [3, -1]]) f), .int .i64 0]) := h2
    rw [p3, p4] at h2'
    refine ⟨g, h2', fun j hj => ?_, (Up.alloc _ _).trans ((Up.alloc _ _).trans ((Up.alloc _ _).trans h3.out.up))⟩
    obtain ⟨b, o, e1, e2⟩ := h3.out.iro j hj
    refine ⟨b, o, e1, ?_⟩
    rw [e2]
    have hj' : j < 2 := hj
    rcases (show j = 0 ∨ j = 1 by omega) with rfl | rfl
    · rw [p0]; rfl
    · rw [p1]; rfl
  go_enter Try.func9, Try.ntmps9
  go_wp2_with (first
    | (go_at_call 11; (with_reducible refine C11.out.mono ?_); rintro e w1 ⟨g1, rfl, HI1, HU1⟩)
    | (go_at_call 15; (with_reducible refine (C15.out _).mono ?_); rintro e w2 ⟨g2, rfl, HI2, HU2⟩))
  have C13a : Hid (Calls Try.prog 13 #[.slice (some ⟨g1, 0, none⟩) 3 3, .slice (some ⟨w2.heap.size, 0, none⟩) 3 3] (w2.alloc (.cells #[.int .i64 1, .int .i64 0, .int .i64 2] 3)) fun e w' => e = .returned (.bool true) ∧ Hid (Up w2 w')) := by
    refine (t13 (m := 3) (cq := 3) (HI1.out.up (HU2.out.trans (Up.alloc _ _))) (iro_new (x := [1, 0, 2]) rfl rfl) (by omega)).mono ?_
    rintro e w3 ⟨rfl, k3, rfl⟩
    have e1 : sameB 3 3 (fun j => [1, 0, 2].getD j 0) (fun j => [1, 0, 2].getD j 0) = true := sameB_iff.2 ⟨rfl, fun _ _ => rfl⟩
    exact ⟨by rw [e1], (Up.alloc _ _).trans (Up.drewN _ _)⟩
  have C13b : Hid (∀ w3, Hid (Up w2 w3) → Calls Try.prog 13 #[.slice (some ⟨g2, 0, none⟩) 2 2, .slice (some ⟨w3.heap.size, 0, none⟩) 2 2] (w3.alloc (.cells #[.int .i64 (-1), .int .i64 0] 3)) fun e w' => e = .returned (.bool true) ∧ Hid (Up w2 w')) := fun w3 hu => by
    refine (t13 (m := 2) (cq := 2) (HI2.out.up (hu.out.trans (Up.alloc _ _))) (iro_new (x := [-1, 0]) rfl rfl) (by omega)).mono ?_
    rintro e w4 ⟨rfl, k3, rfl⟩
    have e1 : sameB 2 2 (fun j => [-1, 0].getD j 0) (fun j => [-1, 0].getD j 0) = true := sameB_iff.2 ⟨rfl, fun _ _ => rfl⟩
    exact ⟨by rw [e1], hu.out.trans ((Up.alloc _ _).trans (Up.drewN _ _))⟩
  have HUA : Hid (Up w w2) := HU1.out.trans HU2.out
  (with_reducible refine C13a.out.mono ?_)
  rintro e w3 ⟨rfl, HU3⟩
  go_wp2_with (first | (go_at_call 13; (with_reducible refine (C13b.out w3 HU3).mono ?_); rintro e w4 ⟨rfl, HU4⟩))
  go_ret
  exact ⟨rfl, HUA.out.trans HU4.out⟩
end Go.Proofs.Ytdajgnchgealhaa
