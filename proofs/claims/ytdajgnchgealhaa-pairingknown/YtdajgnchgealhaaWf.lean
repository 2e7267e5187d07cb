/- PairingKnown. -/
import Derived.Test.YtdajgnchgealhaaWe
namespace Go.Proofs.Ytdajgnchgealhaa
open Go.ChangeShapes Go.WideShapes Go.ChangeAt Go.RowKit
attribute [local go_sem] isSome_set

theorem k6 (w : World) : Calls Try.prog 15 #[.slice (some ⟨w.heap.size + 1 + 1, 0, none⟩) 2 2] (((w.alloc (.cells #[] 2)).alloc (.cells #[] 2)).alloc (.cells #[.slice (some ⟨w.heap.size, 0, none⟩) 0 0, .slice (some ⟨w.heap.size + 1, 0, none⟩) 0 0] 43)) fun e w' => ∃ g, e = .returned (.tuple #[.slice (some ⟨g, 0, none⟩) 2 2, .int .i64 0, .int .i64 0, .int .i64 0]) ∧ Hid (IRo w' (some ⟨g, 0, none⟩) 2 (fun j => [-1, -1].getD j 0)) ∧ Hid (Up w w') := by
  refine (t15 (cap := 2) (tv2 w [] [] rfl rfl rfl) (good_of (l := [[], []]) (by decide))).mono ?_
  rintro e w' ⟨g, f, h2, HB, h3⟩
  obtain ⟨⟨p0, p1⟩, p3, p4⟩ := pinF HB.out
  have h2 : e = .returned (.tuple #[.slice (some ⟨g, 0, none⟩) 2 2, .int .i64 (cnt 2 f), .int .i64 (tot 2 (tabT [[], []]) f), .int .i64 0]) := h2
  rw [p3, p4] at h2
  refine ⟨g, h2, fun j hj => ?_, (Up.alloc _ _).trans ((Up.alloc _ _).trans ((Up.alloc _ _).trans (h3.out.up)))⟩
  obtain ⟨b, o, e1, e2⟩ := h3.out.iro j hj
  refine ⟨b, o, e1, ?_⟩
  rw [e2]
  have hj' : j < 2 := hj
  rcases (show j = 0 ∨ j = 1 by omega) with rfl | rfl
  · rw [p0]; rfl
  · rw [p1]; rfl
/-- Too few mates, or too many. -/
theorem t17s {w : World} {p q : Option Addr} {N M cap cq : Nat} {R : Nat → Nat} {T : Nat → Nat → Int} (h : TV w p N R T) (hg : Good N R T) (hM : M ≠ N) : Calls Try.prog 17 #[.slice p N cap, .slice q M cq] w fun e w' => e = .returned (.tuple #[.int .i64 0, .int .i64 5]) ∧ w' = w := by
  have hN := hg.n
  have C24 : Hid (Calls Try.prog 24 #[.slice p N cap] w fun e w' => e = .returned (.int .i64 0) ∧ w' = w) := by
    refine (t24 h (by omega) (fun i hi => by have := (hg.r i hi).1; omega)).mono ?_
    rintro e w' ⟨z, h1, h2, h3⟩
    have := h2.out.good hg
    subst this
    exact ⟨h1, h3⟩
  have hb : ((M : Int) != (N : Int)) = true := by simp; omega
  clear h hg hM
  go_enter Try.func17, Try.ntmps17
  go_wp2_with (first | (go_at_call 24; (with_reducible refine C24.out.mono ?_); rintro e w' ⟨rfl, hw'⟩; subst w'))
  (try simp only [Exit.inBlock, Exit.then])
  go_ret2
  exact ⟨rfl, rfl⟩
theorem k7 (w : World) : Calls Try.prog 17 #[.slice (some ⟨w.heap.size + 1 + 1, 0, none⟩) 2 2, .slice (some ⟨w.heap.size + 1 + 1 + 1, 0, none⟩) 2 2] ((((w.alloc (.cells #[.int .i64 4, .int .i64 1] 2)).alloc (.cells #[.int .i64 2, .int .i64 0] 2)).alloc (.cells #[.slice (some ⟨w.heap.size, 0, none⟩) 2 2, .slice (some ⟨w.heap.size + 1, 0, none⟩) 2 2] 43)).alloc (.cells #[.int .i64 1, .int .i64 0] 3)) fun e w' => e = .returned (.tuple #[.int .i64 3, .int .i64 0]) ∧ Hid (Up w w') := by
  have h1 := (tv2 w [4, 1] [2, 0] (b := #[.slice (some ⟨w.heap.size, 0, none⟩) 2 2, .slice (some ⟨w.heap.size + 1, 0, none⟩) 2 2]) rfl rfl rfl).up (Up.alloc _ (.cells #[.int .i64 1, .int .i64 0] 3))
  have h2 : IRo ((((w.alloc (.cells #[.int .i64 4, .int .i64 1] 2)).alloc (.cells #[.int .i64 2, .int .i64 0] 2)).alloc (.cells #[.slice (some ⟨w.heap.size, 0, none⟩) 2 2, .slice (some ⟨w.heap.size + 1, 0, none⟩) 2 2] 43)).alloc (.cells #[.int .i64 1, .int .i64 0] 3)) (some ⟨w.heap.size + 1 + 1 + 1, 0, none⟩) 2 (fun j => [1, 0].getD j 0) := iro_new (x := [1, 0]) rfl (by simp)
  refine (t17 (cap := 2) (cq := 2) h1 h2 (good_of (l := [[4, 1], [2, 0]]) (by decide))).mono ?_
  have hp : IsP 2 (tabR [[4, 1], [2, 0]]) (tabT [[4, 1], [2, 0]]) (fun j => [1, 0].getD j 0) := by
    refine ⟨fun i hi => ?_, fun i i' hi hi' he hne => ?_⟩
    · rcases (show i = 0 ∨ i = 1 by omega) with rfl | rfl
      · exact Or.inr ⟨1, rfl, by decide, by decide⟩
      · exact Or.inr ⟨0, rfl, by decide, by decide⟩
    · revert he hne
      rcases (show i = 0 ∨ i = 1 by omega) with rfl | rfl <;> rcases (show i' = 0 ∨ i' = 1 by omega) with rfl | rfl <;> simp
  rintro e w' ⟨⟨_, h3⟩ | ⟨h3, _⟩, h4⟩
  · exact ⟨h3, (Up.alloc _ _).trans ((Up.alloc _ _).trans ((Up.alloc _ _).trans ((Up.alloc _ _).trans (h4.out))))⟩
  · exact absurd hp h3.out
theorem k8 (w : World) : Calls Try.prog 17 #[.slice (some ⟨w.heap.size + 1 + 1, 0, none⟩) 2 2, .slice (some ⟨w.heap.size + 1 + 1 + 1, 0, none⟩) 2 2] ((((w.alloc (.cells #[.int .i64 4, .int .i64 1] 2)).alloc (.cells #[.int .i64 2, .int .i64 0] 2)).alloc (.cells #[.slice (some ⟨w.heap.size, 0, none⟩) 2 2, .slice (some ⟨w.heap.size + 1, 0, none⟩) 2 2] 43)).alloc (.cells #[.int .i64 1, .int .i64 1] 3)) fun e w' => e = .returned (.tuple #[.int .i64 0, .int .i64 170]) ∧ Hid (Up w w') := by
  have h1 := (tv2 w [4, 1] [2, 0] (b := #[.slice (some ⟨w.heap.size, 0, none⟩) 2 2, .slice (some ⟨w.heap.size + 1, 0, none⟩) 2 2]) rfl rfl rfl).up (Up.alloc _ (.cells #[.int .i64 1, .int .i64 1] 3))
  have h2 : IRo ((((w.alloc (.cells #[.int .i64 4, .int .i64 1] 2)).alloc (.cells #[.int .i64 2, .int .i64 0] 2)).alloc (.cells #[.slice (some ⟨w.heap.size, 0, none⟩) 2 2, .slice (some ⟨w.heap.size + 1, 0, none⟩) 2 2] 43)).alloc (.cells #[.int .i64 1, .int .i64 1] 3)) (some ⟨w.heap.size + 1 + 1 + 1, 0, none⟩) 2 (fun j => [1, 1].getD j 0) := iro_new (x := [1, 1]) rfl (by simp)
  refine (t17 (cap := 2) (cq := 2) h1 h2 (good_of (l := [[4, 1], [2, 0]]) (by decide))).mono ?_
  rintro e w' ⟨⟨h3, _⟩ | ⟨_, h3⟩, h4⟩
  · have := h3.out.inj 0 1 (by omega) (by omega) rfl (by decide)
    omega
  · exact ⟨h3, (Up.alloc _ _).trans ((Up.alloc _ _).trans ((Up.alloc _ _).trans ((Up.alloc _ _).trans (h4.out))))⟩
theorem k9 (w : World) : Calls Try.prog 17 #[.slice (some ⟨w.heap.size + 1 + 1, 0, none⟩) 2 2, .slice (some ⟨w.heap.size + 1 + 1 + 1, 0, none⟩) 1 1] ((((w.alloc (.cells #[.int .i64 4, .int .i64 1] 2)).alloc (.cells #[.int .i64 2, .int .i64 0] 2)).alloc (.cells #[.slice (some ⟨w.heap.size, 0, none⟩) 2 2, .slice (some ⟨w.heap.size + 1, 0, none⟩) 2 2] 43)).alloc (.cells #[.int .i64 0] 3)) fun e w' => e = .returned (.tuple #[.int .i64 0, .int .i64 5]) ∧ Hid (Up w w') := by
  have h1 := (tv2 w [4, 1] [2, 0] (b := #[.slice (some ⟨w.heap.size, 0, none⟩) 2 2, .slice (some ⟨w.heap.size + 1, 0, none⟩) 2 2]) rfl rfl rfl).up (Up.alloc _ (.cells #[.int .i64 0] 3))
  refine (t17s (M := 1) (cap := 2) h1 (good_of (l := [[4, 1], [2, 0]]) (by decide)) (by omega)).mono ?_
  rintro e w' ⟨h2, rfl⟩
  exact ⟨h2, (Up.alloc _ _).trans ((Up.alloc _ _).trans ((Up.alloc _ _).trans ((Up.alloc _ _).trans (Up.refl _))))⟩
theorem k10 (w : World) : Calls Try.prog 17 #[.slice (some ⟨w.heap.size + 1 + 1, 0, none⟩) 2 2, .slice (some ⟨w.heap.size + 1 + 1 + 1, 0, none⟩) 2 2] ((((w.alloc (.cells #[.int .i64 4, .int .i64 1] 2)).alloc (.cells #[.int .i64 2, .int .i64 0] 2)).alloc (.cells #[.slice (some ⟨w.heap.size, 0, none⟩) 2 2, .slice (some ⟨w.heap.size + 1, 0, none⟩) 2 2] 43)).alloc (.cells #[.int .i64 (-1), .int .i64 0] 3)) fun e w' => e = .returned (.tuple #[.int .i64 2, .int .i64 0]) ∧ Hid (Up w w') := by
  have h1 := (tv2 w [4, 1] [2, 0] (b := #[.slice (some ⟨w.heap.size, 0, none⟩) 2 2, .slice (some ⟨w.heap.size + 1, 0, none⟩) 2 2]) rfl rfl rfl).up (Up.alloc _ (.cells #[.int .i64 (-1), .int .i64 0] 3))
  have h2 : IRo ((((w.alloc (.cells #[.int .i64 4, .int .i64 1] 2)).alloc (.cells #[.int .i64 2, .int .i64 0] 2)).alloc (.cells #[.slice (some ⟨w.heap.size, 0, none⟩) 2 2, .slice (some ⟨w.heap.size + 1, 0, none⟩) 2 2] 43)).alloc (.cells #[.int .i64 (-1), .int .i64 0] 3)) (some ⟨w.heap.size + 1 + 1 + 1, 0, none⟩) 2 (fun j => [-1, 0].getD j 0) := iro_new (x := [-1, 0]) rfl (by simp)
  refine (t17 (cap := 2) (cq := 2) h1 h2 (good_of (l := [[4, 1], [2, 0]]) (by decide))).mono ?_
  have hp : IsP 2 (tabR [[4, 1], [2, 0]]) (tabT [[4, 1], [2, 0]]) (fun j => [-1, 0].getD j 0) := by
    refine ⟨fun i hi => ?_, fun i i' hi hi' he hne => ?_⟩
    · rcases (show i = 0 ∨ i = 1 by omega) with rfl | rfl
      · exact Or.inl rfl
      · exact Or.inr ⟨0, rfl, by decide, by decide⟩
    · revert he hne
      rcases (show i = 0 ∨ i = 1 by omega) with rfl | rfl <;> rcases (show i' = 0 ∨ i' = 1 by omega) with rfl | rfl <;> simp
  rintro e w' ⟨⟨_, h3⟩ | ⟨h3, _⟩, h4⟩
  · exact ⟨h3, (Up.alloc _ _).trans ((Up.alloc _ _).trans ((Up.alloc _ _).trans ((Up.alloc _ _).trans (h4.out))))⟩
  · exact absurd hp h3.out
theorem same_lit {w : World} {g n : Nat} {x : List Int} (h : IRo w (some ⟨g, 0, none⟩) n (fun j => x.getD j 0)) (hn : x.length = n) (hs : n ≤ 3) {W : World} (hu : Up w W) {a : Array Value} (ha : a = (x.map (Value.int .i64)).toArray) : Calls Try.prog 13 #[.slice (some ⟨g, 0, none⟩) n n, .slice (some ⟨W.heap.size, 0, none⟩) n n] (W.alloc (.cells a 3)) fun e w' => e = .returned (.bool true) ∧ Hid (Up w w') := by
  have h2 : IRo (W.alloc (.cells a 3)) (some ⟨W.heap.size, 0, none⟩) n (fun j => x.getD j 0) := hn ▸ iro_new ha rfl
  refine (t13 (h.up (hu.trans (Up.alloc _ _))) h2 (by omega)).mono ?_
  rintro e w' ⟨rfl, k, rfl⟩
  have e1 : sameB n n (fun j => x.getD j 0) (fun j => x.getD j 0) = true := sameB_iff.2 ⟨rfl, fun _ _ => rfl⟩
  exact ⟨by rw [e1], hu.trans ((Up.alloc _ _).trans (Up.drewN _ _))⟩
set_option maxRecDepth 20000 in
set_option maxHeartbeats 4000000 in
theorem t7 (w : World) : Calls Try.prog 7 #[] w fun e w' => e = .returned (.bool true) ∧ Hid (Up w w') := by
  go_enter Try.func7, Try.ntmps7
  go_wp2_with (first
    | (go_at_call 11; (with_reducible refine (k1 _).mono ?_); rintro e w1 ⟨g1, rfl, HI1, HU1⟩)
    | (go_at_call 11; (with_reducible refine (k2 _).mono ?_); rintro e w2 ⟨rfl, HU2⟩)
    | (go_at_call 15; (with_reducible refine (k3 _).mono ?_); rintro e w3 ⟨g3, rfl, HI3, HU3⟩)
    | (go_at_call 11; (with_reducible refine (k4 _).mono ?_); rintro e w4 ⟨rfl, HU4⟩)
    | (go_at_call 11; (with_reducible refine (k5 _).mono ?_); rintro e w5 ⟨g5, rfl, HU5⟩)
    | (go_at_call 15; (with_reducible refine (k6 _).mono ?_); rintro e w6 ⟨g6, rfl, HI6, HU6⟩)
    | (go_at_call 17; (with_reducible refine (k7 _).mono ?_); rintro e w7 ⟨rfl, HU7⟩)
    | (go_at_call 17; (with_reducible refine (k8 _).mono ?_); rintro e w8 ⟨rfl, HU8⟩)
    | (go_at_call 17; (with_reducible refine (k9 _).mono ?_); rintro e w9 ⟨rfl, HU9⟩)
    | (go_at_call 17; (with_reducible refine (k10 _).mono ?_); rintro e w10 ⟨rfl, HU10⟩)
    | (go_at_call 11; (with_reducible refine (k11 _).mono ?_); rintro e w11 ⟨rfl, HU11⟩)
    | (go_at_call 11; (with_reducible refine (k12 _).mono ?_); rintro e w12 ⟨rfl, HU12⟩))
  have U6 : Hid (Up w6 w12) := HU7.out.trans (HU8.out.trans (HU9.out.trans (HU10.out.trans (HU11.out.trans HU12.out))))
  have U3 : Hid (Up w3 w12) := HU4.out.trans (HU5.out.trans (HU6.out.trans U6.out))
  have U1 : Hid (Up w1 w12) := HU2.out.trans (HU3.out.trans U3.out)
  have U0 : Hid (Up w w12) := HU1.out.trans U1.out
  have CA : Hid (Calls Try.prog 13 #[.slice (some ⟨g1, 0, none⟩) 2 2, .slice (some ⟨w12.heap.size, 0, none⟩) 2 2] (w12.alloc (.cells #[.int .i64 0, .int .i64 1] 3)) fun e w' => e = .returned (.bool true) ∧ Hid (Up w12 w')) := same_lit (w := w12) (x := [0, 1]) (HI1.out.up U1.out) rfl (by omega) (Up.refl _) rfl
  have CB : Hid (∀ W, Hid (Up w12 W) → Calls Try.prog 13 #[.slice (some ⟨g3, 0, none⟩) 2 2, .slice (some ⟨W.heap.size, 0, none⟩) 2 2] (W.alloc (.cells #[.int .i64 0, .int .i64 (-1)] 3)) fun e w' => e = .returned (.bool true) ∧ Hid (Up w12 w')) := fun W hu => same_lit (w := w12) (x := [0, -1]) (HI3.out.up U3.out) rfl (by omega) hu.out rfl
  have CC : Hid (∀ W, Hid (Up w12 W) → Calls Try.prog 13 #[.slice (some ⟨g6, 0, none⟩) 2 2, .slice (some ⟨W.heap.size, 0, none⟩) 2 2] (W.alloc (.cells #[.int .i64 (-1), .int .i64 (-1)] 3)) fun e w' => e = .returned (.bool true) ∧ Hid (Up w12 w')) := fun W hu => same_lit (w := w12) (x := [-1, -1]) (HI6.out.up U6.out) rfl (by omega) hu.out rfl
  (with_reducible refine CA.out.mono ?_)
  rintro e w13 ⟨rfl, HU13⟩
  go_wp2_with (first
    | (go_at_call 13; (with_reducible refine (CB.out _ HU13).mono ?_); rintro e w14 ⟨rfl, HU14⟩)
    | (go_at_call 13; (with_reducible refine (CC.out _ HU14).mono ?_); rintro e w15 ⟨rfl, HU15⟩)
    | (go_at_call 9; (with_reducible refine (t9 _).mono ?_); rintro e w16 ⟨rfl, HU16⟩))
  go_ret
  exact ⟨rfl, U0.out.trans (HU15.out.trans HU16.out)⟩
end Go.Proofs.Ytdajgnchgealhaa
