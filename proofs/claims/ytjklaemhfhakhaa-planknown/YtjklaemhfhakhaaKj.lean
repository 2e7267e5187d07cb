/- far: the walk. -/
import Derived.Test.YtjklaemhfhakhaaKi
namespace Go.Proofs.Ytjklaemhfhakhaa
open Go.ChangeShapes Go.WideShapes Go.ChangeAt Go.RowKit

set_option maxRecDepth 200000 in
set_option maxHeartbeats 8000000 in
theorem t23 {w0 w : World} {B b : Nat} (h : PL w0 w B [⟨b, 2, fU 0⟩]) : Calls Try.prog 23 #[.pointer (some ⟨b, 0, none⟩)] w (fun e w' => e = .returned (.bool true) ∧ Hid (Up w0 w')) := by
  have H0 : Hid (PL w0 w B [⟨b, 2, fU 0⟩]) := h
  have D10 : ∀ W, Hid (PL w0 W B [⟨b, 2, fU 65536⟩] → Calls Try.prog 10 #[.slice (some ⟨W.heap.size, 0, none⟩) 2 2] (W.alloc (.cells #[.int .i64 1099511627776, .int .i64 1099511627776, .int .i64 0, .int .i64 1099511627776, .int .i64 1099511627776, .int .i64 1] 26)) (fun e w' => ∃ b1, e = .returned (.tuple #[.pointer (some ⟨b1, 0, none⟩), .int .i64 0]) ∧ Hid (PL w0 w' w'.heap.size [⟨b, 2, fU 65536⟩, ⟨b1, 2, newP vT⟩]) ∧ Hid (Up W w'))) := fun W hW => by
    refine ((hW.upw (Up.alloc _ _)).c10 (tl_tw W ⟨1099511627776, 1099511627776, 0⟩ ⟨1099511627776, 1099511627776, 1⟩) (by omega) (may_tw (mayI (by decide) (by decide) (by decide)) (mayI (by decide) (by decide) (by decide)))).mono ?_
    rintro e w' ⟨b1, rfl, k1, k2⟩
    exact ⟨b1, rfl, k1, (Up.alloc _ _).trans k2.out⟩
  have E10 : ∀ W BB b1, Hid (PL w0 W BB [⟨b, 2, fU 65536⟩, ⟨b1, 2, newP vT⟩] → Calls Try.prog 10 #[.slice (some ⟨W.heap.size, 0, none⟩) 1 1] (W.alloc (.cells #[.int .i64 1099511627776, .int .i64 1, .int .i64 0] 26)) (fun e w' => ∃ b2, e = .returned (.tuple #[.pointer (some ⟨b2, 0, none⟩), .int .i64 0]) ∧ Hid (PL w0 w' w'.heap.size [⟨b, 2, fU 65536⟩, ⟨b1, 2, newP vT⟩, ⟨b2, 1, fW 0⟩]))) := fun W BB b1 hW => by
    refine ((hW.upw (Up.alloc _ _)).c10 (tl_tn W ⟨1099511627776, 1, 0⟩) (by omega) (fun i _ => mayI (by show (1 : Int) ≤ 1; decide) (by show (1 : Int) ≤ 1099511627776; decide) (by show (1099511627776 : Int) ≤ 1099511627776; decide))).mono ?_
    rintro e w' ⟨b2, rfl, k1, k2⟩
    rw [fW_0] at k1
    exact ⟨b2, rfl, k1⟩
  have D17 : ∀ W BB b1 b2, Hid (PL w0 W BB [⟨b, 2, fU 65536⟩, ⟨b1, 2, newP vT⟩, ⟨b2, 1, fW 0⟩] → Calls Try.prog 17 #[.pointer (some ⟨b1, 0, none⟩)] W (fun e w' => e = .returned (.tuple #[.agg #[.int .i64 1, .int .i64 0, .int .i64 1099511627776, .bool false], .int .i64 0]) ∧ Hid (PL w0 w' BB [⟨b, 2, fU 65536⟩, ⟨b1, 2, v1⟩, ⟨b2, 1, fW 0⟩]))) := fun W BB b1 b2 hW => by
    refine (hW.c17k 1 rfl (by omega) (by omega) v_e1 (by omega) v_s1 rfl).mono ?_
    rintro e w' ⟨rfl, k1, k2⟩
    exact ⟨rfl, k1⟩
  have E17 : ∀ W BB b1 b2, Hid (PL w0 W BB [⟨b, 2, fU 65536⟩, ⟨b1, 2, v1⟩, ⟨b2, 1, fW 0⟩] → Calls Try.prog 17 #[.pointer (some ⟨b1, 0, none⟩)] W (fun e w' => e = .returned (.tuple #[.agg #[.int .i64 0, .int .i64 1099511627776, .int .i64 2199023255552, .bool true], .int .i64 0]) ∧ Hid (PL w0 w' BB [⟨b, 2, fU 65536⟩, ⟨b1, 2, v2⟩, ⟨b2, 1, fW 0⟩]) ∧ Hid (Kp (Fa w0 BB) W w'))) := fun W BB b1 b2 hW => by
    refine (hW.c17k 1 rfl (by omega) (by omega) v_e2 (by omega) v_s2 rfl).mono ?_
    rintro e w' ⟨rfl, k1, k2⟩
    exact ⟨rfl, k1, k2⟩
  have D13 : ∀ W BB b1 b2, Hid (PL w0 W BB [⟨b, 2, fU 65536⟩, ⟨b1, 2, v2⟩, ⟨b2, 1, fW 0⟩] → Calls Try.prog 13 #[.pointer (some ⟨b1, 0, none⟩)] W (VU W (.tuple #[.int .i64 2, .int .i64 1]))) := fun W BB b1 b2 hW => by
    have := hW.c13 1 rfl (by omega) (fun _ => 1099511627776) (fun _ => 1099511627776) (fun i hi => by
      rcases (show i = 0 ∨ i = 1 by omega) with rfl | rfl
      · rw [v_l.1]; exact ⟨rfl, rfl, by decide, by decide, by decide⟩
      · rw [v_l.2]; exact ⟨rfl, rfl, by decide, by decide, by decide⟩)
    rw [v_load] at this
    exact this
  clear h
  go_enter Try.func23, Try.ntmps23
  go_wp2_with (first
    | (go_at_call 18; (with_reducible refine (far_u H0.out).mono ?_); rintro e w1 ⟨g, c, rfl, HX1, HS1, HG1⟩; (obtain ⟨x0, x1, x2, x3⟩ := HS1.out); simp only [Nat.reduceAdd] at x0 x1 x2 x3)
    | (go_at_call 15; (with_reducible refine (HX1.out.c15 0 rfl).mono ?_); rintro e w2 ⟨rfl, hw2⟩; subst hw2)
    | (go_at_call 10; (with_reducible refine ((D10 _).out HX1.out).mono ?_); rintro e w3 ⟨b1, rfl, HX3, HU3⟩)
    | (go_at_call 10; (with_reducible refine ((E10 _ _ _).out HX3.out).mono ?_); rintro e w4 ⟨b2, rfl, HX4⟩)
    | (go_at_call 17; (with_reducible refine ((D17 _ _ _ _).out HX4.out).mono ?_); rintro e w5 ⟨rfl, HX5⟩; (have HX5a : Hid _ := HX5.out.upw (Up.alloc w5 (.cells #[.int .i64 1, .int .i64 0, .int .i64 1099511627776, .bool false] 42))); (have HA5 : Hid (SlAt _ w5.heap.size 0 ⟨1, 0, 1099511627776, false⟩) := slot_new w5 ⟨1, 0, 1099511627776, false⟩); (have HB5 := HX5.out.hi))
    | (go_at_call 17; (with_reducible refine ((E17 _ _ _ _).out HX5a.out).mono ?_); rintro e w6 ⟨rfl, HX6, HK6⟩; (have HX6a : Hid _ := HX6.out.upw (Up.alloc w6 (.cells #[.int .i64 0, .int .i64 1099511627776, .int .i64 2199023255552, .bool true] 42))); (have HA6 : Hid (SlAt _ w5.heap.size 0 ⟨1, 0, 1099511627776, false⟩) := (HA5.out.keep HB5 HK6.out).up (Up.alloc w6 (.cells #[.int .i64 0, .int .i64 1099511627776, .int .i64 2199023255552, .bool true] 42))); (have HC6 : Hid (SlAt _ w6.heap.size 0 ⟨0, 1099511627776, 2199023255552, true⟩) := slot_new w6 ⟨0, 1099511627776, 2199023255552, true⟩))
    | (go_at_call 13; (with_reducible refine ((D13 _ _ _ _).out HX6a.out).mono ?_); rintro e w7 ⟨rfl, HU7⟩; (obtain ⟨y0, y1, y2, y3⟩ := HA6.out.up HU7.out); (obtain ⟨z0, z1, z2, z3⟩ := HC6.out.up HU7.out); simp only [Nat.zero_add] at y0 y1 y2 y3 z0 z1 z2 z3; (have HX7 : Hid _ := HX6a.out.upw HU7.out))
    | (go_at_call 18; (with_reducible refine (far_w HX7.out).mono ?_); rintro e w8 ⟨g8, c8, rfl, HX8, HS8, HG8⟩)
    | (go_at_call 18; (with_reducible refine (far_w2 HX8.out).mono ?_); rintro e w9 ⟨v9, rfl, HU9, HK9⟩; (obtain ⟨s0, s1, s2, s3⟩ := HS8.out.keep HG8.out HK9.out); simp only [Nat.reduceAdd] at s0 s1 s2 s3))
  go_ret
  exact ⟨rfl, HU9⟩
end Go.Proofs.Ytjklaemhfhakhaa
