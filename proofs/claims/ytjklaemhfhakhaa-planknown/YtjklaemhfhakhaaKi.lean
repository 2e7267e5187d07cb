/- far. -/
import Derived.Test.YtjklaemhfhakhaaKh
namespace Go.Proofs.Ytjklaemhfhakhaa
open Go.ChangeShapes Go.WideShapes Go.ChangeAt Go.RowKit

theorem PL.only {w0 w : World} {B : Nat} {l : List PE} (h : PL w0 w B l) {k : Nat} {x : PE} (hx : l[k]? = some x) : PL w0 w B [x] := by
  obtain ⟨Ls, h1, h2⟩ := h.pl
  have z : ∀ i y, [x][i]? = some y → i = 0 ∧ y = x := fun i y hy => by
    cases i with
    | zero => simp only [List.getElem?_cons_zero, Option.some.injEq] at hy; exact ⟨rfl, hy.symm⟩
    | succ i => simp at hy
  refine ⟨h.up, h.lo, h.hi, fun _ => Ls k, fun i y hy => ?_, fun i j y y' hy hy' hij => ?_⟩
  · obtain ⟨rfl, rfl⟩ := z i y hy
    exact h1 k _ hx
  · exact absurd ((z i y hy).1.trans (z j y' hy').1.symm) hij
theorem PL.c17f {w0 w : World} {B : Nat} {l : List PE} (h : PL w0 w B l) (k : Nat) {b n : Nat} {p : Pl} (hx : l[k]? = some ⟨b, n, p⟩) (hn : n ≤ 256) (h0 : 0 < n) (ht : 1152921504606846976 < nextE n p) : Calls Try.prog 17 #[.pointer (some ⟨b, 0, none⟩)] w (VU w (.tuple #[.agg #[.int .i64 0, .int .i64 0, .int .i64 0, .bool false], .int .i64 3])) := by
  obtain ⟨Ls, h1, h2⟩ := h.pl
  obtain ⟨k1, k2, k3⟩ := h1 k _ hx
  obtain ⟨m, f, q1, q2, q3⟩ := next_of k1.pb h0
  have := t17f k1.pw k1.ok k1.pb hn q1.runs q3 ht
  simp only at k2
  rw [k2] at this
  exact this
theorem PL.c17z {w0 w : World} {B : Nat} {l : List PE} (h : PL w0 w B l) (k : Nat) {b : Nat} {p : Pl} (hx : l[k]? = some ⟨b, 0, p⟩) : Calls Try.prog 17 #[.pointer (some ⟨b, 0, none⟩)] w (VU w (.tuple #[.agg #[.int .i64 0, .int .i64 0, .int .i64 0, .bool false], .int .i64 240])) := by
  obtain ⟨Ls, h1, h2⟩ := h.pl
  obtain ⟨k1, k2, k3⟩ := h1 k _ hx
  have := t17z k1.pw
  simp only at k2
  rw [k2] at this
  exact this
theorem PL.c17k {w0 w : World} {B : Nat} {l : List PE} (h : PL w0 w B l) (k : Nat) {b n : Nat} {p p' : Pl} (hx : l[k]? = some ⟨b, n, p⟩) (hn : n ≤ 256) (h0 : 0 < n) {E : Int} (he : nextE n p = E) (ht : E ≤ 1152921504606846976) {s : Sl} (hs : (nextP n p).1 = s) (hp : (nextP n p).2 = p') :
    Calls Try.prog 17 #[.pointer (some ⟨b, 0, none⟩)] w (fun e w' => e = .returned (.tuple #[.agg #[.int .i64 s.t, .int .i64 s.f, .int .i64 s.e, .bool s.l], .int .i64 0]) ∧ Hid (PL w0 w' B (l.set k ⟨b, n, p'⟩)) ∧ Hid (Kp (Fa w0 B) w w')) := by
  have := h.c17 k hx hn h0 (by rw [he]; exact ht)
  rw [hs, hp] at this
  exact this
/-- A stretch that is laid for itself. -/
theorem slot_new (w : World) (s : Sl) : SlAt (w.alloc (.cells #[.int .i64 s.t, .int .i64 s.f, .int .i64 s.e, .bool s.l] 42)) w.heap.size 0 s := by
  have e := heap_alloc_last w (.cells #[.int .i64 s.t, .int .i64 s.f, .int .i64 s.e, .bool s.l] 42)
  exact ⟨(row_cell e 0).1, (row_cell e 1).1, (row_cell e 2).1, (row_cell e 3).1⟩
theorem far_u {w0 w : World} {B b : Nat} (h : PL w0 w B [⟨b, 2, fU 0⟩]) : Calls Try.prog 18 #[.pointer (some ⟨b, 0, none⟩), .int .i64 70000] w (fun e w' => ∃ g c, e = .returned (.slice (some ⟨g, 0, none⟩) 65536 c) ∧ Hid (PL w0 w' B [⟨b, 2, fU 65536⟩]) ∧ Hid (SlAt w' g 262140 ⟨1, 65535, 65536, false⟩) ∧ Hid (B ≤ g)) := by
  obtain ⟨K, hK⟩ : ∃ K, K = 65536 := ⟨_, rfl⟩
  have hu := fU_until (tick := 70000) K 0 (by omega) (by omega)
  rw [Nat.zero_add] at hu
  have hD := slN_len K (fun i => (⟨1, (0 + i : Nat), (0 + i + 1 : Nat), false⟩ : Sl))
  have hl : (slN (fun i => (⟨1, (0 + i : Nat), (0 + i + 1 : Nat), false⟩ : Sl)) K)[65535]? = some ⟨1, 65535, 65536, false⟩ := slN_at K _ 65535 (by omega)
  generalize slN (fun i => (⟨1, (0 + i : Nat), (0 + i + 1 : Nat), false⟩ : Sl)) K = D at *
  subst hK
  refine (h.c18 0 rfl (by omega) 70000 70000 (by omega) (by omega) hu).mono ?_
  rintro e w' ⟨q, c, rfl, k1, k2, k3⟩
  rw [hD] at k1 ⊢
  obtain ⟨g, rfl, g1, g2, g3⟩ := SO.sl k1.out (by omega)
  refine ⟨g, c, rfl, k2, ?_, Nat.le_trans h.hi g1⟩
  exact (k1.out.getS hl).2.2
theorem far_w {w0 w : World} {B b b1 b2 : Nat} {p1 p2 : Pl} (h : PL w0 w B [⟨b, 2, p1⟩, ⟨b1, 2, p2⟩, ⟨b2, 1, fW 0⟩]) : Calls Try.prog 18 #[.pointer (some ⟨b2, 0, none⟩), .int .i64 1152921504606846981] w (fun e w' => ∃ g c, e = .returned (.slice (some ⟨g, 0, none⟩) 65536 c) ∧ Hid (PL w0 w' B [⟨b, 2, p1⟩, ⟨b1, 2, p2⟩, ⟨b2, 1, fW 65536⟩]) ∧ Hid (SlAt w' g 4 ⟨0, 1099511627776, 1099511627777, false⟩) ∧ Hid (B ≤ g)) := by
  obtain ⟨K, hK⟩ : ∃ K, K = 65536 := ⟨_, rfl⟩
  have hu := fW_until (tick := 1152921504606846976) (by omega) K 0 (by omega)
  rw [Nat.zero_add] at hu
  have hD := slN_len K (fun i => (⟨0, (0 + i : Nat) * 1099511627776, (0 + i : Nat) * 1099511627776 + 1, false⟩ : Sl))
  have hl : (slN (fun i => (⟨0, (0 + i : Nat) * 1099511627776, (0 + i : Nat) * 1099511627776 + 1, false⟩ : Sl)) K)[1]? = some ⟨0, 1099511627776, 1099511627777, false⟩ := slN_at K _ 1 (by omega)
  generalize slN (fun i => (⟨0, (0 + i : Nat) * 1099511627776, (0 + i : Nat) * 1099511627776 + 1, false⟩ : Sl)) K = D at *
  subst hK
  refine (h.c18 2 rfl (by omega) 1152921504606846981 1152921504606846976 (by omega) (by omega) hu).mono ?_
  rintro e w' ⟨q, c, rfl, k1, k2, k3⟩
  rw [hD] at k1 ⊢
  obtain ⟨g, rfl, g1, g2, g3⟩ := SO.sl k1.out (by omega)
  exact ⟨g, c, rfl, k2, (k1.out.getS hl).2.2, Nat.le_trans h.hi g1⟩
theorem far_w2 {w0 w : World} {B b b1 b2 : Nat} {p1 p2 : Pl} (h : PL w0 w B [⟨b, 2, p1⟩, ⟨b1, 2, p2⟩, ⟨b2, 1, fW 65536⟩]) : Calls Try.prog 18 #[.pointer (some ⟨b2, 0, none⟩), .int .i64 1152921504606846976] w (fun e w' => ∃ v, e = .returned v ∧ Hid (Up w0 w') ∧ Hid (Kp (Fa w0 B) w w')) := by
  obtain ⟨⟨D, p'⟩, hu⟩ : ∃ x, untilN 1 1152921504606846976 65536 (fW 65536) = x := ⟨_, rfl⟩
  refine (h.c18 2 rfl (by omega) 1152921504606846976 1152921504606846976 (by omega) (by omega) hu).mono ?_
  rintro e w' ⟨q, c, rfl, k1, k2, k3⟩
  exact ⟨_, rfl, k2.out.up, k3⟩
end Go.Proofs.Ytjklaemhfhakhaa
/- far: the walk. -/
namespace Go.Proofs.Ytjklaemhfhakhaa
open Go.ChangeShapes Go.WideShapes Go.ChangeAt Go.RowKit

set_option maxRecDepth 200000 in
set_option maxHeartbeats 8000000 in
theorem t23 {w0 w : World} {B b : Nat} (h : PL w0 w B [⟨b, 2, fU 0⟩]) : Calls Try.prog 23 #[.pointer (some ⟨b, 0, none⟩)] w (fun e w' => e = .returned (.bool true) ∧ Hid (Up w0 w')) := by
  have H0 : Hid (PL w0 w B [⟨b, 2, fU 0⟩]) := h
  have D10 : ∀ W, Hid (PL w0 W B [⟨b, 2, fU 65536⟩] → Calls Try.prog 10 #[.slice (some ⟨W.heap.size, 0, none⟩) 2 2] (W.alloc (.cells #[.int .i64 1099511627776, .int .i64 1099511627776, .int .i64 0, .int .i64 1099511627776, .int .i64 1099511627776, .int .i64 1] 26)) (fun e w' => ∃ b1, e = .returned (.tuple #[.pointer (some ⟨b1, 0, none⟩), .int .i64 0]) ∧ Hid (PL w0 w' w'.heap.size [⟨b, 2, fU 65536⟩, ⟨b1, 2, newP vT⟩]) ∧ Hid (Up W w'))) := fun W hW => by
    refine ((hW.upw (Up.alloc _ _)).c10 (tl_tw W ⟨1099511627776, 1099511627776, 0⟩ ⟨1099511627776, 1099511627776, 1⟩) (by omega) (may_tw (mayI (by decide) (by decide) (by decide)) (mayI (by decide) (by decide) (by decide)))).mono ?_
    rintro e w' ⟨b1, rfl, k1, k2⟩
    exact ⟨b1, rfl, k1, (Up.alloc _ _).trans k2.out⟩
  have E10 : ∀ W BB b1, Hid (PL w0 W BB [⟨b, 2, fU 65536⟩, ⟨b1, 2, newP vT⟩] → Calls Try.prog 10 #[.slice (some ⟨W.heap.size, 0, none⟩) 1 1] (W.alloc (.cells #[.int .i64 1099511627776, .int .i64 1, .int .i64 0] 26)) (fun e w' => ∃ b2, e = .returned (.tuple #[.pointer (some ⟨b2, 0, none⟩), .int .i64 0]) ∧ Hid (PL w0 w' w'.heap.size [⟨b, 2, fU 65536⟩, ⟨b1, 2, newP vT⟩, ⟨b2, 1, fW 0⟩]))) := fun W BB b1 hW => by
    refine ((hW.upw (Up.alloc _ _)).c10 (tl_tn W ⟨1099511627776, 1, 0⟩) (by omega) (fun i _ => mayI (by show (1 : Int) ≤ 1; decide) (by show (1 : Int) ≤ 1099511627776; decide) (by show (1099511627776 : Int) ≤ 1099511627776; decide))).mono ?_
    rintro e w' ⟨b2, rfl, k1, k2⟩
    rw [fW_0] at k1
    exact ⟨b2, rfl, k1⟩
  have D17 : ∀ W BB b1 b2, Hid (PL w0 W BB [⟨b, 2, fU 65536⟩, ⟨b1, 2, newP vT⟩, ⟨b2, 1, fW 0⟩] → Calls Try.prog 17 #[.pointer (some ⟨b1, 0, none⟩)] W (fun e w' => e = .returned (.tuple #[.agg #[.int .i64 1, .int .i64 0, .int .i64 1099511627776, .bool false], .int .i64 0]) ∧ Hid (PL w0 w' BB [⟨b, 2, fU 65536⟩, ⟨b1, 2, v1⟩, ⟨b2, 1, fW 0⟩]))) := fun W BB b1 b2 hW => by
    refine (hW.c17k 1 rfl (by omega) (by omega) v_e1 (by omega) v_s1 rfl).mono ?_
    rintro e w' ⟨rfl, k1, k2⟩
    exact ⟨rfl, k1⟩
  have E17 : ∀ W BB b1 b2, Hid (PL w0 W BB [⟨b, 2, fU 65536⟩, ⟨b1, 2, v1⟩, ⟨b2, 1, fW 0⟩] → Calls Try.prog 17 #[.pointer (some ⟨b1, 0, none⟩)] W (fun e w' => e = .returned (.tuple #[.agg #[.int .i64 0, .int .i64 1099511627776, .int .i64 2199023255552, .bool true], .int .i64 0]) ∧ Hid (PL w0 w' BB [⟨b, 2, fU 65536⟩, ⟨b1, 2, v2⟩, ⟨b2, 1, fW 0⟩]) ∧ Hid (Kp (Fa w0 BB) W w'))) := fun W BB b1 b2 hW => by
    refine (hW.c17k 1 rfl (by omega) (by omega) v_e2 (by omega) v_s2 rfl).mono ?_
    rintro e w' ⟨rfl, k1, k2⟩
    exact ⟨rfl, k1, k2⟩
  have D13 : ∀ W BB b1 b2, Hid (PL w0 W BB [⟨b, 2, fU 65536⟩, ⟨b1, 2, v2⟩, ⟨b2, 1, fW 0⟩] → Calls Try.prog 13 #[.pointer (some ⟨b1, 0, none⟩)] W (VU W (.tuple #[.int .i64 2, .int .i64 1]))) := fun W BB b1 b2 hW => by
    have := hW.c13 1 rfl (by omega) (fun _ => 1099511627776) (fun _ => 1099511627776) (fun i hi => by
      rcases (show i = 0 ∨ i = 1 by omega) with rfl | rfl
      · rw [v_l.1]; exact ⟨rfl, rfl, by decide, by decide, by decide⟩
      · rw [v_l.2]; exact ⟨rfl, rfl, by decide, by decide, by decide⟩)
    rw [v_load] at this
    exact this
  clear h
  go_enter Try.func23, Try.ntmps23
  go_wp2_with (first
    | (go_at_call 18; (with_reducible refine (far_u H0.out).mono ?_); rintro e w1 ⟨g, c, rfl, HX1, HS1, HG1⟩; (obtain ⟨x0, x1, x2, x3⟩ := HS1.out); simp only [Nat.reduceAdd] at x0 x1 x2 x3)
    | (go_at_call 15; (with_reducible refine (HX1.out.c15 0 rfl).mono ?_); rintro e w2 ⟨rfl, hw2⟩; subst hw2)
    | (go_at_call 10; (with_reducible refine ((D10 _).out HX1.out).mono ?_); rintro e w3 ⟨b1, rfl, HX3, HU3⟩)
    | (go_at_call 10; (with_reducible refine ((E10 _ _ _).out HX3.out).mono ?_); rintro e w4 ⟨b2, rfl, HX4⟩)
    | (go_at_call 17; (with_reducible refine ((D17 _ _ _ _).out HX4.out).mono ?_); rintro e w5 ⟨rfl, HX5⟩; (have HX5a : Hid _ := HX5.out.upw (Up.alloc w5 (.cells #[.int .i64 1, .int .i64 0, .int .i64 1099511627776, .bool false] 42))); (have HA5 : Hid (SlAt _ w5.heap.size 0 ⟨1, 0, 1099511627776, false⟩) := slot_new w5 ⟨1, 0, 1099511627776, false⟩); (have HB5 := HX5.out.hi))
    | (go_at_call 17; (with_reducible refine ((E17 _ _ _ _).out HX5a.out).mono ?_); rintro e w6 ⟨rfl, HX6, HK6⟩; (have HX6a : Hid _ := HX6.out.upw (Up.alloc w6 (.cells #[.int .i64 0, .int .i64 1099511627776, .int .i64 2199023255552, .bool true] 42))); (have HA6 : Hid (SlAt _ w5.heap.size 0 ⟨1, 0, 1099511627776, false⟩) := (HA5.out.keep HB5 HK6.out).up (Up.alloc w6 (.cells #[.int .i64 0, .int .i64 1099511627776, .int .i64 2199023255552, .bool true] 42))); (have HC6 : Hid (SlAt _ w6.heap.size 0 ⟨0, 1099511627776, 2199023255552, true⟩) := slot_new w6 ⟨0, 1099511627776, 2199023255552, true⟩))
    | (go_at_call 13; (with_reducible refine ((D13 _ _ _ _).out HX6a.out).mono ?_); rintro e w7 ⟨rfl, HU7⟩; (obtain ⟨y0, y1, y2, y3⟩ := HA6.out.up HU7.out); (obtain ⟨z0, z1, z2, z3⟩ := HC6.out.up HU7.out); simp only [Nat.zero_add] at y0 y1 y2 y3 z0 z1 z2 z3; (have HX7 : Hid _ := HX6a.out.upw HU7.out))
    | (go_at_call 18; (with_reducible refine (far_w HX7.out).mono ?_); rintro e w8 ⟨g8, c8, rfl, HX8, HS8, HG8⟩)
    | (go_at_call 18; (with_reducible refine (far_w2 HX8.out).mono ?_); rintro e w9 ⟨v9, rfl, HU9, HK9⟩; (obtain ⟨s0, s1, s2, s3⟩ := HS8.out.keep HG8.out HK9.out); simp only [Nat.reduceAdd] at s0 s1 s2 s3))
  go_ret
  exact ⟨rfl, HU9⟩
end Go.Proofs.Ytjklaemhfhakhaa
