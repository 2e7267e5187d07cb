/- wakes. -/
import Derived.Test.YtjklaemhfhakhaaEf
namespace Go.Proofs.Ytjklaemhfhakhaa
open Go.ChangeShapes Go.WideShapes Go.ChangeAt Go.RowKit

theorem tl_two (w : World) : TL (w.alloc (.cells #[.int .i64 4, .int .i64 1, .int .i64 0, .int .i64 6, .int .i64 2, .int .i64 0] 26)) (some ⟨w.heap.size, 0, none⟩) 2 2 T2 := by
  have e := heap_alloc_last w (.cells #[.int .i64 4, .int .i64 1, .int .i64 0, .int .i64 6, .int .i64 2, .int .i64 0] 26)
  refine ⟨Nat.le_refl _, fun _ => ⟨_, _, rfl, fun i hi => ?_⟩⟩
  rcases (show i = 0 ∨ i = 1 by omega) with rfl | rfl
  · exact ⟨(row_cell e 0).1, (row_cell e 1).1, (row_cell e 2).1⟩
  · exact ⟨(row_cell e 3).1, (row_cell e 4).1, (row_cell e 5).1⟩
/-- A stretch at a place of a row. -/
structure SlAt (w : World) (g o : Nat) (s : Sl) : Prop where
  c0 : w.cell? ⟨g, o, none⟩ = some (.int .i64 s.t)
  c1 : w.cell? ⟨g, o + 1, none⟩ = some (.int .i64 s.f)
  c2 : w.cell? ⟨g, o + 2, none⟩ = some (.int .i64 s.e)
  c3 : w.cell? ⟨g, o + 3, none⟩ = some (.bool s.l)
theorem SlAt.kp {w w' : World} {F : Nat → Prop} {g o : Nat} {s : Sl} (h : SlAt w g o s) (hk : Kp F w w') (hF : F g) : SlAt w' g o s := ⟨hk.cell hF h.c0, hk.cell hF h.c1, hk.cell hF h.c2, hk.cell hF h.c3⟩
theorem SlAt.up {w w' : World} {g o : Nat} {s : Sl} (h : SlAt w g o s) (hu : Up w w') : SlAt w' g o s := h.kp (F := fun _ => True) (Kp.of_up hu) trivial
theorem SO.sl {b : Nat} {w : World} {p : Option Addr} {n cap : Nat} {D : List Sl} (h : SO b w (.slice p n cap) D) (h0 : 0 < n) : ∃ g, p = some ⟨g, 0, none⟩ ∧ b ≤ g ∧ g < w.heap.size ∧ ∀ i, i < n → SlAt w g (i * 4) (D.getD i Sl.zero) := by
  have hl := h.len
  obtain ⟨g, e, h1, h2, _⟩ := h.at (i := 0) (by omega)
  refine ⟨g, e, h1, h2, fun i hi => ?_⟩
  obtain ⟨g', e', _, _, k⟩ := h.at (i := i) (by omega)
  rw [e] at e'
  simp only [Option.some.injEq, Addr.mk.injEq] at e'
  rw [← e'.1] at k
  exact ⟨k 0 _ (by omega) rfl, k 1 _ (by omega) rfl, k 2 _ (by omega) rfl, k 3 _ (by omega) rfl⟩
theorem Kept.upw {n : Nat} {w w1 w2 : World} {L L' : Ly} (h : Kept n w1 w2 L L') (hu : Up w w1) (hO : ∀ b, L.Own n b → w.heap.size ≤ b) : Up w w2 := by
  have k1 : Kp (fun b => b < w.heap.size) w w2 := ⟨h.kp.os.trans hu.os, h.kp.tape.trans hu.tape, h.kp.output.trans hu.output, Nat.le_trans hu.size h.kp.size, fun b hb hl => (h.kp.block b (fun q => by have := hO b q; omega) (Nat.lt_of_lt_of_le hl hu.size)).trans (hu.block b hl)⟩
  exact k1.up fun b hb => hb
/-- A plan, all that is known of it. -/
structure PU (w : World) (L : Ly) (n : Nat) (p : Pl) : Prop where
  pw : PW w L n p
  ok : L.Ok n
  pb : PB n p
def P3 : Pl := P2.set 0 ⟨⟨8, 9, 2, 0⟩, [], (P2.c 0).done⟩
theorem d17 (W : World) (L : Ly) (h : PU W L 2 P0) : Calls Try.prog 17 #[.pointer (some ⟨L.bp, 0, none⟩)] W (fun e w' => ∃ L', e = .returned (.tuple #[.agg #[.int .i64 0, .int .i64 0, .int .i64 1, .bool false], .int .i64 0]) ∧ Hid (PU w' L' 2 P1) ∧ Hid (Kept 2 W w' L L')) := by
  obtain ⟨h1, h2⟩ := t17k h.pw h.ok h.pb (by omega) (by omega) (by rw [w2]; omega)
  refine h1.mono ?_
  rintro e w' ⟨rfl, L', k1, k2⟩
  refine ⟨L', ?_, ⟨k1, k2.out.ok, h2⟩, k2⟩
  rw [w1]
  rfl
theorem d18 (W : World) (L : Ly) (h : PU W L 2 P1) : Calls Try.prog 18 #[.pointer (some ⟨L.bp, 0, none⟩), .int .i64 7] W (fun e w' => ∃ L' g c, e = .returned (.slice (some ⟨g, 0, none⟩) 3 c) ∧ Hid (PU w' L' 2 P2) ∧ Hid (Kept 2 W w' L L') ∧ Hid (W.heap.size ≤ g) ∧ Hid (3 ≤ c) ∧ Hid (SlAt w' g 0 ⟨1, 1, 3, false⟩) ∧ Hid (SlAt w' g 8 ⟨1, 6, 7, false⟩)) := by
  refine (t18 h.pw h.ok h.pb (by omega) 7 (by omega)).mono ?_
  rintro e w' ⟨pp, c, L', k1, k2, k3, k4, k5⟩
  rw [show min (7 : Int) 1152921504606846976 = 7 by decide] at k1 k2 k3 k4
  rw [w3] at k1 k2
  obtain ⟨g, rfl, g1, g2, g3⟩ := k2.out.sl (by show 0 < 3; omega)
  have hc : 3 ≤ c := by
    rcases k2.out.2 with ⟨q, _⟩ | ⟨g', cap', cur, q, _, _, q3, _⟩
    · cases q
    · simp only [Value.slice.injEq] at q
      have : ([⟨1, 1, 3, false⟩, ⟨0, 4, 5, false⟩, ⟨1, 6, 7, false⟩] : List Sl).length = 3 := rfl
      omega
  exact ⟨L', g, c, k1, ⟨k3, k5.out.ok, k4⟩, k5, g1, hc, g3 0 (by show 0 < 3; omega), g3 2 (by show 2 < 3; omega)⟩
theorem d13 (W : World) (L : Ly) (h : PU W L 2 P2) : Calls Try.prog 13 #[.pointer (some ⟨L.bp, 0, none⟩)] W (VU W (.tuple #[.int .i64 7, .int .i64 12])) := by
  have := t13 h.pw h.pb E2 L2 (fun i hi => by
    obtain ⟨a, b, c, d⟩ := w7
    rcases (show i = 0 ∨ i = 1 by omega) with rfl | rfl
    · rw [a, b]; exact ⟨rfl, rfl, by decide, by decide, by decide⟩
    · rw [c, d]; exact ⟨rfl, rfl, by decide, by decide, by decide⟩) (by omega)
  rw [w8] at this
  exact this
theorem d19 (W : World) (L : Ly) (h : PU W L 2 P2) : Calls Try.prog 19 #[.pointer (some ⟨L.bp, 0, none⟩), .int .i64 0, .agg #[.int .i64 9, .int .i64 2, .int .i64 0]] W (fun e w' => ∃ L', e = .returned (.int .i64 0) ∧ Hid (PW w' L' 2 P3) ∧ Hid (Kept 2 W w' L L')) := by
  have := t19a h.pw h.ok (i := 0) (by omega) w5.1 (by rw [w4, w6]; omega) (e := 9) (l := 2) (r := 0) (by show (1 : Int) ≤ 2 ∧ (2 : Int) ≤ 9 ∧ (9 : Int) ≤ 1099511627776; omega)
  rw [w6] at this
  refine this.mono ?_
  rintro e w' ⟨h1, L', h2, h3⟩
  exact ⟨L', h1, h2, h3⟩
theorem d15 (W : World) (L : Ly) (h : PW W L 2 P3) : Calls Try.prog 15 #[.pointer (some ⟨L.bp, 0, none⟩)] W fun e w' => e = .returned (.int .i64 7) ∧ w' = W := by
  have := t15 h
  rw [show P3.now = 7 from w4] at this
  exact this
theorem d19e (W : World) (L : Ly) (h : PW W L 2 P3) : Calls Try.prog 19 #[.pointer (some ⟨L.bp, 0, none⟩), .int .i64 2, .agg #[.int .i64 1, .int .i64 1, .int .i64 0]] W (VU W (.int .i64 240)) := t19e h (Or.inr (Or.inl (Int.le_refl _)))
set_option maxRecDepth 20000 in
set_option maxHeartbeats 8000000 in
theorem t9 (w : World) : Calls Try.prog 9 #[] w (VU w (.bool true)) := by
  have HT : Hid (TL (w.alloc (.cells #[.int .i64 4, .int .i64 1, .int .i64 0, .int .i64 6, .int .i64 2, .int .i64 0] 26)) (some ⟨w.heap.size, 0, none⟩) 2 2 T2) := tl_two w
  have C1 : ∀ W p, Hid (TL W p 2 2 T2 → Calls Try.prog 10 #[.slice p 2 2] W (fun e w' => ∃ L, e = .returned (.tuple #[.pointer (some ⟨L.bp, 0, none⟩), .int .i64 0]) ∧ Hid (PW w' L 2 P0 ∧ L.Ok 2 ∧ PB 2 P0) ∧ Hid (Up W w') ∧ Hid (∀ b, L.Own 2 b → W.heap.size ≤ b))) := by
    intro W p hT
    refine (t10 hT (by omega)).mono ?_
    rintro e w' (⟨_, L, h1, h2, h3, h4, h5⟩ | ⟨h1, _⟩)
    · exact ⟨L, h1, ⟨h2, h3, PB.newP may2⟩, h5, h4⟩
    · exact absurd may2 h1
  go_enter Try.func9, Try.ntmps9
  go_wp2_with (first
    | (go_at_call 10; (with_reducible refine ((C1 _ _).out HT.out).mono ?_); rintro e w1 ⟨L0, rfl, HP, HU, HO⟩; (have HP0 : Hid (PU w1 L0 2 P0) := ⟨HP.out.1, HP.out.2.1, HP.out.2.2⟩); (have HU1 : Hid (Up w w1) := (Up.alloc _ _).trans HU.out); (have HO1 : Hid (∀ b, L0.Own 2 b → w.heap.size ≤ b) := fun b q => Nat.le_trans (Up.alloc w _).size (HO.out b q)))
    | (go_at_call 17; (with_reducible refine (d17 _ _ HP0.out).mono ?_); rintro e w2 ⟨L1, rfl, HP1, HK1⟩; (have HP1a : Hid (PU (w2.alloc (.cells #[.int .i64 0, .int .i64 0, .int .i64 1, .bool false] 42)) L1 2 P1) := ⟨HP1.out.pw.up (Up.alloc _ _), HP1.out.ok, HP1.out.pb⟩); (have HU2 : Hid (Up w (w2.alloc (.cells #[.int .i64 0, .int .i64 0, .int .i64 1, .bool false] 42))) := (HK1.out.upw HU1.out HO1.out).trans (Up.alloc _ _)); (have HO2 : Hid (∀ b, L1.Own 2 b → w.heap.size ≤ b) := fun b q => HO1.out b (HK1.out.own b q)); (have HA1 : Hid (SlAt (w2.alloc (.cells #[.int .i64 0, .int .i64 0, .int .i64 1, .bool false] 42)) w2.heap.size 0 ⟨0, 0, 1, false⟩) := by have e0 := heap_alloc_last w2 (.cells #[.int .i64 0, .int .i64 0, .int .i64 1, .bool false] 42); exact ⟨(row_cell e0 0).1, (row_cell e0 1).1, (row_cell e0 2).1, (row_cell e0 3).1⟩); (have HN1 : Hid (¬ L1.Own 2 w2.heap.size) := fun q => Nat.lt_irrefl _ (HP1.out.pw.own_lt q)); rw [HK1.out.bp.symm])
    | (go_at_call 18; (with_reducible refine (d18 _ _ HP1a.out).mono ?_); rintro e w3 ⟨L2, g, c, rfl, HP2, HK2, HG2, HC2, HS0, HS2⟩; (have HA2 : Hid (SlAt w3 w2.heap.size 0 ⟨0, 0, 1, false⟩) := HA1.out.kp HK2.out.kp HN1.out); (have HU3 : Hid (Up w w3) := HK2.out.upw HU2.out HO2.out); (have HO3 : Hid (∀ b, L2.Own 2 b → w.heap.size ≤ b) := fun b q => HO2.out b (HK2.out.own b q)); (have HN2 : Hid (¬ L2.Own 2 w2.heap.size ∧ ¬ L2.Own 2 g) := ⟨fun q => HN1.out (HK2.out.own _ q), fun q => by have h1 := HP1a.out.pw.own_lt (HK2.out.own _ q); have h2 := HG2.out; omega⟩); rw [HK2.out.bp.symm])
    | (go_at_call 13; (with_reducible refine (d13 _ _ HP2.out).mono ?_); rintro e w4 ⟨rfl, HU4⟩; (have HP2a : Hid (PU w4 L2 2 P2) := ⟨HP2.out.pw.up HU4.out, HP2.out.ok, HP2.out.pb⟩))
    | (go_at_call 19; (with_reducible refine (d19 _ _ HP2a.out).mono ?_); rintro e w5 ⟨L3, rfl, HP3, HK3⟩; (have HA3 : Hid (SlAt w5 w2.heap.size 0 ⟨0, 0, 1, false⟩) := (HA2.out.up HU4.out).kp HK3.out.kp HN2.out.1); (have HS0a : Hid (SlAt w5 g 0 ⟨1, 1, 3, false⟩) := (HS0.out.up HU4.out).kp HK3.out.kp HN2.out.2); (have HS2a : Hid (SlAt w5 g 8 ⟨1, 6, 7, false⟩) := (HS2.out.up HU4.out).kp HK3.out.kp HN2.out.2); (have HU5 : Hid (Up w w5) := HK3.out.upw (HU3.out.trans HU4.out) HO3.out); (obtain ⟨a0, a1, a2, a3⟩ := HA3.out); (obtain ⟨s0, s1, s2, s3⟩ := HS0a.out); (obtain ⟨r0, r1, r2, r3⟩ := HS2a.out); simp only [Nat.zero_add, Nat.reduceAdd] at a0 a1 a2 a3 s0 s1 s2 s3 r0 r1 r2 r3; (have hc := HC2.out); rw [HK3.out.bp.symm])
    | (go_at_call 15; (with_reducible refine (d15 _ _ HP3.out).mono ?_); rintro e w6 ⟨rfl, hw6⟩; subst w6)
    | (go_at_call 19; (with_reducible refine (d19e _ _ HP3.out).mono ?_); rintro e w7 ⟨rfl, HU7⟩))
  go_ret
  exact ⟨rfl, HU5.out.trans HU7.out⟩
end Go.Proofs.Ytjklaemhfhakhaa
