/- Apply. -/
import Derived.Test.YthpoipajfkfdeabCi
import Derived.Deep.RegionHeld3
namespace Go.Proofs.Ythpoipajfkfdeab
open Go.ChangeShapes Go.WideShapes Go.ChangeAt Go.RowKit Go.Fl Ieee
attribute [local go_sem] run_store_float run_store_c call43 call17 run_neg fold_eq fold_ne fold_lt fold_gt abs_eq

theorem XR.ext {b : Nat} {w : World} {g n : Nat} {x y : Nat → CN} (h : XR b w g n x) (he : ∀ j, j < n → x j = y j) : XR b w g n y := by
  obtain ⟨d, hd, hx⟩ := h.row
  exact ⟨⟨d, hd, fun j hj => (hx j hj).trans (he j hj)⟩, h.lo⟩
theorem XR.far {b : Nat} {w w' : World} {g g' n : Nat} {x : Nat → CN} (h : XR b w g n x) (hb : But g' w w') (hne : g ≠ g') : XR b w' g n x := by
  obtain ⟨d, hd, hx⟩ := h.row
  exact ⟨⟨d, hd.far hb hne, hx⟩, h.lo⟩
theorem XR.lt {b : Nat} {w : World} {g n : Nat} {x : Nat → CN} (h : XR b w g n x) : g < w.heap.size := by
  obtain ⟨d, hd, hx⟩ := h.row
  exact (World.ownsRow.lt hd _ rfl).2
def smC (z : Nat → CN) (c : Nat) : CN := (sumN (fun j => (z j).1) c, sumN (fun j => (z j).2) c)
def apT (f : Nat → Nat → Nat × Nat) (x : Nat → Nat × Nat) (c i : Nat) : CN := smC (fun j => mulC (ab2 (f i j)) (ab2 (x j))) c
theorem sumN_congr {F G : Nat → Option Nat} : ∀ n, (∀ i, i < n → F i = G i) → sumN F n = sumN G n
  | 0, _ => rfl
  | 1, h => h 0 (by omega)
  | n + 2, h => by rw [sumN_step, sumN_step, sumN_congr (n + 1) fun i hi => h i (by omega), h (n + 1) (by omega)]
theorem t25x {b : Nat} {w : World} {g n : Nat} {z : Nat → CN} (h : XR b w g n z) (hn : 0 < n) (hn1 : n ≤ 1000000) : Calls Try.prog 25 #[.slice (some ⟨g, 0, none⟩) n n] w fun e w' => ∃ r i, e = .returned (.complex .f64 r i) ∧ Hid ((ab r, ab i) = smC z n) ∧ Hid (Up w w') := by
  obtain ⟨d, h1, h2⟩ := h.rowV
  obtain ⟨g', k, e, hr⟩ := h1 hn
  simp only [Option.some.injEq, Addr.mk.injEq, and_true] at e
  obtain ⟨rfl, rfl⟩ := e
  refine (t25 g 0 n n _ w hr (by omega)).mono fun e w' ⟨r, i, k1, k2, k3, k4⟩ => ⟨r, i, k1, ?_, k4⟩
  show _ = _
  rw [k2.out, k3.out]
  unfold smC sumR sumI
  have e1 : sumN (fun j => ab d[j]!.1) n = sumN (fun j => (z j).1) n := sumN_congr n fun j hj => by rw [← h2 j hj]; rfl
  have e2 : sumN (fun j => ab d[j]!.2) n = sumN (fun j => (z j).2) n := sumN_congr n fun j hj => by rw [← h2 j hj]; rfl
  rw [e1, e2]
/-- Two rows of one's own. -/
structure X2 (w wr : World) (A B n c : Nat) (y z : Nat → CN) : Prop where
  a : XR w.heap.size wr A n y
  b : XR w.heap.size wr B c z
  ne : A ≠ B
  up : Up w wr
theorem X2.mono {w wr w' : World} {A B n c : Nat} {y z : Nat → CN} (h : X2 w wr A B n c y z) (hu : Up wr w') : X2 w w' A B n c y z := ⟨h.a.up hu, h.b.up hu, h.ne, h.up.trans hu⟩
theorem X2.putA {w wr : World} {A B n c : Nat} {y z : Nat → CN} (h : X2 w wr A B n c y z) {i : Nat} (hi : i < n) (r s : Nat) : X2 w (wr.setCell ⟨A, i, none⟩ (.complex .f64 r s)) A B n c (fun a => if a = i then (ab r, ab s) else y a) z := by
  obtain ⟨h1, h2⟩ := h.a.put hi r s
  exact ⟨h1, h.b.far h2 (Ne.symm h.ne), h.ne, h2.up h.up h.a.lo⟩
theorem X2.putB {w wr : World} {A B n c : Nat} {y z : Nat → CN} (h : X2 w wr A B n c y z) {i : Nat} (hi : i < c) (r s : Nat) : X2 w (wr.setCell ⟨B, i, none⟩ (.complex .f64 r s)) A B n c y (fun a => if a = i then (ab r, ab s) else z a) := by
  obtain ⟨h1, h2⟩ := h.b.put hi r s
  exact ⟨h.a.far h2 h.ne, h1, h.ne, h2.up h.up h.b.lo⟩
theorem X2.start {w w1 w2 : World} {A B n c k : Nat} (hA : Made n A (w.drewN k) w1) (hB : Made c B w1 w2) : X2 w w2 A B n c (fun _ => (ab 0, ab 0)) (fun _ => (ab 0, ab 0)) := by
  have a := XR.made hA
  have b := XR.made hB
  have s := RowKit.Below.size (show Up (w.drewN k) w1 from hA.2.2)
  exact ⟨(a.up hB.2.2).down (Nat.le_refl _), b.down s, by have := a.lt; have := hB.1; omega, ((Up.drewN w k).trans hA.2.2).trans hB.2.2⟩
theorem X2.start' {w w1 w2 : World} {A B n c k : Nat} (hB : Made c B (w.drewN k) w1) (hA : Made n A w1 w2) : X2 w w2 A B n c (fun _ => (ab 0, ab 0)) (fun _ => (ab 0, ab 0)) := by
  have h := X2.start hB hA
  exact ⟨h.b, h.a, Ne.symm h.ne, h.up⟩
theorem t9a {w : World} {p px : Option Addr} {n c m cx : Nat} {L : Nat → Nat} {f : Nat → Nat → Nat × Nat} (h : TR w p n L f) (hn : n ≤ 1000000) (h1 : longB L m n = false) : Calls Try.prog 9 #[.slice p n c, .slice px m cx] w (SE 5 w) := by
  have T12 : Hid (Calls Try.prog 12 #[.slice p n c, .int .i64 m] w (BR false w)) := t12k h hn h1
  clear h h1
  go_enter Try.func9, Try.ntmps9
  go_wp2_with (go_at_call 12; (with_reducible refine T12.out.mono ?_); rintro e w1 ⟨rfl, hw⟩; subst w1)
  go_ret2
  exact ⟨rfl, Up.refl _⟩
set_option maxHeartbeats 8000000 in
set_option maxRecDepth 20000 in
theorem t9 {w : World} {p px : Option Addr} {n c m cx : Nat} {L : Nat → Nat} {f : Nat → Nat → Nat × Nat} {fx : Nat → Nat × Nat} (h : TR w p n L f) (hx : RowV w px m fx) (h1 : longB L m n = true) (hn : n ≤ 64) (hm : m ≤ 64) (hm0 : 0 < m) : Calls Try.prog 9 #[.slice p n c, .slice px m cx] w (SOk n (apT f fx m) w) := by
  have T12 : Hid (Calls Try.prog 12 #[.slice p n c, .int .i64 m] w (BR true w)) := t12k h (by omega) h1
  have HLi : ∀ i, i < n → L i = m := fun i hi => of_decide_eq_true ((allN_iff n).1 h1 i hi)
  have HS : Hid (TR w p n L f ∧ RowV w px m fx ∧ (∀ i, i < n → L i = m) ∧ n ≤ 64 ∧ m ≤ 64 ∧ 0 < m) := ⟨h, hx, HLi, hn, hm, hm0⟩
  have z1 : (n : Int) ≤ 64 := by omega
  have z2 : (m : Int) ≤ 64 := by omega
  have z3 : n ≤ 1000000 := by omega
  have z4 : m ≤ 1000000 := by omega
  clear h hx h1 HLi hm0
  go_enter Try.func9, Try.ntmps9
  go_wp2_with (go_at_call 12; (with_reducible refine T12.out.mono ?_); rintro e w1 ⟨rfl, hw⟩; subst w1)
  go_region_held3 (fun _ => True) (exact True.intro) (first | ((with_reducible refine upon_makeC (n := n) z3 ?_); intro _ _ _) | ((with_reducible refine upon_makeC (n := m) z4 ?_); intro _ _ _))
  rename_i A wa HA B w1 HB _
  have HX : Hid (X2 w w1 A B n m (fun _ => (ab 0, ab 0)) (fun _ => (ab 0, ab 0))) := X2.start (k := 1) HA.out HB.out
  clear HA HB
  rotate_left
  rename_i B wa HB A w1 HA _
  have HX : Hid (X2 w w1 A B n m (fun _ => (ab 0, ab 0)) (fun _ => (ab 0, ab 0))) := X2.start' (k := 1) HB.out HA.out
  clear HA HB
  all_goals
    go_wp2
    go_loopw [8, 9, 10, 11, 35] (fun _ _ _ _ vi wr => ∃ (k : Nat) (y z : Nat → CN), k ≤ n ∧ vi = .int .i64 k ∧ Hid (X2 w wr A B n m y z) ∧ Hid (∀ i, i < k → y i = apT f fx m i)) (fun _ _ _ _ vi _ => n - (intOf vi).toNat)
    case atStart => exact ⟨0, _, _, by omega, rfl, HX, fun i hi => by omega⟩
    case round =>
      clear HX
      obtain ⟨k, y, z, hk, rfl, HX, HY⟩ := hrel
      rename World => wr
      by_cases hlt : k < n
      · obtain ⟨b0, o0, rfl, hr⟩ := (HS.out.1.up HX.out.up) (by omega)
        obtain ⟨q, cq, c1, -, hrv⟩ := hr k hlt
        rw [HS.out.2.2.1 k hlt] at c1 hrv
        obtain ⟨g, o, rfl, hrd⟩ := hrv HS.out.2.2.2.2.2
        obtain ⟨gx, ox, rfl, -⟩ := HS.out.2.1 HS.out.2.2.2.2.2
        have HRX : Hid (∀ W, Up w W → RD W gx ox m fx) := fun W hu => by
          obtain ⟨g1, o1, e1, h1⟩ := (HS.out.2.1.up hu) HS.out.2.2.2.2.2
          simp only [Option.some.injEq, Addr.mk.injEq, and_true] at e1
          obtain ⟨rfl, rfl⟩ := e1
          exact h1
        have HRK : Hid (∀ W, Up wr W → RD W g o m (f k)) := fun W hu => hrd.up hu
        have HRK0 : Hid (∀ W, Up w W → RD W g o m (f k)) := fun W hu => by
          obtain ⟨b1, o1, e1, hr1⟩ := HS.out.1 (by omega)
          simp only [Option.some.injEq, Addr.mk.injEq, and_true] at e1
          obtain ⟨rfl, rfl⟩ := e1
          obtain ⟨q1, cq1, c5, -, hrv1⟩ := hr1 k hlt
          have c6 := cell_up c5 HX.out.up
          rw [c1] at c6
          simp only [Option.some.injEq, Value.slice.injEq] at c6
          rw [← c6.1, ← c6.2.1] at hrv1
          obtain ⟨g3, o3, e3, hr3⟩ := hrv1 HS.out.2.2.2.2.2
          simp only [Option.some.injEq, Addr.mk.injEq, and_true] at e3
          obtain ⟨rfl, rfl⟩ := e3
          exact hr3.up hu
        have y1 : (k : Int) < (n : Int) := by omega
        clear hr hrv hrd HRK
        go_wp2
        go_loopw [10, 11, 42] (fun _ _ vj wx => ∃ (j : Nat) (z : Nat → CN), j ≤ m ∧ vj = .int .i64 j ∧ Hid (X2 w wx A B n m y z) ∧ Hid (∀ l, l < j → z l = mulC (ab2 (f k l)) (ab2 (fx l)))) (fun _ _ vj _ => m - (intOf vj).toNat)
        case atStart => exact ⟨0, z, by omega, rfl, HX, fun i hi => by omega⟩
        case round =>
          clear HX c1
          obtain ⟨j, z, hj, rfl, HX, HZ⟩ := hrel
          rename World => wx
          by_cases hlt2 : j < m
          · have c1 := HRK0.out wx HX.out.up j hlt2
            have c2 := HRX.out wx HX.out.up j hlt2
            obtain ⟨x1, y1', hx1⟩ : ∃ x y, f k j = (x, y) := ⟨_, _, rfl⟩
            obtain ⟨x2, y2, hx2⟩ : ∃ x y, fx j = (x, y) := ⟨_, _, rfl⟩
            rw [hx1] at c1
            rw [hx2] at c2
            have c3 : wx.cell? ⟨g, o + j, none⟩ = some (.complex .f64 x1 y1') := c1
            have c4 : wx.cell? ⟨gx, ox + j, none⟩ = some (.complex .f64 x2 y2) := c2
            have HXX : Hid (f k j = (x1, y1') ∧ fx j = (x2, y2)) := ⟨hx1, hx2⟩
            have y2' : (j : Int) < (m : Int) := by omega
            clear c1 c2 hx1 hx2
            go_wp2_with (go_at_call 20; (with_reducible refine (t20c _ _ _ _ _).mono ?_); rintro e w5 ⟨gr, gi, k6, rfl, rfl, HG⟩; (have HX5 : Hid (X2 w (wx.drewN k6) A B n m y z) := HX.out.mono (Up.drewN _ _)); obtain ⟨x9, y9, c9, -, f9⟩ := HX5.out.b.cell hlt2; (have c8 : ((wx.drewN k6).cell? ⟨B, j, none⟩).isSome = true := by rw [c9]; rfl))
            have HP := HX5.out.putB hlt2 gr gi
            go_roundw
            case rel =>
              refine ⟨j + 1, _, by omega, by go_num, HP, fun l hl => ?_⟩
              by_cases e : l = j
              · subst e
                rw [if_pos rfl, HG.out, HXX.out.1, HXX.out.2]; rfl
              · rw [if_neg e]; exact HZ.out l (by omega)
            case measure => simp [intOf]; omega
          · obtain rfl : j = m := by omega
            have T25 : Hid (Calls Try.prog 25 #[.slice (some ⟨B, 0, none⟩) j j] wx fun e w' => ∃ r i, e = .returned (.complex .f64 r i) ∧ Hid ((ab r, ab i) = smC z j) ∧ Hid (Up wx w')) := t25x HX.out.b HS.out.2.2.2.2.2 z4
            go_wp2_with (go_at_call 25; (with_reducible refine T25.out.mono ?_); rintro e w5 ⟨gr, gi, rfl, HG, HU5⟩; (have HX5 : Hid (X2 w w5 A B n j y z) := HX.out.mono HU5.out); obtain ⟨x9, y9, c9, -, f9⟩ := HX5.out.a.cell hlt; (have c8 : (w5.cell? ⟨A, k, none⟩).isSome = true := by rw [c9]; rfl))
            have HP := HX5.out.putA hlt gr gi
            go_roundw
            case rel =>
              refine ⟨k + 1, _, _, by omega, by go_num, HP, fun i hi => ?_⟩
              by_cases e : i = k
              · subst e
                rw [if_pos rfl, HG.out]
                unfold apT smC
                have e1 : sumN (fun l => (z l).1) j = sumN (fun l => (mulC (ab2 (f i l)) (ab2 (fx l))).1) j := sumN_congr j fun l hl => by rw [HZ.out l hl]
                have e2 : sumN (fun l => (z l).2) j = sumN (fun l => (mulC (ab2 (f i l)) (ab2 (fx l))).2) j := sumN_congr j fun l hl => by rw [HZ.out l hl]
                rw [e1, e2]
              · rw [if_neg e]; exact HY.out i (by omega)
            case measure => simp [intOf]; omega
      · obtain rfl : k = n := by omega
        go_wp2
        go_ret2
        exact ⟨A, rfl, HX.out.a.ext HY.out, HX.out.up⟩
end Go.Proofs.Ythpoipajfkfdeab
