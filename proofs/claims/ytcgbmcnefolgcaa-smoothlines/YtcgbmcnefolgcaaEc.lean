/- Line, the document's: the walk. -/
import Derived.Test.YtcgbmcnefolgcaaEb
namespace Go.Proofs.Ytcgbmcnefolgcaa
open Go.ChangeShapes Go.WideShapes Go.ChangeAt Go.RowKit Go.Fl Go.Sort
attribute [local go_sem] run_store_float call22 call54 run_neg fold_eq fold_ne fold_lt fold_gt abs_eq

theorem t16len {w : World} {p p2 : Option Addr} {n cap m cap2 : Nat} {d d2 : Array Nat} (h : SV w p n cap d) (h2 : SV w p2 m cap2 d2) (hE : lenE n m ≠ 0) : Calls Try.prog 16 #[.slice p n cap, .slice p2 m cap2] w (LnR w d d2) := by
  have HL : Hid (linE d d2 = lenE n m) := by show _ = _; unfold linE; rw [h.len, h2.len, if_neg hE]
  clear h h2
  by_cases e : n = m
  · subst e
    have k : 1024 < n := by
      unfold lenE at hE
      rw [if_pos rfl] at hE
      exact Decidable.of_not_not fun q => hE (by rw [if_neg q])
    have k1 : (1024 : Int) < (n : Int) := by omega
    have HL3 : Hid (linE d d2 = 3) := by show _ = _; rw [HL.out]; unfold lenE; rw [if_pos rfl, if_pos k]
    go_enter Try.func16, Try.ntmps16
    go_wp2
    go_ret3
    exact LnR.bad HL3.out (by decide) (Up.refl _)
  · have k1 : ((n : Int) == (m : Int)) = false := by rw [beq_eq_false_iff_ne]; omega
    have HL3 : Hid (linE d d2 = 5) := by show _ = _; rw [HL.out]; unfold lenE; rw [if_neg e]
    go_enter Try.func16, Try.ntmps16
    go_wp2
    go_ret3
    exact LnR.bad HL3.out (by decide) (Up.refl _)
theorem t16few {w : World} {p p2 : Option Addr} {n cap m cap2 : Nat} {d d2 : Array Nat} (h : SV w p n cap d) (h2 : SV w p2 m cap2 d2) (hE : lenE n m = 0) (h1 : n < 2) : Calls Try.prog 16 #[.slice p n cap, .slice p2 m cap2] w (LnR w d d2) := by
  have HL : Hid (linE d d2 = 2) := by show _ = _; unfold linE; rw [h.len, h2.len, if_pos hE, if_pos h1]
  obtain ⟨e, _⟩ := lenE0 hE
  subst e
  have z1 : (n : Int) < 2 := by omega
  have z2 : ¬ (1024 : Int) < (n : Int) := by omega
  clear h h2 hE
  go_enter Try.func16, Try.ntmps16
  go_wp2
  go_ret3
  exact LnR.bad HL.out (by decide) (Up.refl _)
theorem t16fin {w : World} {p p2 : Option Addr} {n cap m cap2 : Nat} {d d2 : Array Nat} (h : SV w p n cap d) (h2 : SV w p2 m cap2 d2) (hE : lenE n m = 0) (h1 : ¬ n < 2) (hF : (finL d && finL d2) = false) : Calls Try.prog 16 #[.slice p n cap, .slice p2 m cap2] w (LnR w d d2) := by
  have HL : Hid (linE d d2 = 6) := by show _ = _; unfold linE; rw [h.len, h2.len, if_pos hE, if_neg h1, hF]; rfl
  have S1 : Hid _ := h
  have S2 : Hid _ := h2
  obtain ⟨e, e2⟩ := lenE0 hE
  subst e
  have z1 : ¬ (n : Int) < 2 := by omega
  have z2 : ¬ (1024 : Int) < (n : Int) := by omega
  have Z2 : Hid (n ≤ 1000000) := (by omega : n ≤ 1000000)
  clear h h2 hE
  cases f1 : finL d
  · go_enter Try.func16, Try.ntmps16
    go_wp2_with (go_at_call 44; (with_reducible refine (t44 S1.out Z2.out).mono ?_); rintro e w' ⟨rfl, hw⟩; subst w'; rw [f1])
    go_ret3
    exact LnR.bad HL.out (by decide) (Up.refl _)
  · have f2 : finL d2 = false := by rw [f1] at hF; simpa using hF
    go_enter Try.func16, Try.ntmps16
    go_wp2_with (first | (go_at_call 44; (with_reducible refine (t44 S1.out Z2.out).mono ?_); rintro e w' ⟨rfl, hw⟩; subst w'; rw [f1]) | (go_at_call 44; (with_reducible refine (t44 S2.out Z2.out).mono ?_); rintro e w' ⟨rfl, hw⟩; subst w'; rw [f2]))
    go_ret3
    exact LnR.bad HL.out (by decide) (Up.refl _)
set_option maxHeartbeats 4000000 in
theorem t16z {w : World} {p p2 : Option Addr} {n cap m cap2 : Nat} {d d2 : Array Nat} (h : SV w p n cap d) (h2 : SV w p2 m cap2 d2) (hE : lenE n m = 0) (h1 : ¬ n < 2) (hF : finL d = true) (hF2 : finL d2 = true) (hx : eqF (sxxF d) (ab 0) = true) : Calls Try.prog 16 #[.slice p n cap, .slice p2 m cap2] w (LnR w d d2) := by
  have HL0 : Hid (linE d d2 = 6) := by show _ = _; unfold linE; rw [h.len, h2.len, if_pos hE, if_neg h1, hF, hF2, hx]; rfl
  obtain ⟨e1, e2⟩ := lenE0 hE
  subst e1
  have B : Hid (SV w p n cap d ∧ SV w p2 n cap2 d2) := ⟨h, h2⟩
  have z1 : ¬ (n : Int) < 2 := by omega
  have z2 : ¬ (1024 : Int) < (n : Int) := by omega
  have Z2 : Hid (n ≤ 1000000 ∧ 0 < n) := ⟨by omega, by omega⟩
  have HL : Hid (d.size = n ∧ d2.size = n) := ⟨h.len, h2.len⟩
  have HX : Hid (eqF (sxxF d) (ab 0) = true) := hx
  clear h h2 hE hx
  go_enter Try.func16, Try.ntmps16
  go_wp2_with (first
    | (go_at_call 44; (with_reducible refine (t44 B.out.1 Z2.out.1).mono ?_); rintro e w' ⟨rfl, hw⟩; subst w'; rw [hF])
    | (go_at_call 44; (with_reducible refine (t44 B.out.2 Z2.out.1).mono ?_); rintro e w' ⟨rfl, hw⟩; subst w'; rw [hF2])
    | (go_at_call 45; (with_reducible refine (floats_sv B.out.1 Z2.out.2 Z2.out.1).mono ?_); rintro e w1 ⟨r1, n1, rfl, hw1, H1⟩; (have U1 : Hid (Up w w1) := hw1 ▸ Up.drewN _ _); clear hw1)
    | ((with_reducible refine upon_fl (op := .quo) (x := r1) (by simp) ?_); intro m1 k1 M1; (have B2 : Hid (SV (w1.drewN k1) p2 n cap2 d2) := B.out.2.up (U1.out.dr _)))
    | (go_at_call 45; (with_reducible refine (floats_sv B2.out Z2.out.2 Z2.out.1).mono ?_); rintro e w2 ⟨r2, n2, rfl, hw2, H2⟩; (have U2 : Hid (Up w w2) := hw2 ▸ (U1.out.dr _).dr _); clear hw2)
    | ((with_reducible refine upon_fl (op := .quo) (x := r2) (by simp) ?_); intro m2 k2 M2))
  have N1 : Hid (ab m1 = mtF d) := mt_of HL.out.1 H1.out M1.out
  have N2 : Hid (ab m2 = mtF d2) := mt_of HL.out.2 H2.out M2.out
  have U3 : Hid (Up w (w2.drewN k2)) := U2.out.dr _
  clear M1 M2 H1 H2 U1 U2 B2
  generalize w2.drewN k2 = W at *
  go_loopw [10, 11, 12, 13, 14] (fun va vb vi _ _ wr => ∃ (i ca cb : Nat) (pa pb : Option Addr) (La Lb : List Nat), i ≤ n ∧ va = .slice pa i ca ∧ vb = .slice pb i cb ∧ vi = .int .i64 i ∧ Hid (AB w wr (.slice pa i ca) (.slice pb i cb) La Lb) ∧ Hid (∀ j, j < i → ab (La.getD j 0) = sqF (ab d[j]!) (ab m1) ∧ ab (Lb.getD j 0) = crF (ab d[j]!) (ab m1) (ab d2[j]!) (ab m2))) (fun _ _ vi _ _ _ => n - (intOf vi).toNat)
  case atStart => exact ⟨0, 0, 0, none, none, [], [], by omega, rfl, rfl, rfl, ⟨OR.nil _ _ _ _, OR.nil _ _ _ _, (fun g e => by cases e), U3.out⟩, fun j hj => by omega⟩
  case round =>
    obtain ⟨i, ca, cb, pa, pb, La, Lb, hi, rfl, rfl, rfl, HAB, HT⟩ := hrel
    rename World => wr
    by_cases hlt : i < n
    · obtain ⟨b, o, hp, hr⟩ := B.out.1.rd (by omega)
      subst hp
      obtain ⟨b2, o2, hp2, hr2⟩ := B.out.2.rd (by omega)
      subst hp2
      have c0 := cell_up (hr i (by rw [HL.out.1]; exact hlt)) HAB.out.up
      have c1 := cell_up (hr2 i (by rw [HL.out.2]; exact hlt)) HAB.out.up
      obtain ⟨x, hx⟩ : ∃ x, d[i]! = x := ⟨_, rfl⟩
      obtain ⟨y, hy⟩ : ∃ y, d2[i]! = y := ⟨_, rfl⟩
      rw [hx] at c0
      rw [hy] at c1
      have HXY : Hid (d[i]! = x ∧ d2[i]! = y) := ⟨hx, hy⟩
      have z4 : (i : Int) < (n : Int) := by omega
      have hla := HAB.out.a.len
      have hlb := HAB.out.b.len
      have HLa : Hid (La.length ≤ 2000000) := (by omega : _ ≤ _)
      have HLb : Hid (Lb.length ≤ 2000000) := (by omega : _ ≤ _)
      have HLi : Hid (La.length = i ∧ Lb.length = i) := ⟨hla, hlb⟩
      clear hr hr2 hx hy hla hlb
      go_wp2_with (first
        | ((with_reducible refine upon_fl (op := .sub) (x := x) (y := m1) (by simp) ?_); intro s1 j1 K1; (replace c1 : (wr.drewN j1).cell? ⟨b2, o2 + i, none⟩ = some (.float .f64 y) := c1))
        | ((with_reducible refine upon_fl (op := .sub) (x := y) (y := m2) (by simp) ?_); intro s2 j2 K2)
        | ((with_reducible refine upon_fl (op := .mul) (x := s1) (y := s1) (by simp) ?_); intro s3 j3 K3; (have HB1 : Hid (AB w (wr.drewN (j1 + j2 + j3)) (.slice pa i ca) (.slice pb i cb) La Lb) := HAB.out.dr _))
        | (at_builtin; refine wpList_pushF (b := w.heap.size) rfl _ _ rfl pa i ca La s3 rfl rfl HB1.out.a (RowKit.Below.size HB1.out.up) HLa.out ?_; intro pa' ca' w4 O4 G4 B4; (have HB2 : Hid (AB w w4 (.slice pa' (i + 1) ca') (.slice pb i cb) (La ++ [s3]) Lb) := HB1.out.pushA O4 G4 B4); clear O4 G4 B4)
        | ((with_reducible refine upon_fl (op := .mul) (x := s1) (y := s2) (by simp) ?_); intro s5 j5 K5; (have HB3 : Hid (AB w (w4.drewN j5) (.slice pa' (i + 1) ca') (.slice pb i cb) (La ++ [s3]) Lb) := HB2.out.dr _))
        | (at_builtin; refine wpList_pushF (b := w.heap.size) rfl _ _ rfl pb i cb Lb s5 rfl rfl HB3.out.b (RowKit.Below.size HB3.out.up) HLb.out ?_; intro pb' cb' w6 O6 G6 B6; (have HB4 : Hid (AB w w6 (.slice pa' (i + 1) ca') (.slice pb' (i + 1) cb') (La ++ [s3]) (Lb ++ [s5])) := HB3.out.pushB O6 G6 B6); clear O6 G6 B6))
      go_roundw
      case rel =>
        refine ⟨i + 1, ca', cb', pa', pb', _, _, by omega, rfl, rfl, by go_num, HB4, fun j hj => ?_⟩
        by_cases e : j < i
        · have hq := HT.out j e
          have q1 : j < La.length := by rw [HLi.out.1]; exact e
          have q2 : j < Lb.length := by rw [HLi.out.2]; exact e
          rw [getD_app_lt q1, getD_app_lt q2]
          exact hq
        · obtain rfl : j = i := by omega
          have q1 : (La ++ [s3]).getD j 0 = s3 := getD_app_eq HLi.out.1
          have q2 : (Lb ++ [s5]).getD j 0 = s5 := getD_app_eq HLi.out.2
          rw [q1, q2, HXY.out.1, HXY.out.2, K3.out, K5.out, K1.out, K2.out]
          exact ⟨rfl, rfl⟩
      case measure => simp [intOf]; omega
    · obtain rfl : i = n := by omega
      clear U3
      have CA : Hid (∀ W, Up wr W → Calls Try.prog 45 #[.slice pa i ca] W (FR W (sxxF d))) := fun W hu => by
        have := floats_or (HAB.out.a.up hu) Z2.out.2 Z2.out.1 (F := fun j => sqF (ab d[j]!) (mtF d)) (fun j hj => by rw [← N1.out]; exact (HT.out j hj).1)
        unfold sxxF; rw [HL.out.1]; exact this
      have CB : Hid (∀ W, Up wr W → Calls Try.prog 45 #[.slice pb i cb] W (FR W (sxyF d d2))) := fun W hu => by
        have := floats_or (HAB.out.b.up hu) Z2.out.2 Z2.out.1 (F := fun j => crF (ab d[j]!) (mtF d) (ab d2[j]!) (mtF d2)) (fun j hj => by rw [← N1.out, ← N2.out]; exact (HT.out j hj).2)
        unfold sxyF; rw [HL.out.1]; exact this
      have U4 : Hid (Up w wr) := HAB.out.up
      clear HAB HT
      go_wp2_with (first
        | (go_at_call 45; (with_reducible refine (CA.out _ (Up.refl _)).mono ?_); rintro e w7 ⟨r3, n3, rfl, hw3, N3⟩; (have U7 : Hid (Up wr w7) := hw3 ▸ Up.drewN _ _); clear hw3 CA; (have z3 : eqF (ab r3) (ab 0) = true := (by rw [N3.out]; exact HX.out))))
      go_ret3
      exact LnR.bad HL0.out (by decide) (U4.out.trans U7.out)
set_option maxHeartbeats 4000000 in
theorem t16s {w : World} {p p2 : Option Addr} {n cap m cap2 : Nat} {d d2 : Array Nat} (h : SV w p n cap d) (h2 : SV w p2 m cap2 d2) (hE : lenE n m = 0) (h1 : ¬ n < 2) (hF : finL d = true) (hF2 : finL d2 = true) (hx : eqF (sxxF d) (ab 0) = false) (hs : fin (spdF d d2) = false) : Calls Try.prog 16 #[.slice p n cap, .slice p2 m cap2] w (LnR w d d2) := by
  have HL0 : Hid (linE d d2 = 6) := by show _ = _; unfold linE; rw [h.len, h2.len, if_pos hE, if_neg h1, hF, hF2, hx, hs]; rfl
  obtain ⟨e1, e2⟩ := lenE0 hE
  subst e1
  have B : Hid (SV w p n cap d ∧ SV w p2 n cap2 d2) := ⟨h, h2⟩
  have z1 : ¬ (n : Int) < 2 := by omega
  have z2 : ¬ (1024 : Int) < (n : Int) := by omega
  have Z2 : Hid (n ≤ 1000000 ∧ 0 < n) := ⟨by omega, by omega⟩
  have HL : Hid (d.size = n ∧ d2.size = n) := ⟨h.len, h2.len⟩
  have HX : Hid (eqF (sxxF d) (ab 0) = false) := hx
  have HS : Hid (fin (spdF d d2) = false) := hs
  clear h h2 hE hx hs
  go_enter Try.func16, Try.ntmps16
  go_wp2_with (first
    | (go_at_call 44; (with_reducible refine (t44 B.out.1 Z2.out.1).mono ?_); rintro e w' ⟨rfl, hw⟩; subst w'; rw [hF])
    | (go_at_call 44; (with_reducible refine (t44 B.out.2 Z2.out.1).mono ?_); rintro e w' ⟨rfl, hw⟩; subst w'; rw [hF2])
    | (go_at_call 45; (with_reducible refine (floats_sv B.out.1 Z2.out.2 Z2.out.1).mono ?_); rintro e w1 ⟨r1, n1, rfl, hw1, H1⟩; (have U1 : Hid (Up w w1) := hw1 ▸ Up.drewN _ _); clear hw1)
    | ((with_reducible refine upon_fl (op := .quo) (x := r1) (by simp) ?_); intro m1 k1 M1; (have B2 : Hid (SV (w1.drewN k1) p2 n cap2 d2) := B.out.2.up (U1.out.dr _)))
    | (go_at_call 45; (with_reducible refine (floats_sv B2.out Z2.out.2 Z2.out.1).mono ?_); rintro e w2 ⟨r2, n2, rfl, hw2, H2⟩; (have U2 : Hid (Up w w2) := hw2 ▸ (U1.out.dr _).dr _); clear hw2)
    | ((with_reducible refine upon_fl (op := .quo) (x := r2) (by simp) ?_); intro m2 k2 M2))
  have N1 : Hid (ab m1 = mtF d) := mt_of HL.out.1 H1.out M1.out
  have N2 : Hid (ab m2 = mtF d2) := mt_of HL.out.2 H2.out M2.out
  have U3 : Hid (Up w (w2.drewN k2)) := U2.out.dr _
  clear M1 M2 H1 H2 U1 U2 B2
  generalize w2.drewN k2 = W at *
  go_loopw [10, 11, 12, 13, 14] (fun va vb vi _ _ wr => ∃ (i ca cb : Nat) (pa pb : Option Addr) (La Lb : List Nat), i ≤ n ∧ va = .slice pa i ca ∧ vb = .slice pb i cb ∧ vi = .int .i64 i ∧ Hid (AB w wr (.slice pa i ca) (.slice pb i cb) La Lb) ∧ Hid (∀ j, j < i → ab (La.getD j 0) = sqF (ab d[j]!) (ab m1) ∧ ab (Lb.getD j 0) = crF (ab d[j]!) (ab m1) (ab d2[j]!) (ab m2))) (fun _ _ vi _ _ _ => n - (intOf vi).toNat)
  case atStart => exact ⟨0, 0, 0, none, none, [], [], by omega, rfl, rfl, rfl, ⟨OR.nil _ _ _ _, OR.nil _ _ _ _, (fun g e => by cases e), U3.out⟩, fun j hj => by omega⟩
  case round =>
    obtain ⟨i, ca, cb, pa, pb, La, Lb, hi, rfl, rfl, rfl, HAB, HT⟩ := hrel
    rename World => wr
    by_cases hlt : i < n
    · obtain ⟨b, o, hp, hr⟩ := B.out.1.rd (by omega)
      subst hp
      obtain ⟨b2, o2, hp2, hr2⟩ := B.out.2.rd (by omega)
      subst hp2
      have c0 := cell_up (hr i (by rw [HL.out.1]; exact hlt)) HAB.out.up
      have c1 := cell_up (hr2 i (by rw [HL.out.2]; exact hlt)) HAB.out.up
      obtain ⟨x, hx⟩ : ∃ x, d[i]! = x := ⟨_, rfl⟩
      obtain ⟨y, hy⟩ : ∃ y, d2[i]! = y := ⟨_, rfl⟩
      rw [hx] at c0
      rw [hy] at c1
      have HXY : Hid (d[i]! = x ∧ d2[i]! = y) := ⟨hx, hy⟩
      have z4 : (i : Int) < (n : Int) := by omega
      have hla := HAB.out.a.len
      have hlb := HAB.out.b.len
      have HLa : Hid (La.length ≤ 2000000) := (by omega : _ ≤ _)
      have HLb : Hid (Lb.length ≤ 2000000) := (by omega : _ ≤ _)
      have HLi : Hid (La.length = i ∧ Lb.length = i) := ⟨hla, hlb⟩
      clear hr hr2 hx hy hla hlb
      go_wp2_with (first
        | ((with_reducible refine upon_fl (op := .sub) (x := x) (y := m1) (by simp) ?_); intro s1 j1 K1; (replace c1 : (wr.drewN j1).cell? ⟨b2, o2 + i, none⟩ = some (.float .f64 y) := c1))
        | ((with_reducible refine upon_fl (op := .sub) (x := y) (y := m2) (by simp) ?_); intro s2 j2 K2)
        | ((with_reducible refine upon_fl (op := .mul) (x := s1) (y := s1) (by simp) ?_); intro s3 j3 K3; (have HB1 : Hid (AB w (wr.drewN (j1 + j2 + j3)) (.slice pa i ca) (.slice pb i cb) La Lb) := HAB.out.dr _))
        | (at_builtin; refine wpList_pushF (b := w.heap.size) rfl _ _ rfl pa i ca La s3 rfl rfl HB1.out.a (RowKit.Below.size HB1.out.up) HLa.out ?_; intro pa' ca' w4 O4 G4 B4; (have HB2 : Hid (AB w w4 (.slice pa' (i + 1) ca') (.slice pb i cb) (La ++ [s3]) Lb) := HB1.out.pushA O4 G4 B4); clear O4 G4 B4)
        | ((with_reducible refine upon_fl (op := .mul) (x := s1) (y := s2) (by simp) ?_); intro s5 j5 K5; (have HB3 : Hid (AB w (w4.drewN j5) (.slice pa' (i + 1) ca') (.slice pb i cb) (La ++ [s3]) Lb) := HB2.out.dr _))
        | (at_builtin; refine wpList_pushF (b := w.heap.size) rfl _ _ rfl pb i cb Lb s5 rfl rfl HB3.out.b (RowKit.Below.size HB3.out.up) HLb.out ?_; intro pb' cb' w6 O6 G6 B6; (have HB4 : Hid (AB w w6 (.slice pa' (i + 1) ca') (.slice pb' (i + 1) cb') (La ++ [s3]) (Lb ++ [s5])) := HB3.out.pushB O6 G6 B6); clear O6 G6 B6))
      go_roundw
      case rel =>
        refine ⟨i + 1, ca', cb', pa', pb', _, _, by omega, rfl, rfl, by go_num, HB4, fun j hj => ?_⟩
        by_cases e : j < i
        · have hq := HT.out j e
          have q1 : j < La.length := by rw [HLi.out.1]; exact e
          have q2 : j < Lb.length := by rw [HLi.out.2]; exact e
          rw [getD_app_lt q1, getD_app_lt q2]
          exact hq
        · obtain rfl : j = i := by omega
          have q1 : (La ++ [s3]).getD j 0 = s3 := getD_app_eq HLi.out.1
          have q2 : (Lb ++ [s5]).getD j 0 = s5 := getD_app_eq HLi.out.2
          rw [q1, q2, HXY.out.1, HXY.out.2, K3.out, K5.out, K1.out, K2.out]
          exact ⟨rfl, rfl⟩
      case measure => simp [intOf]; omega
    · obtain rfl : i = n := by omega
      clear U3
      have CA : Hid (∀ W, Up wr W → Calls Try.prog 45 #[.slice pa i ca] W (FR W (sxxF d))) := fun W hu => by
        have := floats_or (HAB.out.a.up hu) Z2.out.2 Z2.out.1 (F := fun j => sqF (ab d[j]!) (mtF d)) (fun j hj => by rw [← N1.out]; exact (HT.out j hj).1)
        unfold sxxF; rw [HL.out.1]; exact this
      have CB : Hid (∀ W, Up wr W → Calls Try.prog 45 #[.slice pb i cb] W (FR W (sxyF d d2))) := fun W hu => by
        have := floats_or (HAB.out.b.up hu) Z2.out.2 Z2.out.1 (F := fun j => crF (ab d[j]!) (mtF d) (ab d2[j]!) (mtF d2)) (fun j hj => by rw [← N1.out, ← N2.out]; exact (HT.out j hj).2)
        unfold sxyF; rw [HL.out.1]; exact this
      have U4 : Hid (Up w wr) := HAB.out.up
      clear HAB HT
      go_wp2_with (first
        | (go_at_call 45; (with_reducible refine (CA.out _ (Up.refl _)).mono ?_); rintro e w7 ⟨r3, n3, rfl, hw3, N3⟩; (have U7 : Hid (Up wr w7) := hw3 ▸ Up.drewN _ _); clear hw3 CA; (have z3 : eqF (ab r3) (ab 0) = false := (by rw [N3.out]; exact HX.out)))
        | (go_at_call 45; (with_reducible refine (CB.out _ U7.out).mono ?_); rintro e w8 ⟨r4, n4, rfl, hw4, N4⟩; (have U8 : Hid (Up w w8) := hw4 ▸ (U4.out.trans U7.out).dr _); clear hw4 CB)
        | ((with_reducible refine upon_fl (op := .quo) (x := r4) (by simp) ?_); intro s5 k5 M5)
        | ((with_reducible refine upon_fl (op := .mul) (x := s5) (by simp) ?_); intro s6 k6 M6)
        | ((with_reducible refine upon_fl (op := .sub) (by simp) ?_); intro s7 k7 M7
           have N5 : Hid (ab s5 = spdF d d2) := (by show _ = _; unfold spdF; rw [M5.out, N4.out, N3.out])
           have N7 : Hid (ab s7 = atF d d2) := (by show _ = _; unfold atF; rw [M7.out, M6.out, N5.out, N1.out, N2.out])
           clear M5 M6 M7)
        | (go_at_call 32; (with_reducible refine (t32 s5 _).mono ?_); rintro e w' ⟨rfl, hw⟩; subst w'; rw [N5.out, HS.out]))
      go_ret3
      exact LnR.bad HL0.out (by decide) (U8.out.dr _)
set_option maxHeartbeats 4000000 in
theorem t16a {w : World} {p p2 : Option Addr} {n cap m cap2 : Nat} {d d2 : Array Nat} (h : SV w p n cap d) (h2 : SV w p2 m cap2 d2) (hE : lenE n m = 0) (h1 : ¬ n < 2) (hF : finL d = true) (hF2 : finL d2 = true) (hx : eqF (sxxF d) (ab 0) = false) (hs : fin (spdF d d2) = true) (ha : fin (atF d d2) = false) : Calls Try.prog 16 #[.slice p n cap, .slice p2 m cap2] w (LnR w d d2) := by
  have HL0 : Hid (linE d d2 = 6) := by show _ = _; unfold linE; rw [h.len, h2.len, if_pos hE, if_neg h1, hF, hF2, hx, hs, ha]; rfl
  obtain ⟨e1, e2⟩ := lenE0 hE
  subst e1
  have B : Hid (SV w p n cap d ∧ SV w p2 n cap2 d2) := ⟨h, h2⟩
  have z1 : ¬ (n : Int) < 2 := by omega
  have z2 : ¬ (1024 : Int) < (n : Int) := by omega
  have Z2 : Hid (n ≤ 1000000 ∧ 0 < n) := ⟨by omega, by omega⟩
  have HL : Hid (d.size = n ∧ d2.size = n) := ⟨h.len, h2.len⟩
  have HX : Hid (eqF (sxxF d) (ab 0) = false) := hx
  have HS : Hid (fin (spdF d d2) = true) := hs
  have HA : Hid (fin (atF d d2) = false) := ha
  clear h h2 hE hx hs ha
  go_enter Try.func16, Try.ntmps16
  go_wp2_with (first
    | (go_at_call 44; (with_reducible refine (t44 B.out.1 Z2.out.1).mono ?_); rintro e w' ⟨rfl, hw⟩; subst w'; rw [hF])
    | (go_at_call 44; (with_reducible refine (t44 B.out.2 Z2.out.1).mono ?_); rintro e w' ⟨rfl, hw⟩; subst w'; rw [hF2])
    | (go_at_call 45; (with_reducible refine (floats_sv B.out.1 Z2.out.2 Z2.out.1).mono ?_); rintro e w1 ⟨r1, n1, rfl, hw1, H1⟩; (have U1 : Hid (Up w w1) := hw1 ▸ Up.drewN _ _); clear hw1)
    | ((with_reducible refine upon_fl (op := .quo) (x := r1) (by simp) ?_); intro m1 k1 M1; (have B2 : Hid (SV (w1.drewN k1) p2 n cap2 d2) := B.out.2.up (U1.out.dr _)))
    | (go_at_call 45; (with_reducible refine (floats_sv B2.out Z2.out.2 Z2.out.1).mono ?_); rintro e w2 ⟨r2, n2, rfl, hw2, H2⟩; (have U2 : Hid (Up w w2) := hw2 ▸ (U1.out.dr _).dr _); clear hw2)
    | ((with_reducible refine upon_fl (op := .quo) (x := r2) (by simp) ?_); intro m2 k2 M2))
  have N1 : Hid (ab m1 = mtF d) := mt_of HL.out.1 H1.out M1.out
  have N2 : Hid (ab m2 = mtF d2) := mt_of HL.out.2 H2.out M2.out
  have U3 : Hid (Up w (w2.drewN k2)) := U2.out.dr _
  clear M1 M2 H1 H2 U1 U2 B2
  generalize w2.drewN k2 = W at *
  go_loopw [10, 11, 12, 13, 14] (fun va vb vi _ _ wr => ∃ (i ca cb : Nat) (pa pb : Option Addr) (La Lb : List Nat), i ≤ n ∧ va = .slice pa i ca ∧ vb = .slice pb i cb ∧ vi = .int .i64 i ∧ Hid (AB w wr (.slice pa i ca) (.slice pb i cb) La Lb) ∧ Hid (∀ j, j < i → ab (La.getD j 0) = sqF (ab d[j]!) (ab m1) ∧ ab (Lb.getD j 0) = crF (ab d[j]!) (ab m1) (ab d2[j]!) (ab m2))) (fun _ _ vi _ _ _ => n - (intOf vi).toNat)
  case atStart => exact ⟨0, 0, 0, none, none, [], [], by omega, rfl, rfl, rfl, ⟨OR.nil _ _ _ _, OR.nil _ _ _ _, (fun g e => by cases e), U3.out⟩, fun j hj => by omega⟩
  case round =>
    obtain ⟨i, ca, cb, pa, pb, La, Lb, hi, rfl, rfl, rfl, HAB, HT⟩ := hrel
    rename World => wr
    by_cases hlt : i < n
    · obtain ⟨b, o, hp, hr⟩ := B.out.1.rd (by omega)
      subst hp
      obtain ⟨b2, o2, hp2, hr2⟩ := B.out.2.rd (by omega)
      subst hp2
      have c0 := cell_up (hr i (by rw [HL.out.1]; exact hlt)) HAB.out.up
      have c1 := cell_up (hr2 i (by rw [HL.out.2]; exact hlt)) HAB.out.up
      obtain ⟨x, hx⟩ : ∃ x, d[i]! = x := ⟨_, rfl⟩
      obtain ⟨y, hy⟩ : ∃ y, d2[i]! = y := ⟨_, rfl⟩
      rw [hx] at c0
      rw [hy] at c1
      have HXY : Hid (d[i]! = x ∧ d2[i]! = y) := ⟨hx, hy⟩
      have z4 : (i : Int) < (n : Int) := by omega
      have hla := HAB.out.a.len
      have hlb := HAB.out.b.len
      have HLa : Hid (La.length ≤ 2000000) := (by omega : _ ≤ _)
      have HLb : Hid (Lb.length ≤ 2000000) := (by omega : _ ≤ _)
      have HLi : Hid (La.length = i ∧ Lb.length = i) := ⟨hla, hlb⟩
      clear hr hr2 hx hy hla hlb
      go_wp2_with (first
        | ((with_reducible refine upon_fl (op := .sub) (x := x) (y := m1) (by simp) ?_); intro s1 j1 K1; (replace c1 : (wr.drewN j1).cell? ⟨b2, o2 + i, none⟩ = some (.float .f64 y) := c1))
        | ((with_reducible refine upon_fl (op := .sub) (x := y) (y := m2) (by simp) ?_); intro s2 j2 K2)
        | ((with_reducible refine upon_fl (op := .mul) (x := s1) (y := s1) (by simp) ?_); intro s3 j3 K3; (have HB1 : Hid (AB w (wr.drewN (j1 + j2 + j3)) (.slice pa i ca) (.slice pb i cb) La Lb) := HAB.out.dr _))
        | (at_builtin; refine wpList_pushF (b := w.heap.size) rfl _ _ rfl pa i ca La s3 rfl rfl HB1.out.a (RowKit.Below.size HB1.out.up) HLa.out ?_; intro pa' ca' w4 O4 G4 B4; (have HB2 : Hid (AB w w4 (.slice pa' (i + 1) ca') (.slice pb i cb) (La ++ [s3]) Lb) := HB1.out.pushA O4 G4 B4); clear O4 G4 B4)
        | ((with_reducible refine upon_fl (op := .mul) (x := s1) (y := s2) (by simp) ?_); intro s5 j5 K5; (have HB3 : Hid (AB w (w4.drewN j5) (.slice pa' (i + 1) ca') (.slice pb i cb) (La ++ [s3]) Lb) := HB2.out.dr _))
        | (at_builtin; refine wpList_pushF (b := w.heap.size) rfl _ _ rfl pb i cb Lb s5 rfl rfl HB3.out.b (RowKit.Below.size HB3.out.up) HLb.out ?_; intro pb' cb' w6 O6 G6 B6; (have HB4 : Hid (AB w w6 (.slice pa' (i + 1) ca') (.slice pb' (i + 1) cb') (La ++ [s3]) (Lb ++ [s5])) := HB3.out.pushB O6 G6 B6); clear O6 G6 B6))
      go_roundw
      case rel =>
        refine ⟨i + 1, ca', cb', pa', pb', _, _, by omega, rfl, rfl, by go_num, HB4, fun j hj => ?_⟩
        by_cases e : j < i
        · have hq := HT.out j e
          have q1 : j < La.length := by rw [HLi.out.1]; exact e
          have q2 : j < Lb.length := by rw [HLi.out.2]; exact e
          rw [getD_app_lt q1, getD_app_lt q2]
          exact hq
        · obtain rfl : j = i := by omega
          have q1 : (La ++ [s3]).getD j 0 = s3 := getD_app_eq HLi.out.1
          have q2 : (Lb ++ [s5]).getD j 0 = s5 := getD_app_eq HLi.out.2
          rw [q1, q2, HXY.out.1, HXY.out.2, K3.out, K5.out, K1.out, K2.out]
          exact ⟨rfl, rfl⟩
      case measure => simp [intOf]; omega
    · obtain rfl : i = n := by omega
      clear U3
      have CA : Hid (∀ W, Up wr W → Calls Try.prog 45 #[.slice pa i ca] W (FR W (sxxF d))) := fun W hu => by
        have := floats_or (HAB.out.a.up hu) Z2.out.2 Z2.out.1 (F := fun j => sqF (ab d[j]!) (mtF d)) (fun j hj => by rw [← N1.out]; exact (HT.out j hj).1)
        unfold sxxF; rw [HL.out.1]; exact this
      have CB : Hid (∀ W, Up wr W → Calls Try.prog 45 #[.slice pb i cb] W (FR W (sxyF d d2))) := fun W hu => by
        have := floats_or (HAB.out.b.up hu) Z2.out.2 Z2.out.1 (F := fun j => crF (ab d[j]!) (mtF d) (ab d2[j]!) (mtF d2)) (fun j hj => by rw [← N1.out, ← N2.out]; exact (HT.out j hj).2)
        unfold sxyF; rw [HL.out.1]; exact this
      have U4 : Hid (Up w wr) := HAB.out.up
      clear HAB HT
      go_wp2_with (first
        | (go_at_call 45; (with_reducible refine (CA.out _ (Up.refl _)).mono ?_); rintro e w7 ⟨r3, n3, rfl, hw3, N3⟩; (have U7 : Hid (Up wr w7) := hw3 ▸ Up.drewN _ _); clear hw3 CA; (have z3 : eqF (ab r3) (ab 0) = false := (by rw [N3.out]; exact HX.out)))
        | (go_at_call 45; (with_reducible refine (CB.out _ U7.out).mono ?_); rintro e w8 ⟨r4, n4, rfl, hw4, N4⟩; (have U8 : Hid (Up w w8) := hw4 ▸ (U4.out.trans U7.out).dr _); clear hw4 CB)
        | ((with_reducible refine upon_fl (op := .quo) (x := r4) (by simp) ?_); intro s5 k5 M5)
        | ((with_reducible refine upon_fl (op := .mul) (x := s5) (by simp) ?_); intro s6 k6 M6)
        | ((with_reducible refine upon_fl (op := .sub) (by simp) ?_); intro s7 k7 M7
           have N5 : Hid (ab s5 = spdF d d2) := (by show _ = _; unfold spdF; rw [M5.out, N4.out, N3.out])
           have N7 : Hid (ab s7 = atF d d2) := (by show _ = _; unfold atF; rw [M7.out, M6.out, N5.out, N1.out, N2.out])
           clear M5 M6 M7)
        | (go_at_call 32; (with_reducible refine (t32 s5 _).mono ?_); rintro e w' ⟨rfl, hw⟩; subst w'; rw [N5.out, HS.out])
        | (go_at_call 32; (with_reducible refine (t32 s7 _).mono ?_); rintro e w' ⟨rfl, hw⟩; subst w'; rw [N7.out, HA.out]))
      go_ret3
      exact LnR.bad HL0.out (by decide) (U8.out.dr _)
set_option maxHeartbeats 4000000 in
theorem t16k {w : World} {p p2 : Option Addr} {n cap m cap2 : Nat} {d d2 : Array Nat} (h : SV w p n cap d) (h2 : SV w p2 m cap2 d2) (hE : lenE n m = 0) (h1 : ¬ n < 2) (hF : finL d = true) (hF2 : finL d2 = true) (hx : eqF (sxxF d) (ab 0) = false) (hs : fin (spdF d d2) = true) (ha : fin (atF d d2) = true) : Calls Try.prog 16 #[.slice p n cap, .slice p2 m cap2] w (LnR w d d2) := by
  have HL0 : Hid (linE d d2 = 0) := by show _ = _; unfold linE; rw [h.len, h2.len, if_pos hE, if_neg h1, hF, hF2, hx, hs, ha]; rfl
  obtain ⟨e1, e2⟩ := lenE0 hE
  subst e1
  have B : Hid (SV w p n cap d ∧ SV w p2 n cap2 d2) := ⟨h, h2⟩
  have z1 : ¬ (n : Int) < 2 := by omega
  have z2 : ¬ (1024 : Int) < (n : Int) := by omega
  have Z2 : Hid (n ≤ 1000000 ∧ 0 < n) := ⟨by omega, by omega⟩
  have HL : Hid (d.size = n ∧ d2.size = n) := ⟨h.len, h2.len⟩
  have HX : Hid (eqF (sxxF d) (ab 0) = false) := hx
  have HS : Hid (fin (spdF d d2) = true) := hs
  have HA : Hid (fin (atF d d2) = true) := ha
  clear h h2 hE hx hs ha
  go_enter Try.func16, Try.ntmps16
  go_wp2_with (first
    | (go_at_call 44; (with_reducible refine (t44 B.out.1 Z2.out.1).mono ?_); rintro e w' ⟨rfl, hw⟩; subst w'; rw [hF])
    | (go_at_call 44; (with_reducible refine (t44 B.out.2 Z2.out.1).mono ?_); rintro e w' ⟨rfl, hw⟩; subst w'; rw [hF2])
    | (go_at_call 45; (with_reducible refine (floats_sv B.out.1 Z2.out.2 Z2.out.1).mono ?_); rintro e w1 ⟨r1, n1, rfl, hw1, H1⟩; (have U1 : Hid (Up w w1) := hw1 ▸ Up.drewN _ _); clear hw1)
    | ((with_reducible refine upon_fl (op := .quo) (x := r1) (by simp) ?_); intro m1 k1 M1; (have B2 : Hid (SV (w1.drewN k1) p2 n cap2 d2) := B.out.2.up (U1.out.dr _)))
    | (go_at_call 45; (with_reducible refine (floats_sv B2.out Z2.out.2 Z2.out.1).mono ?_); rintro e w2 ⟨r2, n2, rfl, hw2, H2⟩; (have U2 : Hid (Up w w2) := hw2 ▸ (U1.out.dr _).dr _); clear hw2)
    | ((with_reducible refine upon_fl (op := .quo) (x := r2) (by simp) ?_); intro m2 k2 M2))
  have N1 : Hid (ab m1 = mtF d) := mt_of HL.out.1 H1.out M1.out
  have N2 : Hid (ab m2 = mtF d2) := mt_of HL.out.2 H2.out M2.out
  have U3 : Hid (Up w (w2.drewN k2)) := U2.out.dr _
  clear M1 M2 H1 H2 U1 U2 B2
  generalize w2.drewN k2 = W at *
  go_loopw [10, 11, 12, 13, 14] (fun va vb vi _ _ wr => ∃ (i ca cb : Nat) (pa pb : Option Addr) (La Lb : List Nat), i ≤ n ∧ va = .slice pa i ca ∧ vb = .slice pb i cb ∧ vi = .int .i64 i ∧ Hid (AB w wr (.slice pa i ca) (.slice pb i cb) La Lb) ∧ Hid (∀ j, j < i → ab (La.getD j 0) = sqF (ab d[j]!) (ab m1) ∧ ab (Lb.getD j 0) = crF (ab d[j]!) (ab m1) (ab d2[j]!) (ab m2))) (fun _ _ vi _ _ _ => n - (intOf vi).toNat)
  case atStart => exact ⟨0, 0, 0, none, none, [], [], by omega, rfl, rfl, rfl, ⟨OR.nil _ _ _ _, OR.nil _ _ _ _, (fun g e => by cases e), U3.out⟩, fun j hj => by omega⟩
  case round =>
    obtain ⟨i, ca, cb, pa, pb, La, Lb, hi, rfl, rfl, rfl, HAB, HT⟩ := hrel
    rename World => wr
    by_cases hlt : i < n
    · obtain ⟨b, o, hp, hr⟩ := B.out.1.rd (by omega)
      subst hp
      obtain ⟨b2, o2, hp2, hr2⟩ := B.out.2.rd (by omega)
      subst hp2
      have c0 := cell_up (hr i (by rw [HL.out.1]; exact hlt)) HAB.out.up
      have c1 := cell_up (hr2 i (by rw [HL.out.2]; exact hlt)) HAB.out.up
      obtain ⟨x, hx⟩ : ∃ x, d[i]! = x := ⟨_, rfl⟩
      obtain ⟨y, hy⟩ : ∃ y, d2[i]! = y := ⟨_, rfl⟩
      rw [hx] at c0
      rw [hy] at c1
      have HXY : Hid (d[i]! = x ∧ d2[i]! = y) := ⟨hx, hy⟩
      have z4 : (i : Int) < (n : Int) := by omega
      have hla := HAB.out.a.len
      have hlb := HAB.out.b.len
      have HLa : Hid (La.length ≤ 2000000) := (by omega : _ ≤ _)
      have HLb : Hid (Lb.length ≤ 2000000) := (by omega : _ ≤ _)
      have HLi : Hid (La.length = i ∧ Lb.length = i) := ⟨hla, hlb⟩
      clear hr hr2 hx hy hla hlb
      go_wp2_with (first
        | ((with_reducible refine upon_fl (op := .sub) (x := x) (y := m1) (by simp) ?_); intro s1 j1 K1; (replace c1 : (wr.drewN j1).cell? ⟨b2, o2 + i, none⟩ = some (.float .f64 y) := c1))
        | ((with_reducible refine upon_fl (op := .sub) (x := y) (y := m2) (by simp) ?_); intro s2 j2 K2)
        | ((with_reducible refine upon_fl (op := .mul) (x := s1) (y := s1) (by simp) ?_); intro s3 j3 K3; (have HB1 : Hid (AB w (wr.drewN (j1 + j2 + j3)) (.slice pa i ca) (.slice pb i cb) La Lb) := HAB.out.dr _))
        | (at_builtin; refine wpList_pushF (b := w.heap.size) rfl _ _ rfl pa i ca La s3 rfl rfl HB1.out.a (RowKit.Below.size HB1.out.up) HLa.out ?_; intro pa' ca' w4 O4 G4 B4; (have HB2 : Hid (AB w w4 (.slice pa' (i + 1) ca') (.slice pb i cb) (La ++ [s3]) Lb) := HB1.out.pushA O4 G4 B4); clear O4 G4 B4)
        | ((with_reducible refine upon_fl (op := .mul) (x := s1) (y := s2) (by simp) ?_); intro s5 j5 K5; (have HB3 : Hid (AB w (w4.drewN j5) (.slice pa' (i + 1) ca') (.slice pb i cb) (La ++ [s3]) Lb) := HB2.out.dr _))
        | (at_builtin; refine wpList_pushF (b := w.heap.size) rfl _ _ rfl pb i cb Lb s5 rfl rfl HB3.out.b (RowKit.Below.size HB3.out.up) HLb.out ?_; intro pb' cb' w6 O6 G6 B6; (have HB4 : Hid (AB w w6 (.slice pa' (i + 1) ca') (.slice pb' (i + 1) cb') (La ++ [s3]) (Lb ++ [s5])) := HB3.out.pushB O6 G6 B6); clear O6 G6 B6))
      go_roundw
      case rel =>
        refine ⟨i + 1, ca', cb', pa', pb', _, _, by omega, rfl, rfl, by go_num, HB4, fun j hj => ?_⟩
        by_cases e : j < i
        · have hq := HT.out j e
          have q1 : j < La.length := by rw [HLi.out.1]; exact e
          have q2 : j < Lb.length := by rw [HLi.out.2]; exact e
          rw [getD_app_lt q1, getD_app_lt q2]
          exact hq
        · obtain rfl : j = i := by omega
          have q1 : (La ++ [s3]).getD j 0 = s3 := getD_app_eq HLi.out.1
          have q2 : (Lb ++ [s5]).getD j 0 = s5 := getD_app_eq HLi.out.2
          rw [q1, q2, HXY.out.1, HXY.out.2, K3.out, K5.out, K1.out, K2.out]
          exact ⟨rfl, rfl⟩
      case measure => simp [intOf]; omega
    · obtain rfl : i = n := by omega
      clear U3
      have CA : Hid (∀ W, Up wr W → Calls Try.prog 45 #[.slice pa i ca] W (FR W (sxxF d))) := fun W hu => by
        have := floats_or (HAB.out.a.up hu) Z2.out.2 Z2.out.1 (F := fun j => sqF (ab d[j]!) (mtF d)) (fun j hj => by rw [← N1.out]; exact (HT.out j hj).1)
        unfold sxxF; rw [HL.out.1]; exact this
      have CB : Hid (∀ W, Up wr W → Calls Try.prog 45 #[.slice pb i cb] W (FR W (sxyF d d2))) := fun W hu => by
        have := floats_or (HAB.out.b.up hu) Z2.out.2 Z2.out.1 (F := fun j => crF (ab d[j]!) (mtF d) (ab d2[j]!) (mtF d2)) (fun j hj => by rw [← N1.out, ← N2.out]; exact (HT.out j hj).2)
        unfold sxyF; rw [HL.out.1]; exact this
      have U4 : Hid (Up w wr) := HAB.out.up
      clear HAB HT
      go_wp2_with (first
        | (go_at_call 45; (with_reducible refine (CA.out _ (Up.refl _)).mono ?_); rintro e w7 ⟨r3, n3, rfl, hw3, N3⟩; (have U7 : Hid (Up wr w7) := hw3 ▸ Up.drewN _ _); clear hw3 CA; (have z3 : eqF (ab r3) (ab 0) = false := (by rw [N3.out]; exact HX.out)))
        | (go_at_call 45; (with_reducible refine (CB.out _ U7.out).mono ?_); rintro e w8 ⟨r4, n4, rfl, hw4, N4⟩; (have U8 : Hid (Up w w8) := hw4 ▸ (U4.out.trans U7.out).dr _); clear hw4 CB)
        | ((with_reducible refine upon_fl (op := .quo) (x := r4) (by simp) ?_); intro s5 k5 M5)
        | ((with_reducible refine upon_fl (op := .mul) (x := s5) (by simp) ?_); intro s6 k6 M6)
        | ((with_reducible refine upon_fl (op := .sub) (by simp) ?_); intro s7 k7 M7
           have N5 : Hid (ab s5 = spdF d d2) := (by show _ = _; unfold spdF; rw [M5.out, N4.out, N3.out])
           have N7 : Hid (ab s7 = atF d d2) := (by show _ = _; unfold atF; rw [M7.out, M6.out, N5.out, N1.out, N2.out])
           clear M5 M6 M7)
        | (go_at_call 32; (with_reducible refine (t32 s5 _).mono ?_); rintro e w' ⟨rfl, hw⟩; subst w'; rw [N5.out, HS.out])
        | (go_at_call 32; (with_reducible refine (t32 s7 _).mono ?_); rintro e w' ⟨rfl, hw⟩; subst w'; rw [N7.out, HA.out]))
      go_ret3
      exact ⟨s7, s5, by rw [HL0.out]; rfl, ⟨by unfold linA; rw [HL0.out, if_pos rfl, N7.out], by unfold linS; rw [HL0.out, if_pos rfl, N5.out]⟩, U8.out.dr _⟩
/-- LINE, THE DOCUMENT'S. -/
theorem t16 {w : World} {p p2 : Option Addr} {n cap m cap2 : Nat} {d d2 : Array Nat} (h : SV w p n cap d) (h2 : SV w p2 m cap2 d2) : Calls Try.prog 16 #[.slice p n cap, .slice p2 m cap2] w (LnR w d d2) := by
  by_cases hE : lenE n m = 0
  · by_cases h1 : n < 2
    · exact t16few h h2 hE h1
    · cases hF : finL d
      · exact t16fin h h2 hE h1 (by rw [hF]; rfl)
      · cases hF2 : finL d2
        · exact t16fin h h2 hE h1 (by rw [hF, hF2]; rfl)
        · cases hx : eqF (sxxF d) (ab 0)
          · cases hs : fin (spdF d d2)
            · exact t16s h h2 hE h1 hF hF2 hx hs
            · cases ha : fin (atF d d2)
              · exact t16a h h2 hE h1 hF hF2 hx hs ha
              · exact t16k h h2 hE h1 hF hF2 hx hs ha
          · exact t16z h h2 hE h1 hF hF2 hx
  · exact t16len h h2 hE
end Go.Proofs.Ytcgbmcnefolgcaa
