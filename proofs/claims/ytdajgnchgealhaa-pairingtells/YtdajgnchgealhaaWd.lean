/- PairingTells. -/
import Derived.Test.YtdajgnchgealhaaWc
import Derived.Test.YtdajgnchgealhaaMh
namespace Go.Proofs.Ytdajgnchgealhaa
open Go.ChangeShapes Go.WideShapes Go.ChangeAt Go.RowKit
attribute [local go_sem] isSome_set

theorem info4 : (Try.prog.info? 4).map (fun i => (i.zero, i.size, i.bytes)) = some (some (.bool false), 1, 1) := by kernel_rfl
theorem make40 (n : Nat) (hn : n ≤ 1000000) (w : World) : (Instr.makeSlice 40 (.int .i64 n) (.int .i64 n)).run Try.prog w = .ok (.slice (some ⟨w.heap.size, 0, none⟩) n n) (w.alloc (.cells (madeCells #[.bool false] n) 4)) :=
  run_make_row' 40 4 (.bool false) 1 (by kernel_rfl) info4 rfl .i64 .i64 n (by omega) (by omega) w
/-- Which columns are used. -/
structure Us (w wr : World) (f : Nat → Int) (g i : Nat) : Prop where
  lo : w.heap.size ≤ g
  tk : ∀ k, k < 256 → ∃ b : Bool, wr.cell? ⟨g, k, none⟩ = some (.bool b) ∧ (b = true ↔ ∃ i', i' < i ∧ f i' = (k : Nat))
  fz : ∀ k, wr.frozen? ⟨g, k, none⟩ = false
  up : Up w wr
theorem Us.skip {w wr : World} {f : Nat → Int} {g i : Nat} (h : Us w wr f g i) (hf : f i = -1) : Us w wr f g (i + 1) := by
  refine ⟨h.lo, fun k hk => ?_, h.fz, h.up⟩
  obtain ⟨b, h1, h2⟩ := h.tk k hk
  refine ⟨b, h1, h2.trans ⟨fun ⟨i', h3, h4⟩ => ⟨i', by omega, h4⟩, fun ⟨i', h3, h4⟩ => ?_⟩⟩
  by_cases e : i' = i
  · rw [e, hf] at h4; omega
  · exact ⟨i', by omega, h4⟩
theorem Us.take {w wr : World} {f : Nat → Int} {g i j : Nat} (h : Us w wr f g i) (hf : f i = j) : Us w (wr.setCell ⟨g, j, none⟩ (.bool true)) f g (i + 1) := by
  refine ⟨h.lo, fun k hk => ?_, fun k => by rw [World.frozen?_setCell]; exact h.fz k, Below.setCell h.up h.lo _⟩
  obtain ⟨b, h1, h2⟩ := h.tk k hk
  by_cases e : k = j
  · subst e
    exact ⟨true, World.cell?_setCell_same _ _ _ h1, fun _ => ⟨i, by omega, hf⟩, fun _ => rfl⟩
  · refine ⟨b, cell_other h1 (Or.inr e), h2.trans ⟨fun ⟨i', h3, h4⟩ => ⟨i', by omega, h4⟩, fun ⟨i', h3, h4⟩ => ?_⟩⟩
    by_cases e2 : i' = i
    · rw [e2, hf] at h4; omega
    · exact ⟨i', by omega, h4⟩
theorem Us.drewN {w wr : World} {f : Nat → Int} {g i : Nat} (h : Us w wr f g i) (q : Nat) : Us w (wr.drewN q) f g i := ⟨h.lo, h.tk, h.fz, below_drewN h.up q⟩
set_option maxRecDepth 20000 in
set_option maxHeartbeats 4000000 in
theorem t5 {w : World} {p : Option Addr} {N cap : Nat} {R : Nat → Nat} {T : Nat → Nat → Int} (h : TV w p N R T) : Calls Try.prog 5 #[.slice p N cap] w fun e w' => e = .returned (.bool true) ∧ Hid (Up w w') := by
  have HT : Hid (TV w p N R T) := h
  have C19 : Hid (∀ W, Hid (Up w W) → Calls Try.prog 19 #[.slice p N cap, .int .i64 256, .int .i64 256] W (FineR W N R T 256 256)) := fun W hu => t19 (a := 256) (c := 256) (h.up hu.out) (by omega) (by omega)
  clear h
  go_enter Try.func5, Try.ntmps5
  go_wp2_with (first | (go_at_call 9; (with_reducible refine (t9 _).mono ?_); rintro e w1 ⟨rfl, HU1⟩) | (go_at_call 19; (with_reducible refine (C19.out w1 HU1).mono ?_); rintro e w2 ⟨bb, rfl, HB, k, hk⟩; subst hk; revert HB))
  intro HB
  cases bb with
  | false =>
    clear HB
    go_wp2_with (first | (go_at_call 9; (with_reducible refine (t9 _).mono ?_); rintro e w3 ⟨rfl, HU3⟩))
    go_ret
    exact ⟨rfl, HU1.out.trans ((Up.drewN _ _).trans HU3.out)⟩
  | true =>
    have HFI : Hid (Fin2 N R T 256 256) := HB.out.1 rfl
    have HG : Hid (Good N R T) := HFI.out.good (by omega) (by omega)
    have hN := HG.out.n
    have HU2 : Hid (Up w (w1.drewN k)) := HU1.out.trans (Up.drewN _ _)
    clear HB
    have C11 : Hid (∀ W, Hid (Up w W) → Calls Try.prog 11 #[.slice p N cap] W fun e w' => ∃ (v : Value) (t z : Int) (f1 : Nat → Int), e = .returned (.tuple #[v, .int .i64 t, .int .i64 z]) ∧ Hid (Best N R T f1 ∧ Up W w' ∧ ((cnt N f1 = N ∧ z = 0 ∧ t = tot N T f1 ∧ ∃ g1 : Nat, v = .slice (some ⟨g1, 0, none⟩) N N ∧ IRo w' (some ⟨g1, 0, none⟩) N f1) ∨ (cnt N f1 < N ∧ z = 170)))) := fun W hu => by
      refine (t11 (HT.out.up hu.out) HG.out).mono ?_
      rintro e w3 ⟨g1, f1, HB1, ⟨HC1, rfl, HR1⟩ | ⟨HC1, rfl, HU3⟩⟩
      · exact ⟨_, _, _, f1, rfl, HB1.out, HR1.out.up, Or.inl ⟨HC1.out, rfl, rfl, g1, rfl, HR1.out.iro⟩⟩
      · exact ⟨_, _, _, f1, rfl, HB1.out, HU3.out, Or.inr ⟨HC1.out, rfl⟩⟩
    have C15 : Hid (∀ W, Hid (Up w W) → Calls Try.prog 15 #[.slice p N cap] W (MostR W N R T)) := fun W hu => t15 (HT.out.up hu.out) HG.out
    have C17 : Hid (∀ W g f, Hid (Up w W) → Hid (Best N R T f ∧ IRo W (some ⟨g, 0, none⟩) N f) → Calls Try.prog 17 #[.slice p N cap, .slice (some ⟨g, 0, none⟩) N N] W fun e w' => e = .returned (.tuple #[.int .i64 (tot N T f), .int .i64 0]) ∧ Hid (Up W w')) := fun W g f hu hb => by
      refine (t17 (HT.out.up hu.out) hb.out.2 HG.out).mono ?_
      rintro e w' ⟨h1 | h1, h2⟩
      · exact ⟨h1.2, h2⟩
      · exact absurd hb.out.1.p h1.1.out
    go_upto_region 6 with (first
      | (go_at_call 11; (with_reducible refine (C11.out _ HU2).mono ?_); rintro e w3 ⟨v, t, z, f1, rfl, H11⟩; have HU3 : Hid (Up w w3) := HU2.out.trans H11.out.2.1)
      | (go_at_call 15; (with_reducible refine (C15.out _ HU3).mono ?_); rintro e w4 ⟨g2, f, rfl, HB, HR2⟩; have HU4 : Hid (Up w w4) := HU3.out.trans HR2.out.up; have HBI : Hid (Best N R T f ∧ IRo w4 (some ⟨g2, 0, none⟩) N f) := ⟨HB.out, HR2.out.iro⟩)
      | (go_at_call 17; (with_reducible refine (C17.out _ _ f HU4 HBI).mono ?_); rintro e w5 ⟨rfl, HU5⟩))
    have HIR : Hid (∀ W, Up w4 W → ∀ i, i < N → W.cell? ⟨g2, i, none⟩ = some (.int .i64 (f i))) := fun W hu i hi => cell_up (HR2.out.c i hi) hu
    have hcb := cnt_le f N
    have HEQ : Hid (cnt N f1 = cnt N f ∧ tot N T f1 = tot N T f ∧ ∀ i, i < N → f1 i = f i) := ⟨(H11.out.1.cnt_eq HB.out).1, (H11.out.1.cnt_eq HB.out).2, H11.out.1.uniq HB.out⟩
    obtain ⟨tt, htt⟩ : ∃ tt, tot N T f = tt := ⟨_, rfl⟩
    obtain ⟨c, hcc⟩ : ∃ c, cnt N f = c := ⟨_, rfl⟩
    have HTT : Hid (tot N T f = tt) := htt
    have HCF : Hid (cnt N f = c) := hcc
    rw [htt, hcc]
    rw [hcc] at hcb
    clear htt hcc
    have htb : (tt != tt) = false := by simp
    have hNb : ((N : Int) != (N : Int)) = false := by simp
    have hccb : (c != c) = false := by simp
    have hcN : decide ((N : Int) < c) = false := decide_eq_false (by omega)
    have m40 : ∀ w, (Instr.makeSlice 40 (.int .i64 256) (.int .i64 256)).run Try.prog w = .ok (.slice (some ⟨w.heap.size, 0, none⟩) 256 256) (w.alloc (.cells (madeCells #[.bool false] 256) 4)) := make40 256 (by omega)
    clear C11 C15 C17
    go_cut [74] from 49 to 74 (fun v74 wx => v74 = .bool false ∧ wx = w5)
    case first =>
      rcases H11.out.2.2 with ⟨e1, rfl, e2, g1, rfl, e3⟩ | ⟨e1, rfl⟩
      · clear e1 e2 e3
        go_wp2_with fail
        go_meet
        case rel => exact ⟨rfl, rfl⟩
      · clear e1
        go_wp2_with fail
        go_meet
        case rel => exact ⟨rfl, rfl⟩
    case rest =>
      obtain ⟨rfl, hw⟩ := hcut
      subst hw
      rename World => w5
      go_wp2_with fail
      have HUS : Hid (Us w4 (w5.alloc (.cells (madeCells #[.bool false] 256) 4)) f w5.heap.size 0) := by
        refine ⟨HU5.out.size, fun k hk => ⟨false, ?_, fun e => absurd e (by decide), fun ⟨i', h, _⟩ => by omega⟩, fun k => World.frozen?_alloc_at _ _ _ _ rfl, HU5.out.trans (Up.alloc _ _)⟩
        rw [World.cell?_alloc_at _ _ _ _ rfl]; exact made_at _ hk
      generalize w5.alloc (.cells (madeCells #[.bool false] 256) 4) = W6 at *
      generalize w5.heap.size = gu at *
      clear m40
      go_loopw [13, 78] (fun v13 v78 wr => ∃ i : Nat, i ≤ N ∧ v13 = .int .i64 (cnt i f) ∧ v78 = .int .i64 i ∧ Hid (Us w4 wr f gu i)) (fun _ v78 _ => N - (intOf v78).toNat)
      case atStart => exact ⟨0, by omega, rfl, rfl, HUS⟩
      case round =>
        clear HUS
        obtain ⟨i, hi, rfl, rfl, HUS⟩ := hrel
        rename World => wr
        by_cases hlt : i < N
        · have cq0 := HIR.out _ HUS.out.up i hlt
          have hi' : (i : Int) < N := by omega
          have HCI : Hid (cnt (i + 1) f = cnt i f + if f i = -1 then 0 else 1) := rfl
          have hci := cnt_le f i
          rcases HB.out.p.at' i hlt with e | ⟨x, e, hx, hTx⟩
          · have HU7 : Hid (Us w4 wr f gu (i + 1)) := HUS.out.skip e
            have HC7 : Hid (cnt (i + 1) f = cnt i f) := by show _ = _; rw [HCI.out, if_pos e]; omega
            rw [e] at cq0
            generalize cnt i f = ci at *
            clear HCI e
            go_wp2_with fail
            go_roundw
            case rel => exact ⟨i + 1, by omega, by rw [HC7.out], by go_num, HU7⟩
            case measure => simp [intOf]; omega
          · have hR := (HG.out.r i hlt).1
            have HU7 : Hid (Us w4 (wr.setCell ⟨gu, x, none⟩ (.bool true)) f gu (i + 1)) := HUS.out.take e
            have HC7 : Hid (cnt (i + 1) f = cnt i f + 1) := by show _ = _; rw [HCI.out, if_neg (by omega)]
            obtain ⟨tb, tc, -⟩ := HUS.out.tk x (by omega)
            have fz := HUS.out.fz x
            have hx1 : (x : Int) < 256 := by omega
            rw [e] at cq0
            generalize cnt i f = ci at *
            clear HCI e
            go_wp2_with fail
            go_roundw
            case rel => exact ⟨i + 1, by omega, by rw [HC7.out], by go_num, HU7⟩
            case measure => simp [intOf]; omega
        · obtain rfl : i = N := by omega
          rename Nat => N
          rw [HCF.out]
          go_upto_region 21 with fail
          go_cut [129] from 101 to 129 (fun v129 wx => v129 = .bool false ∧ Hid (Us w4 wx f gu N))
          case first =>
            rcases H11.out.2.2 with ⟨e1, rfl, e2, g1, rfl, e3⟩ | ⟨e1, rfl⟩
            · have C13 : Hid (Calls Try.prog 13 #[.slice (some ⟨g1, 0, none⟩) N N, .slice (some ⟨g2, 0, none⟩) N N] wr fun e w' => e = .returned (.bool true) ∧ ∃ k, w' = wr.drewN k) := by
                refine (t13 (cp := N) (cq := N) (e3.up (HR2.out.up.trans HUS.out.up)) (HR2.out.iro.up HUS.out.up) (by omega)).mono ?_
                rintro e w' ⟨rfl, k, rfl⟩
                have e4 : sameB N N f1 f = true := sameB_iff.2 ⟨rfl, HEQ.out.2.2⟩
                exact ⟨by rw [e4], k, rfl⟩
              have e5 : c = N := by rw [← HCF.out, ← HEQ.out.1]; exact e1
              have e6 : t = tt := by rw [← HTT.out, ← HEQ.out.2.1]; exact e2
              subst e6
              have HE5 : Hid (c = N) := e5
              have e7 : (c != (N : Int)) = false := by rw [e5]; simp
              have e8 : (t != t) = false := by simp
              clear e1 e2 e3 e5
              go_wp2_with (first | (go_at_call 13; (with_reducible refine C13.out.mono ?_); rintro e w8 ⟨rfl, q8, hq8⟩; subst hq8))
              go_meet
              case rel => exact ⟨rfl, HUS.out.drewN _⟩
            · have e5 : c < N := by rw [← HCF.out, ← HEQ.out.1]; exact e1
              have e7 : (c == (N : Int)) = false := beq_false_of_ne (by omega)
              clear e1 e5
              go_wp2_with fail
              go_meet
              case rel => exact ⟨rfl, HUS⟩
          case rest =>
            obtain ⟨rfl, HUS⟩ := hcut
            clear H11 HEQ HTT HCF
            go_wp2_with fail
            go_loopw [132] (fun v132 wx => ∃ a : Nat, a ≤ N ∧ v132 = .int .i64 a ∧ Hid (Us w4 wx f gu N)) (fun v132 _ => N - (intOf v132).toNat)
            case atStart => exact ⟨0, by omega, rfl, HUS⟩
            case round =>
              clear HUS
              obtain ⟨a, ha, rfl, HUS⟩ := hrel
              rename World => wx
              by_cases hla : a < N
              · obtain ⟨b, o, qa, ca, rfl, ra0, ra1⟩ := (HT.out.up (HU4.out.trans HUS.out.up)) a hla
                have ha' : (a : Int) < N := by omega
                have hRa := (HG.out.r a hla).1
                have HRA : Hid (∀ W, Up w4 W → W.cell? ⟨b, o + a, none⟩ = some (.slice qa (R a) ca) ∧ IRo W qa (R a) (T a)) := fun W hu => by
                  obtain ⟨b', o', q', c', ep, r0, r1⟩ := (HT.out.up (HU4.out.trans hu)) a hla
                  simp only [Option.some.injEq, Addr.mk.injEq, and_true] at ep
                  obtain ⟨rfl, rfl⟩ := ep
                  obtain ⟨b2, o2, q2, c2, ep2, r2, r3⟩ := (HT.out.up HU4.out) a hla
                  simp only [Option.some.injEq, Addr.mk.injEq, and_true] at ep2
                  obtain ⟨rfl, rfl⟩ := ep2
                  have e1 := cell_up r2 hu
                  have e2 := cell_up r2 HUS.out.up
                  rw [r0] at e1
                  rw [ra0] at e2
                  simp only [Option.some.injEq, Value.slice.injEq, true_and] at e1 e2
                  obtain ⟨rfl, rfl⟩ := e1
                  obtain ⟨rfl, rfl⟩ := e2
                  exact ⟨r0, r1⟩
                clear ra1
                go_wp2_with fail
                go_loopw [140] (fun v140 wy => ∃ j : Nat, j ≤ R a ∧ v140 = .int .i64 j ∧ Hid (Us w4 wy f gu N)) (fun v140 _ => R a - (intOf v140).toNat)
                case atStart => exact ⟨0, by omega, rfl, HUS⟩
                case round =>
                  clear HUS ra0
                  obtain ⟨j, hj, rfl, HUS⟩ := hrel
                  rename World => wy
                  by_cases hlj : j < R a
                  · as_aux_lemma =>
                    obtain ⟨ra0, ra1⟩ := HRA.out _ HUS.out.up
                    obtain ⟨b', o', rfl, t1⟩ := ra1 j hlj
                    have hj' : (j : Int) < R a := by omega
                    by_cases hT : T a j < 0
                    · have hT' : decide (T a j < 0) = true := decide_eq_true hT
                      generalize T a j = taj at *
                      generalize R a = rra at *
                      clear ra1
                      go_wp2_with fail
                      go_roundw
                      case rel => exact ⟨j + 1, by omega, by go_num, HUS⟩
                      case measure => simp [intOf]; omega
                    · have hT' : decide (T a j < 0) = false := decide_eq_false hT
                      obtain ⟨tb, tc, tiff⟩ := HUS.out.tk j (by omega)
                      have hj256 : (j : Int) < 256 := by omega
                      cases tb with
                      | true =>
                        generalize T a j = taj at *
                        generalize R a = rra at *
                        clear ra1 tiff
                        go_wp2_with fail
                        go_roundw
                        case rel => exact ⟨j + 1, by omega, by go_num, HUS⟩
                        case measure => simp [intOf]; omega
                      | false =>
                        obtain ⟨x, hfx, hxR, hle, heq⟩ := HB.out.alone hla hlj (by omega) (fun i' hi' e => absurd (tiff.2 ⟨i', hi', e⟩) (by decide))
                        have cx := HIR.out _ HUS.out.up a hla
                        rw [hfx] at cx
                        obtain ⟨_, _, ex, t2⟩ := ra1 x hxR
                        simp only [Option.some.injEq, Addr.mk.injEq, and_true] at ex
                        obtain ⟨rfl, rfl⟩ := ex
                        have hx' : (x : Int) < R a := by omega
                        have hd1 : decide (T a j < T a x) = false := decide_eq_false (by omega)
                        have hx0 : decide ((x : Int) < 0) = false := decide_eq_false (by omega)
                        have h0x : (0 : Int) ≤ x := by omega
                        by_cases hee : T a j = T a x
                        · have hbe : (T a j == T a x) = true := by simp [hee]
                          have hjx : decide (j < x) = false := decide_eq_false (by have := heq hee.symm; omega)
                          have hjx2 : decide ((j : Int) < (x : Int)) = false := decide_eq_false (by have := heq hee.symm; omega)
                          generalize T a j = taj at *
                          generalize T a x = tax at *
                          generalize R a = rra at *
                          clear ra1 tiff heq hle hee hfx hT
                          go_wp2_with fail
                          go_quiet (fail)
                          go_wp2_with fail
                          go_roundw
                          case rel => exact ⟨j + 1, by omega, by go_num, HUS.out.drewN _⟩
                          case measure => simp [intOf]; omega
                        · have hbe : (T a j == T a x) = false := beq_false_of_ne hee
                          generalize T a j = taj at *
                          generalize T a x = tax at *
                          generalize R a = rra at *
                          clear ra1 tiff heq hle hee hfx hT
                          go_wp2_with fail
                          go_quiet (fail)
                          go_wp2_with fail
                          go_roundw
                          case rel => exact ⟨j + 1, by omega, by go_num, HUS.out.drewN _⟩
                          case measure => simp [intOf]; omega
                  · obtain hje : j = R a := by omega
                    have hj' : ¬ (j : Int) < R a := by omega
                    generalize R a = rra at *
                    clear hje
                    go_wp2_with fail
                    clear HRA
                    go_loopw [201] (fun v201 wz => ∃ c : Nat, c ≤ a ∧ v201 = .int .i64 c ∧ Hid (Us w4 wz f gu N)) (fun v201 _ => a - (intOf v201).toNat)
                    case atStart => exact ⟨0, by omega, rfl, HUS⟩
                    case round =>
                      clear HUS
                      obtain ⟨c, hc, rfl, HUS⟩ := hrel
                      rename World => wz
                      by_cases hlc : c < a
                      · as_aux_lemma =>
                        have hc' : (c : Int) < a := by omega
                        have hcN : (c : Int) < N := by omega
                        have ca := HIR.out _ HUS.out.up a hla
                        have cc := HIR.out _ HUS.out.up c (by omega)
                        obtain ⟨b1, o1, q1, c1, ep, ra0, ra1⟩ := (HT.out.up (HU4.out.trans HUS.out.up)) a hla
                        obtain ⟨b2, o2, q2, c2, ep2, rc0, rc1⟩ := (HT.out.up (HU4.out.trans HUS.out.up)) c (by omega)
                        simp only [Option.some.injEq, Addr.mk.injEq, and_true] at ep ep2
                        obtain ⟨rfl, rfl⟩ := ep
                        obtain ⟨rfl, rfl⟩ := ep2
                        have hRR : R a = R c := by rw [(HG.out.r a hla).2, (HG.out.r c (by omega)).2]
                        rcases HB.out.p.at' a hla with e | ⟨x, e, hx, hTx⟩
                        · rw [e] at ca
                          generalize R a = rra at *
                          generalize R c = rrc at *
                          clear ra1 rc1 e
                          go_wp2_with fail
                          go_quiet (fail)
                          go_wp2_with fail
                          go_roundw
                          case rel => exact ⟨c + 1, by omega, by go_num, HUS.out.drewN _⟩
                          case measure => simp [intOf]; omega
                        · rcases HB.out.p.at' c (by omega) with e' | ⟨y, e', hy, hTy⟩
                          · rw [e] at ca
                            rw [e'] at cc
                            have hx0 : decide ((x : Int) < 0) = false := decide_eq_false (by omega)
                            generalize R a = rra at *
                            generalize R c = rrc at *
                            clear ra1 rc1 e e'
                            go_wp2_with fail
                            go_quiet (fail)
                            go_wp2_with fail
                            go_roundw
                            case rel => exact ⟨c + 1, by omega, by go_num, HUS.out.drewN _⟩
                            case measure => simp [intOf]; omega
                          · have HE1 : Hid (f a = x) := e
                            have HE2 : Hid (f c = y) := e'
                            rw [e] at ca
                            rw [e'] at cc
                            obtain ⟨d1, n1, rfl, t1⟩ := ra1 x hx
                            obtain ⟨_, _, ex, t2⟩ := ra1 y (by omega)
                            simp only [Option.some.injEq, Addr.mk.injEq, and_true] at ex
                            obtain ⟨rfl, rfl⟩ := ex
                            obtain ⟨d3, n3, rfl, t3⟩ := rc1 y hy
                            obtain ⟨_, _, ex2, t4⟩ := rc1 x (by omega)
                            simp only [Option.some.injEq, Addr.mk.injEq, and_true] at ex2
                            obtain ⟨rfl, rfl⟩ := ex2
                            have hx0 : decide ((x : Int) < 0) = false := decide_eq_false (by omega)
                            have hy0 : decide ((y : Int) < 0) = false := decide_eq_false (by omega)
                            have k1 : (x : Int) < R a := by omega
                            have k2 : (y : Int) < R a := by omega
                            have k3 : (x : Int) < R c := by omega
                            have k4 : (y : Int) < R c := by omega
                            have bb1 := HG.out.t a x hla hx
                            have bb2 := HG.out.t a y hla (by omega)
                            have bb3 := HG.out.t c y (by omega) hy
                            have bb4 := HG.out.t c x (by omega) (by omega)
                            by_cases h1 : T a y < 0
                            · have h1' : decide (T a y < 0) = true := decide_eq_true h1
                              generalize T a x = tax at *
                              generalize T a y = tay at *
                              generalize T c x = tcx at *
                              generalize T c y = tcy at *
                              generalize R a = rra at *
                              generalize R c = rrc at *
                              clear ra1 rc1 e e' bb1 bb2 bb3 bb4
                              go_wp2_with fail
                              go_quiet (fail)
                              go_wp2_with fail
                              go_roundw
                              case rel => exact ⟨c + 1, by omega, by go_num, HUS.out.drewN _⟩
                              case measure => simp [intOf]; omega
                            · have h1' : decide (T a y < 0) = false := decide_eq_false h1
                              by_cases h2 : T c x < 0
                              · have h2' : decide (T c x < 0) = true := decide_eq_true h2
                                generalize T a x = tax at *
                                generalize T a y = tay at *
                                generalize T c x = tcx at *
                                generalize T c y = tcy at *
                                generalize R a = rra at *
                                generalize R c = rrc at *
                                clear ra1 rc1 e e' bb1 bb2 bb3 bb4
                                go_wp2_with fail
                                go_quiet (fail)
                                go_wp2_with fail
                                go_roundw
                                case rel => exact ⟨c + 1, by omega, by go_num, HUS.out.drewN _⟩
                                case measure => simp [intOf]; omega
                              · have h2' : decide (T c x < 0) = false := decide_eq_false h2
                                obtain ⟨w1', w2'⟩ := HB.out.swap hla hlc e e' hRR (by omega) (by omega)
                                have hd1 : decide (T a y + T c x < T a x + T c y) = false := decide_eq_false (by omega)
                                have hyx : (T a y + T c x == T a x + T c y) = true → decide (x < y) = false := fun hh => decide_eq_false (by have := w2' (by have := beq_iff_eq.1 hh; omega); omega)
                                generalize T a x = tax at *
                                generalize T a y = tay at *
                                generalize T c x = tcx at *
                                generalize T c y = tcy at *
                                generalize R a = rra at *
                                generalize R c = rrc at *
                                clear ra1 rc1 e e' w1' w2'
                                by_cases hs : tay + tcx = tax + tcy
                                · have hsb : (tay + tcx == tax + tcy) = true := by simp [hs]
                                  have hxy := hyx hsb
                                  have HXY : Hid (decide (x < y) = false) := hxy
                                  have hxy2 : decide ((x : Int) < (y : Int)) = false := decide_eq_false (by have := of_decide_eq_false hxy; omega)
                                  clear hs hyx
                                  go_wp2_with fail
                                  go_quiet (fail)
                                  go_wp2_with fail
                                  go_quiet (fail)
                                  go_wp2_with fail
                                  go_quiet (fail)
                                  go_wp2_with fail
                                  go_roundw
                                  case rel => exact ⟨c + 1, by omega, by go_num, HUS.out.drewN _⟩
                                  case measure => simp [intOf]; omega
                                · have hsb : (tay + tcx == tax + tcy) = false := beq_false_of_ne hs
                                  clear hs hyx
                                  go_wp2_with fail
                                  go_quiet (fail)
                                  go_wp2_with fail
                                  go_quiet (fail)
                                  go_wp2_with fail
                                  go_quiet (fail)
                                  go_wp2_with fail
                                  go_roundw
                                  case rel => exact ⟨c + 1, by omega, by go_num, HUS.out.drewN _⟩
                                  case measure => simp [intOf]; omega
                      · obtain rfl : c = a := by omega
                        go_wp2_with fail
                        go_roundw
                        case rel => exact ⟨c + 1, by omega, by go_num, HUS⟩
                        case measure => simp [intOf]; omega
              · obtain rfl : a = N := by omega
                go_wp2_with fail
                go_ret
                exact ⟨rfl, HU4.out.trans HUS.out.up⟩
end Go.Proofs.Ytdajgnchgealhaa
