/- Slow. -/
import Derived.Test.YtablmkpfbhifnabY
namespace Go.Proofs.Ytablmkpfbhifnab
open Go.ChangeShapes Go.WideShapes Go.ChangeAt Go.RowKit Go.Fl Ieee
attribute [local go_sem] run_store_float run_store_c isSome_set call49 call47 run_neg fold_eq fold_ne fold_lt fold_gt abs_eq

/-- What a make of a row of numbers leaves. -/
def Made (n g : Nat) (w w' : World) : Prop := w.heap.size = g ∧ CRow g w' (.slice (some ⟨g, 0, none⟩) n n) (List.replicate n (0, 0)) ∧ Up w w'
theorem upon_make {o : Oper} {a : Act} {next : Act → World → Prop} {Q : Exit → Act → World → Prop} {n : Nat} {w : World} {F : Value → World → Result Next} (hn : n ≤ 100000)
    (hk : ∀ g w', Hid (Made n g w w') → o.upon Try.prog a next Q (F (.slice (some ⟨g, 0, none⟩) n n) w')) :
    o.upon Try.prog a next Q (((Instr.makeSlice 27 (.int .i64 n) (.int .i64 n)).run Try.prog w).andThen F) := by
  obtain ⟨i0, hi, hz0, hz1, hz2⟩ := info_parts info26
  obtain ⟨w', e, h1, h2⟩ := run_make_full (P := Try.prog) w w.heap.size 27 26 i0 (.complex .f64 0 0) 1 Try.underlying27 hi hz0 hz1 .i64 .i64 n (by rw [hz2]; omega) (by unfold maxLen; omega) (Nat.le_refl _)
  rw [e]
  exact hk _ _ ⟨rfl, CRow.made rfl h1 h2⟩
theorem CRow.down {b b' : Nat} {w : World} {v : Value} {d : List (Nat × Nat)} (h : CRow b w v d) (hb : b' ≤ b) : CRow b' w v d := by
  obtain ⟨h1, h2⟩ := h
  refine ⟨h1, ?_⟩
  rcases h2 with h2 | ⟨g, cap, cur, e, k2, k3⟩
  · exact Or.inl h2
  · exact Or.inr ⟨g, cap, cur, e, Nat.le_trans hb k2, k3⟩
theorem CRow.far {b g g' n cap : Nat} {w w' : World} {d : List (Nat × Nat)} (h : CRow b w (.slice (some ⟨g, 0, none⟩) n cap) d) (hb : But g' w w') (hne : g ≠ g') : CRow b w' (.slice (some ⟨g, 0, none⟩) n cap) d := by
  have hlt := (World.ownsRow.lt h _ rfl).2
  obtain ⟨h1, h2⟩ := h
  refine ⟨h1, ?_⟩
  rcases h2 with h2 | ⟨g0, cap0, cur, e, k2, k3, k4⟩
  · exact Or.inl h2
  · simp only [Value.slice.injEq, Option.some.injEq, Addr.mk.injEq] at e
    obtain ⟨⟨rfl, _⟩, rfl, rfl⟩ := e
    refine Or.inr ⟨_, _, cur, rfl, k2, ?_, k4⟩
    rw [hb.block _ hlt (by simpa using hne)]; exact k3
/-- Slow at work: two rows of its own, and the units. -/
structure SI (w wr : World) (A T bp bm q n : Nat) (fu : Nat → Nat × Nat) (da dt : List (Nat × Nat)) : Prop where
  ne : A ≠ T
  loA : w.heap.size ≤ A
  loT : w.heap.size ≤ T
  ans : CRow w.heap.size wr (.slice (some ⟨A, 0, none⟩) n n) da
  ter : CRow w.heap.size wr (.slice (some ⟨T, 0, none⟩) n n) dt
  unA : UnitsAt A wr bp bm q n n fu
  unT : UnitsAt T wr bp bm q n n fu
  up : Up w wr
theorem SI.mono {w wr w' : World} {A T bp bm q n : Nat} {fu : Nat → Nat × Nat} {da dt : List (Nat × Nat)} (h : SI w wr A T bp bm q n fu da dt) (hu : Up wr w') : SI w w' A T bp bm q n fu da dt :=
  ⟨h.ne, h.loA, h.loT, h.ans.up hu, h.ter.up hu, h.unA.but (But.of_up hu), h.unT.but (But.of_up hu), h.up.trans hu⟩
theorem SI.putT {w wr : World} {A T bp bm q n : Nat} {fu : Nat → Nat × Nat} {da dt : List (Nat × Nat)} (h : SI w wr A T bp bm q n fu da dt) (k r s : Nat) : SI w (wr.setCell ⟨T, k, none⟩ (.complex .f64 r s)) A T bp bm q n fu da (dt.set k (r, s)) := by
  obtain ⟨h1, h2⟩ := h.ter.put k r s
  have hU : Units wr #[.pointer (some ⟨bp, 0, none⟩), .pointer (some ⟨bm, 0, none⟩)] n n fu := h.unA.units
  obtain ⟨a1, a2, a3, a4, a5, a6⟩ := h.unA
  obtain ⟨b1, b2, b3, _, _, _⟩ := h.unT
  have c1 := h2.cell b1 a4
  have c2 := h2.cell b2 a5
  have c3 := h2.rd b3 a6
  exact ⟨h.ne, h.loA, h.loT, h.ans.far h2 h.ne, h1, ⟨a1, a2, a3, c1, c2, c3⟩, ⟨b1, b2, b3, c1, c2, c3⟩, h2.up h.up h.loT⟩
theorem SI.putA {w wr : World} {A T bp bm q n : Nat} {fu : Nat → Nat × Nat} {da dt : List (Nat × Nat)} (h : SI w wr A T bp bm q n fu da dt) (k r s : Nat) : SI w (wr.setCell ⟨A, k, none⟩ (.complex .f64 r s)) A T bp bm q n fu (da.set k (r, s)) dt := by
  obtain ⟨h1, h2⟩ := h.ans.put k r s
  obtain ⟨a1, a2, a3, a4, a5, a6⟩ := h.unA
  obtain ⟨b1, b2, b3, _, _, _⟩ := h.unT
  have c1 := h2.cell a1 a4
  have c2 := h2.cell a2 a5
  have c3 := h2.rd a3 a6
  exact ⟨h.ne, h.loA, h.loT, h1, h.ter.far h2 (Ne.symm h.ne), ⟨a1, a2, a3, c1, c2, c3⟩, ⟨b1, b2, b3, c1, c2, c3⟩, h2.up h.up h.loA⟩
theorem SI.start {w w2 w3 w4 : World} {A T bp bm q n k : Nat} {fu : Nat → Nat × Nat} (hA : Made n A (w2.drewN k) w3) (hT : Made n T w3 w4) (hU : w2.cell? ⟨bp, 0, none⟩ = some (.slice (some ⟨q, 0, none⟩) n n) ∧ w2.cell? ⟨bm, 0, none⟩ = some (.int .i64 n) ∧ RD w2 q 0 n fu)
    (hB : w.heap.size ≤ bp ∧ w.heap.size ≤ bm ∧ w.heap.size ≤ q ∧ bp < w2.heap.size ∧ bm < w2.heap.size ∧ q < w2.heap.size) (hP : Up w w2) : SI w w4 A T bp bm q n fu (List.replicate n (0, 0)) (List.replicate n (0, 0)) ∧ SI w w4 T A bp bm q n fu (List.replicate n (0, 0)) (List.replicate n (0, 0)) := by
  obtain ⟨e1, r1, u1⟩ := hA
  obtain ⟨e2, r2, u2⟩ := hT
  have e1' : w2.heap.size = A := e1
  have s1 := hP.size
  have s2 : A < w3.heap.size := (World.ownsRow.lt r1 _ rfl).2
  obtain ⟨b1, b2, b3, b4, b5, b6⟩ := hB
  have u : Up w2 w4 := ((Up.drewN w2 k).trans u1).trans u2
  have c1 := cell_up hU.1 u
  have c2 := cell_up hU.2.1 u
  have c3 := hU.2.2.up u
  have rA : CRow w.heap.size w4 (.slice (some ⟨A, 0, none⟩) n n) (List.replicate n (0, 0)) := (r1.up u2).down (by omega)
  have rT : CRow w.heap.size w4 (.slice (some ⟨T, 0, none⟩) n n) (List.replicate n (0, 0)) := r2.down (by omega)
  have uA : UnitsAt A w4 bp bm q n n fu := ⟨by omega, by omega, by omega, c1, c2, c3⟩
  have uT : UnitsAt T w4 bp bm q n n fu := ⟨by omega, by omega, by omega, c1, c2, c3⟩
  exact ⟨⟨by omega, by omega, by omega, rA, rT, uA, uT, hP.trans u⟩, ⟨by omega, by omega, by omega, rT, rA, uT, uA, hP.trans u⟩⟩
/-- The product for j and k. -/
def slowM (back : Bool) (n : Nat) (F : Nat → C2) (j k : Nat) : C2 := mulC (F k) (unitF (wayOf back) n (j * k % n))
def slowAt (back : Bool) (n : Nat) (F : Nat → C2) (j : Nat) : C2 := (sumN (fun k => (slowM back n F j k).1) n, sumN (fun k => (slowM back n F j k).2) n)
def slowL (back : Bool) (n : Nat) (F : Nat → C2) : List C2 := if back then ((List.range n).map (slowAt back n F)).map (divF n) else (List.range n).map (slowAt back n F)
theorem sumN_congr {F G : Nat → Option Nat} : ∀ {n : Nat}, (∀ i, i < n → F i = G i) → sumN F n = sumN G n
  | 0, _ => rfl
  | 1, h => h 0 (by omega)
  | n + 2, h => by rw [sumN_step, sumN_step, sumN_congr (n := n + 1) (fun i hi => h i (by omega)), h (n + 1) (by omega)]
theorem slow_unit {w wr w' : World} {A T bp bm q n r : Nat} {fu : Nat → Nat × Nat} {da dt : List (Nat × Nat)} (HS : Hid (SI w wr A T bp bm q n fu da dt)) (hu : Up wr w') (hn : n ≤ 1024) (hr : r < n) :
    Calls Try.prog 31 #[.int .i64 r, .int .i64 n, .pointer (some ⟨bp, 0, none⟩), .pointer (some ⟨bm, 0, none⟩)] w' (DR w' (ab (fu r).1) (ab (fu r).2)) :=
  t31 (HS.out.unA.units.up hu) r n 1 r (by omega) (Nat.div_self (by omega)) (Nat.mul_one _) hr (by omega) (by omega)
theorem slow_sum {w wr w' : World} {A T bp bm q n : Nat} {fu : Nat → Nat × Nat} {da dt : List (Nat × Nat)} (HS : Hid (SI w wr A T bp bm q n fu da dt)) (hu : Up wr w') (hn : n ≤ 1024) :
    Calls Try.prog 25 #[.slice (some ⟨T, 0, none⟩) n n] w' (CR w' (sumR (fun i => dt[i]!) n) (sumI (fun i => dt[i]!) n)) :=
  t25 T 0 n n _ _ (fun j hj => by rw [Nat.zero_add]; exact (HS.out.ter.up hu).cell (by rw [HS.out.ter.len]; exact hj)) (by omega)
theorem slow_done {n : Nat} {G : Nat → C2} {da : List (Nat × Nat)} (hl : da.length = n) (h : ∀ i, i < n → ab2 da[i]! = G i) : da.map ab2 = (List.range n).map G := by
  refine List.ext_getElem? fun i => ?_
  by_cases hi : i < n
  · rw [ab2_at (by omega), h i hi, List.getElem?_map, List.getElem?_range hi]; rfl
  · rw [List.getElem?_eq_none (by simp; omega), List.getElem?_eq_none (by simp; omega)]
set_option maxHeartbeats 2000000 in
theorem t17 (lg lo n cap : Nat) (back : Bool) (f : Nat → Nat × Nat) (w : World) (hb : n ≤ 1024) (hl : lg < w.heap.size) (hR : RD w lg lo n f) :
    Calls Try.prog 17 #[.slice (some ⟨lg, lo, none⟩) n cap, .bool back] w (PL w (slowL back n fun i => ab2 (f i)) 0) := by
  have HRd : Hid (RD w lg lo n f) := hR
  have HL : Hid (lg < w.heap.size) := hl
  clear hR hl
  go_enter Try.func17, Try.ntmps17
  go_wp2_with (go_at_call 23; (with_reducible refine (t23 back n n _ (by omega) (by omega)).mono ?_); rintro e w2 ⟨bp, bm, q, fu, rfl, HU, HB, HP, HF⟩)
  go_region_held3 (fun _ => True) (exact True.intro) (((with_reducible refine upon_make (by omega) ?_); intro _ _ _))
  rename_i A wa HA T w1 HT _
  have HS : Hid (SI w w1 A T bp bm q n fu (List.replicate n (0, 0)) (List.replicate n (0, 0))) := (SI.start (k := 1) HA.out HT.out HU.out HB.out HP.out).1
  clear HA HT HU HB HP
  rotate_left
  rename_i T wa HT A w1 HA _
  have HS : Hid (SI w w1 A T bp bm q n fu (List.replicate n (0, 0)) (List.replicate n (0, 0))) := (SI.start (k := 1) HT.out HA.out HU.out HB.out HP.out).2
  clear HA HT HU HB HP
  all_goals
    go_wp2
    go_loopw [26] (fun vi wr => ∃ (j : Nat) (da dt : List (Nat × Nat)), j ≤ n ∧ vi = .int .i64 j ∧ Hid (SI w wr A T bp bm q n fu da dt) ∧ Hid (∀ i, i < j → ab2 da[i]! = slowAt back n (fun i => ab2 (f i)) i)) (fun vi _ => n - (intOf vi).toNat)
    case atStart => exact ⟨0, _, _, by omega, rfl, HS, fun i hi => by omega⟩
    case round =>
      clear HS
      obtain ⟨j, da, dt, hj, rfl, HS, HD⟩ := hrel
      by_cases hlt : j < n
      · have jz : (j : Int) < (n : Int) := by omega
        have j0 : (0 : Int) ≤ (j : Int) := by omega
        go_wp2
        go_loopw [31] (fun vi wr => ∃ (k : Nat) (dt : List (Nat × Nat)), k ≤ n ∧ vi = .int .i64 k ∧ Hid (SI w wr A T bp bm q n fu da dt) ∧ Hid (∀ i, i < k → ab2 dt[i]! = slowM back n (fun i => ab2 (f i)) j i)) (fun vi _ => n - (intOf vi).toNat)
        case atStart => exact ⟨0, _, by omega, rfl, HS, fun i hi => by omega⟩
        case round =>
          clear HS
          obtain ⟨k, dt, hk, rfl, HS, HT⟩ := hrel
          by_cases hlt2 : k < n
          · obtain ⟨x, y, HX, hx⟩ : ∃ x y, Hid (f k = (x, y)) ∧ wr.cell? ⟨lg, lo + k, none⟩ = some (.complex .f64 x y) := ⟨_, _, rfl, (HRd.out.up HS.out.up) k hlt2⟩
            have i1 : (wr.cell? ⟨T, k, none⟩).isSome = true := by rw [HS.out.ter.cell (by rw [HS.out.ter.len]; exact hlt2)]; rfl
            have f1 := HS.out.ter.frz k
            obtain ⟨p, hp⟩ : ∃ p, j * k = p := ⟨_, rfl⟩
            obtain ⟨r, hr⟩ : ∃ r, p % n = r := ⟨_, rfl⟩
            have hpb : p ≤ 1024 * 1024 := by rw [← hp]; exact Nat.mul_le_mul (by omega) (by omega)
            have hrn : r < n := by rw [← hr]; exact Nat.mod_lt _ (by omega)
            have HP : Hid (j * k % n = r) := by show _ = _; rw [hp, hr]
            have e1 : (j : Int) * (k : Int) = p := by rw [← hp]; exact (Int.natCast_mul _ _).symm
            have e2 : (p : Int).tmod (n : Int) = r := by rw [Int.tmod_eq_emod_of_nonneg (by omega), ← hr]; rfl
            have e3 : (p : Int) % (n : Int) = r := by rw [← hr]; rfl
            have e4 : IntKind.i64.wrap (p : Int) = p := i64_id (by omega)
            have e5 : IntKind.i64.wrap (r : Int) = r := i64_id (by omega)
            have n0 : ((n : Int) == 0) = false := by rw [beq_eq_false_iff_ne]; omega
            have n1 : ¬ (n : Int) = 0 := by omega
            have n2 : ¬ n = 0 := by omega
            clear hp hr
            have kz : (k : Int) < (n : Int) := by omega
            have k0 : (0 : Int) ≤ (k : Int) := by omega
            have p0 : (0 : Int) ≤ (p : Int) := by omega
            go_wp2_with (first
              | (go_at_call 31; (with_reducible refine (slow_unit HS (Up.refl _) hb hrn).mono ?_); rintro e w' ⟨r2, s2, kk, rfl, rfl, hr2, hs2⟩)
              | (go_at_call 24; (with_reducible refine (t24 _ _ _ _ _).mono ?_); rintro e w' ⟨r3, s3, kk3, rfl, rfl, hr3, hs3⟩))
            go_roundw
            case rel =>
              refine ⟨k + 1, _, by omega, by go_num, (HS.out.mono (Up.drewN _ (kk + kk3))).putT k r3 s3, fun i hi => ?_⟩
              rw [set_at _ _ _ _ (by rw [HS.out.ter.len]; exact hlt2)]
              by_cases e : i = k
              · subst e
                rw [if_pos rfl]
                have hU := HF.out r hrn
                simp only [slowM, HP.out, ← hU, HX.out]
                refine Prod.ext ?_ ?_
                · show ab r3 = _
                  rw [hr3.out, hr2.out, hs2.out]; rfl
                · show ab s3 = _
                  rw [hs3.out, hr2.out, hs2.out]; rfl
              · rw [if_neg e]; exact HT.out i (by omega)
            case measure => simp [intOf]; omega
          · obtain rfl : n = k := by omega
            go_wp2_with (go_at_call 25; (with_reducible refine (slow_sum HS (Up.refl _) hb).mono ?_); rintro e w3 ⟨r3, s3, rfl, hr3, hs3, hu3⟩; have HS3 : Hid (SI w w3 A T bp bm q n fu da dt) := HS.out.mono hu3; have i1 : (w3.cell? ⟨A, j, none⟩).isSome = true := (by rw [HS3.out.ans.cell (by rw [HS3.out.ans.len]; exact hlt)]; rfl); have f1 := HS3.out.ans.frz j; clear hu3 HS)
            go_roundw
            case rel =>
              refine ⟨j + 1, _, _, by omega, by go_num, HS3.out.putA j r3 s3, fun i hi => ?_⟩
              rw [set_at _ _ _ _ (by rw [HS3.out.ans.len]; exact hlt)]
              by_cases e : i = j
              · subst e
                rw [if_pos rfl]
                refine Prod.ext ?_ ?_
                · show ab r3 = _
                  rw [hr3.out]
                  exact sumN_congr fun i hi => congrArg Prod.fst (HT.out i hi)
                · show ab s3 = _
                  rw [hs3.out]
                  exact sumN_congr fun i hi => congrArg Prod.snd (HT.out i hi)
              · rw [if_neg e]; exact HD.out i (by omega)
            case measure => simp [intOf]; omega
      · obtain rfl : n = j := by omega
        have hL := slow_done HS.out.ans.len HD.out
        have HL2 : Hid (da.map ab2 = (List.range n).map (slowAt back n fun i => ab2 (f i))) := hL
        clear hL HD
        cases back
        · go_wp2
          go_ret2
          exact ⟨_, da, rfl, HS.out.ans, HS.out.up, HL2.out⟩
        · go_wp2_with (go_at_call 26; (with_reducible refine (t26 HS.out.ans HS.out.ans.len (by omega)).mono ?_); rintro e w4 ⟨d4, rfl, HC4, HB4, HE4⟩)
          go_ret2
          exact ⟨_, d4, rfl, HC4.out, HB4.out.up HS.out.up HS.out.loA, by show _ = _; rw [HE4.out, HL2.out]; rfl⟩
end Go.Proofs.Ytablmkpfbhifnab
