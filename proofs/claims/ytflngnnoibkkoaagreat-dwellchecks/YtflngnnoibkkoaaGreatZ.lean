/- Slow. -/
import Derived.Test.YtflngnnoibkkoaaGreatS
import Derived.Deep.RegionWith
namespace Go.Proofs.YtflngnnoibkkoaaGreat
open Go.ChangeShapes Go.WideShapes Go.ChangeAt Go.RowKit Go.Fl Ieee
set_option maxRecDepth 200000
set_option maxHeartbeats 8000000
attribute [local go_sem] run_store_float run_store_c isSome_set call34 call33 run_neg fold_eq fold_ne fold_lt fold_gt abs_eq

/-- What a make of a row of numbers leaves. -/
def Made (n g : Nat) (w w' : World) : Prop := w.heap.size = g ∧ CRow g w' (.slice (some ⟨g, 0, none⟩) n n) (List.replicate n (0, 0)) ∧ Up w w'
theorem upon_make {o : Oper} {a : Act} {next : Act → World → Prop} {Q : Exit → Act → World → Prop} {n : Nat} {w : World} {F : Value → World → Result Next} (hn : n ≤ 100000)
    (hk : ∀ g w', Hid (Made n g w w') → o.upon Tryz.prog a next Q (F (.slice (some ⟨g, 0, none⟩) n n) w')) :
    o.upon Tryz.prog a next Q (((Instr.makeSlice 34 (.int .i64 n) (.int .i64 n)).run Tryz.prog w).andThen F) := by
  obtain ⟨i0, hi, hz0, hz1, hz2⟩ := info_parts info41
  obtain ⟨w', e, h1, h2⟩ := run_make_full (P := Tryz.prog) w w.heap.size 34 65 i0 (.complex .f64 0 0) 1 Tryz.underlying34 hi hz0 hz1 .i64 .i64 n (by rw [hz2]; omega) (by unfold maxLen; omega) (Nat.le_refl _)
  rw [e]
  exact hk _ _ ⟨rfl, CRow.made rfl h1 h2⟩
theorem CRow.down {b b' : Nat} {w : World} {v : Value} {d : List (Nat × Nat)} (h : CRow b w v d) (hb : b' ≤ b) : CRow b' w v d := by
  obtain ⟨h1, h2⟩ := h
  refine ⟨h1, ?_⟩
  rcases h2 with h2 | ⟨g, cap, cur, e, k2, k3⟩
  · exact Or.inl h2
  · exact Or.inr ⟨g, cap, cur, e, Nat.le_trans hb k2, k3⟩
theorem CRow.far {b g g' n cap : Nat} {w w' : World} {d : List (Nat × Nat)} (h : CRow b w (.slice (some ⟨g, 0, none⟩) n cap) d) (hb : But g' w w') (hne : g ≠ g') : CRow b w' (.slice (some ⟨g, 0, none⟩) n cap) d := by
  have hlt := (World.ownsRow.lt h _ rfl).2
  obtain ⟨h1, h2⟩ := h
  refine ⟨h1, ?_⟩
  rcases h2 with h2 | ⟨g0, cap0, cur, e, k2, k3, k4⟩
  · exact Or.inl h2
  · simp only [Value.slice.injEq, Option.some.injEq, Addr.mk.injEq] at e
    obtain ⟨⟨rfl, _⟩, rfl, rfl⟩ := e
    refine Or.inr ⟨_, _, cur, rfl, k2, ?_, k4⟩
    rw [hb.block _ hlt (by simpa using hne)]; exact k3
/-- Slow at work: two rows of its own, and the units. -/
structure SI (w wr : World) (A T bp bm q n : Nat) (fu : Nat → Nat × Nat) (da dt : List (Nat × Nat)) : Prop where
  ne : A ≠ T
  loA : w.heap.size ≤ A
  loT : w.heap.size ≤ T
  ans : CRow w.heap.size wr (.slice (some ⟨A, 0, none⟩) n n) da
  ter : CRow w.heap.size wr (.slice (some ⟨T, 0, none⟩) n n) dt
  unA : UnitsAt A wr bp bm q n n fu
  unT : UnitsAt T wr bp bm q n n fu
  up : Up w wr
theorem SI.mono {w wr w' : World} {A T bp bm q n : Nat} {fu : Nat → Nat × Nat} {da dt : List (Nat × Nat)} (h : SI w wr A T bp bm q n fu da dt) (hu : Up wr w') : SI w w' A T bp bm q n fu da dt :=
  ⟨h.ne, h.loA, h.loT, h.ans.up hu, h.ter.up hu, h.unA.but (But.of_up hu), h.unT.but (But.of_up hu), h.up.trans hu⟩
theorem SI.putT {w wr : World} {A T bp bm q n : Nat} {fu : Nat → Nat × Nat} {da dt : List (Nat × Nat)} (h : SI w wr A T bp bm q n fu da dt) (k r s : Nat) : SI w (wr.setCell ⟨T, k, none⟩ (.complex .f64 r s)) A T bp bm q n fu da (dt.set k (r, s)) := by
  obtain ⟨h1, h2⟩ := h.ter.put k r s
  have hU : Units wr #[.pointer (some ⟨bp, 0, none⟩), .pointer (some ⟨bm, 0, none⟩)] n n fu := h.unA.units
  obtain ⟨a1, a2, a3, a4, a5, a6⟩ := h.unA
  obtain ⟨b1, b2, b3, _, _, _⟩ := h.unT
  have c1 := h2.cell b1 a4
  have c2 := h2.cell b2 a5
  have c3 := h2.rd b3 a6
  exact ⟨h.ne, h.loA, h.loT, h.ans.far h2 h.ne, h1, ⟨a1, a2, a3, c1, c2, c3⟩, ⟨b1, b2, b3, c1, c2, c3⟩, h2.up h.up h.loT⟩
theorem SI.putA {w wr : World} {A T bp bm q n : Nat} {fu : Nat → Nat × Nat} {da dt : List (Nat × Nat)} (h : SI w wr A T bp bm q n fu da dt) (k r s : Nat) : SI w (wr.setCell ⟨A, k, none⟩ (.complex .f64 r s)) A T bp bm q n fu (da.set k (r, s)) dt := by
  obtain ⟨h1, h2⟩ := h.ans.put k r s
  obtain ⟨a1, a2, a3, a4, a5, a6⟩ := h.unA
  obtain ⟨b1, b2, b3, _, _, _⟩ := h.unT
  have c1 := h2.cell a1 a4
  have c2 := h2.cell a2 a5
  have c3 := h2.rd a3 a6
  exact ⟨h.ne, h.loA, h.loT, h1, h.ter.far h2 (Ne.symm h.ne), ⟨a1, a2, a3, c1, c2, c3⟩, ⟨b1, b2, b3, c1, c2, c3⟩, h2.up h.up h.loA⟩
theorem SI.start {w w2 w3 w4 : World} {A T bp bm q n k : Nat} {fu : Nat → Nat × Nat} (hA : Made n A (w2.drewN k) w3) (hT : Made n T w3 w4) (hU : w2.cell? ⟨bp, 0, none⟩ = some (.slice (some ⟨q, 0, none⟩) n n) ∧ w2.cell? ⟨bm, 0, none⟩ = some (.int .i64 n) ∧ RD w2 q 0 n fu)
    (hB : w.heap.size ≤ bp ∧ w.heap.size ≤ bm ∧ w.heap.size ≤ q ∧ bp < w2.heap.size ∧ bm < w2.heap.size ∧ q < w2.heap.size) (hP : Up w w2) : SI w w4 A T bp bm q n fu (List.replicate n (0, 0)) (List.replicate n (0, 0)) ∧ SI w w4 T A bp bm q n fu (List.replicate n (0, 0)) (List.replicate n (0, 0)) := by
  obtain ⟨e1, r1, u1⟩ := hA
  obtain ⟨e2, r2, u2⟩ := hT
  have e1' : w2.heap.size = A := e1
  have s1 := hP.size
  have s2 : A < w3.heap.size := (World.ownsRow.lt r1 _ rfl).2
  obtain ⟨b1, b2, b3, b4, b5, b6⟩ := hB
  have u : Up w2 w4 := ((Up.drewN w2 k).trans u1).trans u2
  have c1 := cell_up hU.1 u
  have c2 := cell_up hU.2.1 u
  have c3 := hU.2.2.up u
  have rA : CRow w.heap.size w4 (.slice (some ⟨A, 0, none⟩) n n) (List.replicate n (0, 0)) := (r1.up u2).down (by omega)
  have rT : CRow w.heap.size w4 (.slice (some ⟨T, 0, none⟩) n n) (List.replicate n (0, 0)) := r2.down (by omega)
  have uA : UnitsAt A w4 bp bm q n n fu := ⟨by omega, by omega, by omega, c1, c2, c3⟩
  have uT : UnitsAt T w4 bp bm q n n fu := ⟨by omega, by omega, by omega, c1, c2, c3⟩
  exact ⟨⟨by omega, by omega, by omega, rA, rT, uA, uT, hP.trans u⟩, ⟨by omega, by omega, by omega, rT, rA, uT, uA, hP.trans u⟩⟩
/-- The product for j and k. -/
def slowM (back : Bool) (n : Nat) (F : Nat → C2) (j k : Nat) : C2 := mulC (F k) (unitF (wayOf back) n (j * k % n))
def slowAt (back : Bool) (n : Nat) (F : Nat → C2) (j : Nat) : C2 := (sumN (fun k => (slowM back n F j k).1) n, sumN (fun k => (slowM back n F j k).2) n)
def slowL (back : Bool) (n : Nat) (F : Nat → C2) : List C2 := if back then ((List.range n).map (slowAt back n F)).map (divF n) else (List.range n).map (slowAt back n F)
theorem sumN_congr {F G : Nat → Option Nat} : ∀ {n : Nat}, (∀ i, i < n → F i = G i) → sumN F n = sumN G n
  | 0, _ => rfl
  | 1, h => h 0 (by omega)
  | n + 2, h => by rw [sumN_step, sumN_step, sumN_congr (n := n + 1) (fun i hi => h i (by omega)), h (n + 1) (by omega)]
theorem slow_unit {w wr w' : World} {A T bp bm q n r : Nat} {fu : Nat → Nat × Nat} {da dt : List (Nat × Nat)} (HS : Hid (SI w wr A T bp bm q n fu da dt)) (hu : Up wr w') (hn : n ≤ 1024) (hr : r < n) :
    Calls Tryz.prog 164 #[.int .i64 r, .int .i64 n, .pointer (some ⟨bp, 0, none⟩), .pointer (some ⟨bm, 0, none⟩)] w' (DR w' (ab (fu r).1) (ab (fu r).2)) :=
  t164 (HS.out.unA.units.up hu) r n 1 r (by omega) (Nat.div_self (by omega)) (Nat.mul_one _) hr (by omega) (by omega)
theorem slow_sum {w wr w' : World} {A T bp bm q n : Nat} {fu : Nat → Nat × Nat} {da dt : List (Nat × Nat)} (HS : Hid (SI w wr A T bp bm q n fu da dt)) (hu : Up wr w') (hn : n ≤ 1024) :
    Calls Tryz.prog 138 #[.slice (some ⟨T, 0, none⟩) n n] w' (CR w' (sumR (fun i => dt[i]!) n) (sumI (fun i => dt[i]!) n)) :=
  t138 T 0 n n _ _ (fun j hj => by rw [Nat.zero_add]; exact (HS.out.ter.up hu).cell (by rw [HS.out.ter.len]; exact hj)) (by omega)
theorem slow_done {n : Nat} {G : Nat → C2} {da : List (Nat × Nat)} (hl : da.length = n) (h : ∀ i, i < n → ab2 da[i]! = G i) : da.map ab2 = (List.range n).map G := by
  refine List.ext_getElem? fun i => ?_
  by_cases hi : i < n
  · rw [ab2_at (by omega), h i hi, List.getElem?_map, List.getElem?_range hi]; rfl
  · rw [List.getElem?_eq_none (by simp; omega), List.getElem?_eq_none (by simp; omega)]
set_option maxHeartbeats 2000000 in
theorem t109 (lg lo n cap : Nat) (back : Bool) (f : Nat → Nat × Nat) (w : World) (hb : n ≤ 1024) (hl : lg < w.heap.size) (hR : RD w lg lo n f) :
    Calls Tryz.prog 109 #[.slice (some ⟨lg, lo, none⟩) n cap, .bool back] w (PL w (slowL back n fun i => ab2 (f i)) 0) := by
  have HRd : Hid (RD w lg lo n f) := hR
  have HL : Hid (lg < w.heap.size) := hl
  clear hR hl
  go_enter Tryz.func109, Tryz.ntmps109
  go_wp2_with (go_at_call 137; (with_reducible refine (t137 back n n _ (by omega) (by omega)).mono ?_); rintro e w2 ⟨bp, bm, q, fu, rfl, HU, HB, HP, HF⟩)
  go_region_held3 (fun _ => True) (exact True.intro) (((with_reducible refine upon_make (by omega) ?_); intro _ _ _))
  rename_i A wa HA T w1 HT _
  have HS : Hid (SI w w1 A T bp bm q n fu (List.replicate n (0, 0)) (List.replicate n (0, 0))) := (SI.start (k := 1) HA.out HT.out HU.out HB.out HP.out).1
  clear HA HT HU HB HP
  rotate_left
  rename_i T wa HT A w1 HA _
  have HS : Hid (SI w w1 A T bp bm q n fu (List.replicate n (0, 0)) (List.replicate n (0, 0))) := (SI.start (k := 1) HT.out HA.out HU.out HB.out HP.out).2
  clear HA HT HU HB HP
  all_goals
    go_wp2
    go_loopw [26] (fun vi wr => ∃ (j : Nat) (da dt : List (Nat × Nat)), j ≤ n ∧ vi = .int .i64 j ∧ Hid (SI w wr A T bp bm q n fu da dt) ∧ Hid (∀ i, i < j → ab2 da[i]! = slowAt back n (fun i => ab2 (f i)) i)) (fun vi _ => n - (intOf vi).toNat)
    case atStart => exact ⟨0, _, _, by omega, rfl, HS, fun i hi => by omega⟩
    case round =>
      clear HS
      obtain ⟨j, da, dt, hj, rfl, HS, HD⟩ := hrel
      by_cases hlt : j < n
      · have jz : (j : Int) < (n : Int) := by omega
        have j0 : (0 : Int) ≤ (j : Int) := by omega
        go_wp2
        go_loopw [31] (fun vi wr => ∃ (k : Nat) (dt : List (Nat × Nat)), k ≤ n ∧ vi = .int .i64 k ∧ Hid (SI w wr A T bp bm q n fu da dt) ∧ Hid (∀ i, i < k → ab2 dt[i]! = slowM back n (fun i => ab2 (f i)) j i)) (fun vi _ => n - (intOf vi).toNat)
        case atStart => exact ⟨0, _, by omega, rfl, HS, fun i hi => by omega⟩
        case round =>
          clear HS
          obtain ⟨k, dt, hk, rfl, HS, HT⟩ := hrel
          by_cases hlt2 : k < n
          · obtain ⟨x, y, HX, hx⟩ : ∃ x y, Hid (f k = (x, y)) ∧ wr.cell? ⟨lg, lo + k, none⟩ = some (.complex .f64 x y) := ⟨_, _, rfl, (HRd.out.up HS.out.up) k hlt2⟩
            have i1 : (wr.cell? ⟨T, k, none⟩).isSome = true := by rw [HS.out.ter.cell (by rw [HS.out.ter.len]; exact hlt2)]; rfl
            have f1 := HS.out.ter.frz k
            obtain ⟨p, hp⟩ : ∃ p, j * k = p := ⟨_, rfl⟩
            obtain ⟨r, hr⟩ : ∃ r, p % n = r := ⟨_, rfl⟩
            have hpb : p ≤ 1024 * 1024 := by rw [← hp]; exact Nat.mul_le_mul (by omega) (by omega)
            have hrn : r < n := by rw [← hr]; exact Nat.mod_lt _ (by omega)
            have HP : Hid (j * k % n = r) := by show _ = _; rw [hp, hr]
            have e1 : (j : Int) * (k : Int) = p := by rw [← hp]; exact (Int.natCast_mul _ _).symm
            have e2 : (p : Int).tmod (n : Int) = r := by rw [Int.tmod_eq_emod_of_nonneg (by omega), ← hr]; rfl
            have e3 : (p : Int) % (n : Int) = r := by rw [← hr]; rfl
            have e4 : IntKind.i64.wrap (p : Int) = p := i64_id (by omega)
            have e5 : IntKind.i64.wrap (r : Int) = r := i64_id (by omega)
            have n0 : ((n : Int) == 0) = false := by rw [beq_eq_false_iff_ne]; omega
            have n1 : ¬ (n : Int) = 0 := by omega
            have n2 : ¬ n = 0 := by omega
            clear hp hr
            have kz : (k : Int) < (n : Int) := by omega
            have k0 : (0 : Int) ≤ (k : Int) := by omega
            have p0 : (0 : Int) ≤ (p : Int) := by omega
            go_wp2_with (first
              | (go_at_call 164; (with_reducible refine (slow_unit HS (Up.refl _) hb hrn).mono ?_); rintro e w' ⟨r2, s2, kk, rfl, rfl, hr2, hs2⟩)
              | (go_at_call 93; (with_reducible refine (t93 _ _ _ _ _).mono ?_); rintro e w' ⟨r3, s3, kk3, rfl, rfl, hr3, hs3⟩))
            go_roundw
            case rel =>
              refine ⟨k + 1, _, by omega, by go_num, (HS.out.mono (Up.drewN _ (kk + kk3))).putT k r3 s3, fun i hi => ?_⟩
              rw [set_at _ _ _ _ (by rw [HS.out.ter.len]; exact hlt2)]
              by_cases e : i = k
              · subst e
                rw [if_pos rfl]
                have hU := HF.out r hrn
                simp only [slowM, HP.out, ← hU, HX.out]
                refine Prod.ext ?_ ?_
                · show ab r3 = _
                  rw [hr3.out, hr2.out, hs2.out]; rfl
                · show ab s3 = _
                  rw [hs3.out, hr2.out, hs2.out]; rfl
              · rw [if_neg e]; exact HT.out i (by omega)
            case measure => simp [intOf]; omega
          · obtain rfl : n = k := by omega
            go_wp2_with (go_at_call 138; (with_reducible refine (slow_sum HS (Up.refl _) hb).mono ?_); rintro e w3 ⟨r3, s3, rfl, hr3, hs3, hu3⟩; have HS3 : Hid (SI w w3 A T bp bm q n fu da dt) := HS.out.mono hu3; have i1 : (w3.cell? ⟨A, j, none⟩).isSome = true := (by rw [HS3.out.ans.cell (by rw [HS3.out.ans.len]; exact hlt)]; rfl); have f1 := HS3.out.ans.frz j; clear hu3 HS)
            go_roundw
            case rel =>
              refine ⟨j + 1, _, _, by omega, by go_num, HS3.out.putA j r3 s3, fun i hi => ?_⟩
              rw [set_at _ _ _ _ (by rw [HS3.out.ans.len]; exact hlt)]
              by_cases e : i = j
              · subst e
                rw [if_pos rfl]
                refine Prod.ext ?_ ?_
                · show ab r3 = _
                  rw [hr3.out]
                  exact sumN_congr fun i hi => congrArg Prod.fst (HT.out i hi)
                · show ab s3 = _
                  rw [hs3.out]
                  exact sumN_congr fun i hi => congrArg Prod.snd (HT.out i hi)
              · rw [if_neg e]; exact HD.out i (by omega)
            case measure => simp [intOf]; omega
      · obtain rfl : n = j := by omega
        have hL := slow_done HS.out.ans.len HD.out
        have HL2 : Hid (da.map ab2 = (List.range n).map (slowAt back n fun i => ab2 (f i))) := hL
        clear hL HD
        cases back
        · go_wp2
          go_ret2
          exact ⟨_, da, rfl, HS.out.ans, HS.out.up, HL2.out⟩
        · go_wp2_with (go_at_call 139; (with_reducible refine (t139 HS.out.ans HS.out.ans.len (by omega)).mono ?_); rintro e w4 ⟨d4, rfl, HC4, HB4, HE4⟩)
          go_ret2
          exact ⟨_, d4, rfl, HC4.out, HB4.out.up HS.out.up HS.out.loA, by show _ = _; rw [HE4.out, HL2.out]; rfl⟩
end Go.Proofs.YtflngnnoibkkoaaGreat
/- Middle. -/
namespace Go.Proofs.YtflngnnoibkkoaaGreat
open Go.ChangeShapes Go.WideShapes Go.ChangeAt Go.RowKit Go.Fl Ieee
set_option maxRecDepth 200000
set_option maxHeartbeats 8000000
attribute [local go_sem] run_store_float run_store_c isSome_set call34 call33 run_neg fold_eq fold_ne fold_lt fold_gt abs_eq

theorem CRow.heap {b g n : Nat} {w : World} {d : List (Nat × Nat)} (h : CRow b w (.slice (some ⟨g, 0, none⟩) n n) d) : w.heap[g]? = some (.cells (d.map ce).toArray 65 (0, 0)) := by
  have hl := h.len
  obtain ⟨h1, h2⟩ := h
  rcases h2 with ⟨h2, _⟩ | ⟨g0, cap0, cur, e, k2, k3, k4, k5, k6, k7⟩
  · cases h2
  · simp only [Value.slice.injEq, Option.some.injEq, Addr.mk.injEq] at e
    obtain ⟨⟨rfl, _⟩, e2, rfl⟩ := e
    rw [k3]
    congr 2
    apply Array.ext'
    rw [← k7, List.take_of_length_le]
    simp; omega
theorem CRow.of_heap {b g n : Nat} {w : World} {d : List (Nat × Nat)} (hl : d.length = n) (hb : b ≤ g) (hn : n ≤ 100000) (h : w.heap[g]? = some (.cells (d.map ce).toArray 65 (0, 0))) : CRow b w (.slice (some ⟨g, 0, none⟩) n n) d := by
  subst hl
  refine ⟨by simp, Or.inr ⟨g, _, _, rfl, hb, h, Nat.le_refl _, by unfold maxLen; omega, by simp, ?_⟩⟩
  rw [List.take_of_length_le (by simp)]
/-- What a slice's stretch holds. -/
def cut (f : Nat → Nat × Nat) (o k : Nat) : List (Nat × Nat) := (List.range k).map fun i => f (o + i)
theorem cut_len (f : Nat → Nat × Nat) (o k : Nat) : (cut f o k).length = k := by simp [cut]
theorem sz26 : (Tryz.prog.info? 65).map (·.size) = some 1 := by kernel_rfl
theorem ce_one {l : List (Nat × Nat)} : ∀ v ∈ l.map ce, v.oneCell' = true := by
  intro v hv
  obtain ⟨p, _, rfl⟩ := List.mem_map.1 hv
  rfl
theorem src_ok {w : World} {lg lo n o k : Nat} {f : Nat → Nat × Nat} (hR : RD w lg lo n f) (hk : o + k ≤ n) : ∀ j v, ((cut f o k).map ce)[j]? = some v → w.cell? ((⟨lg, lo + o, none⟩ : Addr).add j) = some v := by
  intro j v hv
  unfold cut at hv
  have hj : j < k := by
    have := List.getElem?_eq_some_iff.1 hv
    obtain ⟨h, _⟩ := this
    simpa using h
  rw [List.getElem?_map, List.getElem?_map, List.getElem?_range hj] at hv
  simp only [Option.map_some, Option.some.injEq] at hv
  rw [← hv]
  have := hR (o + j) (by omega)
  rw [← Nat.add_assoc] at this
  by_cases e : j = 0
  · subst e; exact this
  · simpa [Addr.add, e] using this
theorem upon_copy {o : Oper} {a : Act} {next : Act → World → Prop} {Q : Exit → Act → World → Prop} {w : World} {F : Value → World → Result Next} {g off dLen dCap lg lo' lo n s sLen sCap : Nat} {cur : List (Nat × Nat)} {f : Nat → Nat × Nat}
    (hg : Hid (w.heap[g]? = some (.cells (cur.map ce).toArray 65 (0, 0)))) (hR : Hid (RD w lg lo n f)) (ho : lo' = lo + s) (hk : s + sLen ≤ n) (hle : sLen ≤ dLen) (hfit : off + sLen ≤ cur.length)
    (h : ∀ w', Hid (w'.heap[g]? = some (.cells ((splice cur off (cut f s sLen)).map ce).toArray 65 (0, 0))) → Hid (But g w w') → o.upon Tryz.prog a next Q (F (.int .i64 sLen) w')) :
    o.upon Tryz.prog a next Q (((Builtin.copy_ #[34, 34] 3 #[.slice (some ⟨g, off, none⟩) dLen dCap, .slice (some ⟨lg, lo', none⟩) sLen sCap]).run Tryz.prog w).andThen F) := by
  subst ho
  have hl : ((cut f s sLen).map ce).length = sLen := by rw [List.length_map, cut_len]
  have e := run_copy_row (P := Tryz.prog) w 34 34 3 65 g off dLen dCap ⟨lg, lo + s, none⟩ sLen sCap (cur.map ce).toArray 65 ((cut f s sLen).map ce) Tryz.underlying34 sz26 hg.out (by rw [hl]; exact (Nat.min_eq_left hle).symm) (src_ok hR.out hk) (by rw [hl]; simpa using hfit) ce_one
  rw [e, hl]
  refine h _ ?_ ⟨rfl, rfl, rfl, by simp [World.setRow], fun k _ hne => setRow_other _ _ _ _ (by simpa using hne)⟩
  show _ = _
  rw [setRow_heap _ _ _ _ _ _ hg.out]
  congr 3
  simp [splice, cut_len]
end Go.Proofs.YtflngnnoibkkoaaGreat
/- The product of two rows. -/
namespace Go.Proofs.YtflngnnoibkkoaaGreat
open Go.ChangeShapes Go.WideShapes Go.ChangeAt Go.RowKit Go.Fl Ieee
set_option maxRecDepth 200000
set_option maxHeartbeats 8000000
attribute [local go_sem] run_store_float run_store_complex call34 call33 run_neg fold_eq fold_ne fold_lt fold_gt abs_eq

def dotR (f g : Nat → Nat × Nat) (i : Nat) : Option Nat := mulR (ab (f i).1) (ab (f i).2) (ab (g i).1) ((ab (g i).2).map neg)
def dotI (f g : Nat → Nat × Nat) (i : Nat) : Option Nat := mulI (ab (f i).1) (ab (f i).2) (ab (g i).1) ((ab (g i).2).map neg)
set_option maxHeartbeats 2000000 in
theorem t193 (b1 b2 g1 o1 n1 c1 g2 o2 n2 c2 i : Nat) (f g : Nat → Nat × Nat) (w : World) (hb1 : w.cell? ⟨b1, 0, none⟩ = some (.slice (some ⟨g1, o1, none⟩) n1 c1)) (hb2 : w.cell? ⟨b2, 0, none⟩ = some (.slice (some ⟨g2, o2, none⟩) n2 c2)) (hR1 : RD w g1 o1 n1 f) (hR2 : RD w g2 o2 n2 g) (h1 : i < n1) (h2 : i < n2) :
    Calls Tryz.prog 193 #[.int .i64 i, .pointer (some ⟨b1, 0, none⟩), .pointer (some ⟨b2, 0, none⟩)] w (DR w (dotR f g i) (dotI f g i)) := by
  obtain ⟨x, y, hx, hcx⟩ : ∃ x y, f i = (x, y) ∧ w.cell? ⟨g1, o1 + i, none⟩ = some (.complex .f64 x y) := ⟨_, _, rfl, hR1 i h1⟩
  obtain ⟨u, v, hu, hcu⟩ : ∃ x y, g i = (x, y) ∧ w.cell? ⟨g2, o2 + i, none⟩ = some (.complex .f64 x y) := ⟨_, _, rfl, hR2 i h2⟩
  unfold dotR dotI
  rw [hx, hu]
  simp only [← ab_neg]
  clear hx hu hR1 hR2
  have hi1 : (i : Int) < (n1 : Int) := by omega
  have hi2 : (i : Int) < (n2 : Int) := by omega
  have hi0 : (0 : Int) ≤ (i : Int) := Int.natCast_nonneg _
  go_enter Tryz.func193, Tryz.ntmps193
  go_wp2_with fail
  go_region_held3 (fun w' => w'.cell? ⟨b1, 0, none⟩ = some (.slice (some ⟨g1, o1, none⟩) n1 c1) ∧ w'.cell? ⟨b2, 0, none⟩ = some (.slice (some ⟨g2, o2, none⟩) n2 c2) ∧ w'.cell? ⟨g1, o1 + i, none⟩ = some (.complex .f64 x y) ∧ w'.cell? ⟨g2, o2 + i, none⟩ = some (.complex .f64 u v)) (go_keep)
    (first
    | (go_at_call 84; (with_reducible refine (t84 _ _ _).mono ?_); rintro e w' ⟨rfl, rfl⟩)
    | (go_at_call 93; (with_reducible refine (t93 _ _ _ _ _).mono ?_); rintro e w' ⟨r, s, k, rfl, rfl, hr, hs⟩))
  all_goals (try go_wp2)
  all_goals (go_ret; exact DR.mkN hr.out hs.out)
theorem eg193 (args : Array Value) (w : World) : (callFunc 193 args).run Tryz.prog w = .ok (.enter 193 args) w := enters Tryz.func193 (by kernel_rfl) (by kernel_rfl) _ _
theorem two_boxes (w : World) (u v : Value) (s t : TypeId) (k : Nat) : (((w.alloc (.cells #[u] s)).alloc (.cells #[v] t)).drewN k).cell? ⟨w.heap.size, 0, none⟩ = some u ∧ (((w.alloc (.cells #[u] s)).alloc (.cells #[v] t)).drewN k).cell? ⟨w.heap.size + 1, 0, none⟩ = some v := by
  constructor
  · have h : ((w.alloc (.cells #[u] s)).alloc (.cells #[v] t)).heap[w.heap.size]? = some (.cells #[u] s) := by
      rw [Below.heap_alloc (w.alloc (.cells #[u] s)) _ w.heap.size (by simp)]; exact heap_alloc_last _ _
    show ((w.alloc (.cells #[u] s)).alloc (.cells #[v] t)).cell? _ = _
    rw [cell_of_row _ _ _ _ _ _ h]; rfl
  · have h : ((w.alloc (.cells #[u] s)).alloc (.cells #[v] t)).heap[w.heap.size + 1]? = some (.cells #[v] t) := by
      have := heap_alloc_last (w.alloc (.cells #[u] s)) (.cells #[v] t)
      simpa using this
    show ((w.alloc (.cells #[u] s)).alloc (.cells #[v] t)).cell? _ = _
    rw [cell_of_row _ _ _ _ _ _ h]; rfl
theorem up2 (w : World) (o1 o2 : Obj) (k : Nat) : Up w (((w.alloc o1).alloc o2).drewN k) := ((Up.alloc _ _).trans (Up.alloc _ _)).trans (Up.drewN _ _)
theorem dot56 {w : World} {g1 o1 n1 c1 g2 o2 n2 c2 N : Nat} {f g : Nat → Nat × Nat} (h1 : N ≤ n1) (h2 : N ≤ n2) (HR1 : Hid (RD w g1 o1 n1 f)) (HR2 : Hid (RD w g2 o2 n2 g)) (hn : N < 4611686018427387904) :
    Calls Tryz.prog 165 #[.int .i64 N, .func (.func 193) #[] #[.pointer (some ⟨w.heap.size, 0, none⟩), .pointer (some ⟨w.heap.size + 1, 0, none⟩)]] ((w.alloc (.cells #[.slice (some ⟨g1, o1, none⟩) n1 c1] 34)).alloc (.cells #[.slice (some ⟨g2, o2, none⟩) n2 c2] 34))
      (DR ((w.alloc (.cells #[.slice (some ⟨g1, o1, none⟩) n1 c1] 34)).alloc (.cells #[.slice (some ⟨g2, o2, none⟩) n2 c2] 34)) (sumN (dotR f g) N) (sumN (dotI f g) N)) := by
  refine t165 193 N _ (dotR f g) (dotI f g) _ hn eg193 fun i hi k => ?_
  obtain ⟨k1, k2⟩ := two_boxes w (.slice (some ⟨g1, o1, none⟩) n1 c1) (.slice (some ⟨g2, o2, none⟩) n2 c2) 34 34 k
  exact t193 w.heap.size (w.heap.size + 1) g1 o1 n1 c1 g2 o2 n2 c2 i f g _ k1 k2 (HR1.out.up (up2 _ _ _ _)) (HR2.out.up (up2 _ _ _ _)) (by omega) (by omega)
theorem t163 (g1 o1 n1 c1 g2 o2 n2 c2 N : Nat) (f g : Nat → Nat × Nat) (w : World) (h : N = n1 ∧ n1 ≤ n2 ∨ N = n2 ∧ n2 < n1) (hR1 : RD w g1 o1 n1 f) (hR2 : RD w g2 o2 n2 g) (hn : n1 + n2 < 4611686018427387904) :
    Calls Tryz.prog 163 #[.slice (some ⟨g1, o1, none⟩) n1 c1, .slice (some ⟨g2, o2, none⟩) n2 c2] w (CR w (sumN (dotR f g) N) (sumN (dotI f g) N)) := by
  have HR1 : Hid (RD w g1 o1 n1 f) := hR1
  have HR2 : Hid (RD w g2 o2 n2 g) := hR2
  obtain ⟨k1, k2⟩ := two_boxes w (.slice (some ⟨g1, o1, none⟩) n1 c1) (.slice (some ⟨g2, o2, none⟩) n2 c2) 34 34 0
  have k1' : ((w.alloc (.cells #[.slice (some ⟨g1, o1, none⟩) n1 c1] 34)).alloc (.cells #[.slice (some ⟨g2, o2, none⟩) n2 c2] 34)).cell? ⟨w.heap.size, 0, none⟩ = some (.slice (some ⟨g1, o1, none⟩) n1 c1) := k1
  have k2' : ((w.alloc (.cells #[.slice (some ⟨g1, o1, none⟩) n1 c1] 34)).alloc (.cells #[.slice (some ⟨g2, o2, none⟩) n2 c2] 34)).cell? ⟨w.heap.size + 1, 0, none⟩ = some (.slice (some ⟨g2, o2, none⟩) n2 c2) := k2
  clear hR1 hR2 k1 k2
  rcases h with ⟨rfl, h⟩ | ⟨rfl, h⟩
  · have hz : min (N : Int) (n2 : Int) = N := by omega
    go_enter Tryz.func163, Tryz.ntmps163
    go_wp2_with (go_at_call 165; (with_reducible refine (dot56 (Nat.le_refl _) h HR1 HR2 (by omega)).mono ?_); rintro e w' ⟨r, s, k, rfl, rfl, hr, hs⟩)
    go_ret
    exact CR.mk hr.out hs.out (up2 _ _ _ _)
  · have hz : (N : Int) < (n1 : Int) := by omega
    go_enter Tryz.func163, Tryz.ntmps163
    go_wp2_with (go_at_call 165; (with_reducible refine (dot56 (Nat.le_of_lt h) (Nat.le_refl _) HR1 HR2 (by omega)).mono ?_); rintro e w' ⟨r, s, k, rfl, rfl, hr, hs⟩)
    go_ret
    exact CR.mk hr.out hs.out (up2 _ _ _ _)
end Go.Proofs.YtflngnnoibkkoaaGreat
/- Match. -/
namespace Go.Proofs.YtflngnnoibkkoaaGreat
open Go.ChangeShapes Go.WideShapes Go.ChangeAt Go.RowKit Go.Fl Ieee
set_option maxRecDepth 200000
set_option maxHeartbeats 8000000
attribute [local go_sem] run_store_float run_store_complex call34 call33 run_neg fold_eq fold_ne fold_lt fold_gt abs_eq

theorem RD.drop {w : World} {blk off n : Nat} {f : Nat → Nat × Nat} (h : RD w blk off n f) (d : Nat) : RD w blk (off + d) (n - d) (fun i => f (i + d)) := fun j hj => by
  have := h (j + d) (by omega)
  rw [show off + d + j = off + (j + d) by omega]; exact this
theorem t162 (p q : Option Addr) (n c m d : Nat) (w : World) (hn : n < 4611686018427387904) (hm : m < 4611686018427387904) : Calls Tryz.prog 162 #[.slice p n c, .slice q m d] w fun e w' => e = .returned (.bool (decide (16384 < n) || decide (16384 < m))) ∧ w' = w := by
  by_cases h1 : 16384 < n
  · go_enter Tryz.func162, Tryz.ntmps162
    go_wp2
    go_ret
    simp
  · by_cases h2 : 16384 < m
    · go_enter Tryz.func162, Tryz.ntmps162
      go_wp2
      go_ret
      simp [h2]; omega
    · go_enter Tryz.func162, Tryz.ntmps162
      go_wp2
      go_ret
      simp [h1, h2]; omega
theorem t162k (p q : Option Addr) {n c m d : Nat} {b : Bool} (w : World) (hn : n < 4611686018427387904) (hm : m < 4611686018427387904) (h : (decide (16384 < n) || decide (16384 < m)) = b) : Calls Tryz.prog 162 #[.slice p n c, .slice q m d] w fun e w' => e = .returned (.bool b) ∧ w' = w := by
  rw [← h]; exact t162 p q n c m d w hn hm
theorem t132b (p q : Option Addr) (n c m d : Nat) (w : World) (b : Bool) (hn : n ≤ 16384) (hm : m ≤ 16384) (h : decide (16777216 < n * m) = b) : Calls Tryz.prog 132 #[.slice p n c, .slice q m d] w fun e w' => e = .returned (.bool b) ∧ w' = w := by
  have e : Hid ((decide (16384 < n) || decide (16384 < m)) = false) := by show _ = _; simp; omega
  have hb : n * m ≤ 16384 * 16384 := Nat.mul_le_mul hn hm
  obtain ⟨k, hk⟩ : ∃ k, n * m = k := ⟨_, rfl⟩
  have hz : (n : Int) * (m : Int) = k := by rw [← hk, Int.natCast_mul]
  have hz2 : decide ((16777216 : Int) < (k : Int)) = b := by
    rw [← h, hk]; rw [decide_eq_decide]; omega
  rw [hk] at hb
  clear h hk
  go_enter Tryz.func132, Tryz.ntmps132
  go_wp2_with (go_at_call 162; (with_reducible refine (t162k _ _ _ (by omega) (by omega) e.out).mono ?_); rintro e w' ⟨rfl, rfl⟩)
  go_ret
  exact ⟨rfl, rfl⟩
/-- What Match holds at a place: l has n samples, the pulse m. -/
def heldF (f : Nat → Nat × Nat) (n : Nat) (g : Nat → Nat × Nat) (m d : Nat) : Option Nat × Option Nat :=
  (sumN (dotR (fun i => f (i + d)) g) (min (n - d) m), sumN (dotI (fun i => f (i + d)) g) (min (n - d) m))
def HL (w : World) (L : List (Option Nat × Option Nat)) (e : Ending) (w' : World) : Prop := ∃ v d, e = .returned v ∧ Hid (CRow w.heap.size w' v d) ∧ Hid (Up w w') ∧ Hid (d.map ab2 = L)
theorem held_dot {lg lo n pg po m pc d cc : Nat} {f g : Nat → Nat × Nat} {w : World} (h1 : RD w lg lo n f) (h2 : RD w pg po m g) (hd : d < n) (hn : n ≤ 1000000) (hm : m ≤ 1000000) :
    Calls Tryz.prog 163 #[.slice (some ⟨lg, lo + d, none⟩) (n - d) cc, .slice (some ⟨pg, po, none⟩) m pc] w (CR w (heldF f n g m d).1 (heldF f n g m d).2) :=
  t163 lg (lo + d) (n - d) cc pg po m pc (min (n - d) m) _ g w (by omega) (h1.drop d) h2 (by omega)
set_option maxHeartbeats 2000000 in
theorem t133 (lg lo n c pg po m pc k : Nat) (f g : Nat → Nat × Nat) (w : World) (h1 : RD w lg lo n f) (h2 : RD w pg po m g) (hk : k ≤ n) (hc : n ≤ c) (hn : n ≤ 1000000) (hm : m ≤ 1000000) :
    Calls Tryz.prog 133 #[.slice (some ⟨lg, lo, none⟩) n c, .slice (some ⟨pg, po, none⟩) m pc, .int .i64 k] w (HL w ((List.range k).map (heldF f n g m))) := by
  obtain ⟨i0, hi, hz0, hz1, hz2⟩ := info_parts info41
  have H1 : Hid (RD w lg lo n f) := h1
  have H2 : Hid (RD w pg po m g) := h2
  clear h1 h2
  go_enter Tryz.func133, Tryz.ntmps133
  go_wp2_with (refine wpList_make_full _ rfl _ _ 34 rfl w.heap.size 65 i0 (.complex .f64 0 0) 1 Tryz.underlying34 hi hz0 hz1 .i64 .i64 _ _ k rfl rfl rfl rfl (by rw [hz2]; omega) (by unfold maxLen; omega) (Nat.le_refl _) ?_; intro w1 hown hgr; have HF : Hid (Fill w w1 w.heap.size k (heldF f n g m) 0) := Fill.new _ hown hgr; clear hown hgr)
  go_loopw [8, 12] (fun _ vi wr => ∃ d : Nat, d ≤ k ∧ vi = .int .i64 d ∧ Hid (Fill w wr w.heap.size k (heldF f n g m) d)) (fun _ vi _ => k - (intOf vi).toNat)
  case atStart => exact ⟨0, by omega, rfl, HF⟩
  case round =>
    clear HF
    obtain ⟨d, hd, rfl, HF⟩ := hrel
    by_cases hlt : d < k
    · have z1 : (d : Int) < (k : Int) := by omega
      have z2 : (d : Int) < (n : Int) := by omega
      have z3 : ¬ c = d := by omega
      have z4 : ¬ c - d = 0 := by omega
      have R1 : Hid (RD wr lg lo n f) := H1.out.up HF.out.below
      have R2 : Hid (RD wr pg po m g) := H2.out.up HF.out.below
      go_wp2_with (go_at_call 163; (with_reducible refine (held_dot R1.out R2.out (by omega) hn hm).mono ?_); rintro e w2 ⟨r1, s1, rfl, hr1, hs1, hu1⟩
                   have HF2 : Hid (Fill w w2 w.heap.size k (heldF f n g m) d) := HF.out.up hu1
                   obtain ⟨⟨x0, y0, hcell⟩, hfr⟩ := HF2.out.cell hlt
                   have HF3 : Hid (Fill w (w2.setCell ⟨w.heap.size, d, none⟩ (.complex .f64 r1 s1)) w.heap.size k (heldF f n g m) (d + 1)) := HF2.out.stored hlt hr1.out hs1.out
                   clear HF hu1)
      go_roundw
      case rel => exact ⟨d + 1, by omega, by go_num, HF3⟩
      case measure => simp [intOf]; omega
    · obtain rfl : k = d := by omega
      go_wp2
      go_ret
      obtain ⟨dd, g1, g2⟩ := HF.out.done
      exact ⟨_, dd, rfl, g1, HF.out.below, g2⟩
theorem t103 (lg lo n c pg po m pc : Nat) (f g : Nat → Nat × Nat) (w : World) (h1 : RD w lg lo n f) (h2 : RD w pg po m g) (hc : n ≤ c) (hm : 1 ≤ m) (hn : n ≤ 16384) (hm2 : m ≤ 16384) (hw : n * m ≤ 16777216) :
    Calls Tryz.prog 103 #[.slice (some ⟨lg, lo, none⟩) n c, .slice (some ⟨pg, po, none⟩) m pc] w (PL w ((List.range n).map (heldF f n g m)) 0) := by
  have H1 : Hid (RD w lg lo n f) := h1
  have H2 : Hid (RD w pg po m g) := h2
  have H3 : Hid (decide (16777216 < n * m) = false) := by show _ = _; simpa using hw
  clear h1 h2 hw
  go_enter Tryz.func103, Tryz.ntmps103
  go_wp2_with (first
    | (go_at_call 132; (with_reducible refine (t132b _ _ _ _ _ _ _ _ hn hm2 H3.out).mono ?_); rintro e w' ⟨rfl, rfl⟩)
    | (go_at_call 133; (with_reducible refine (t133 _ _ _ _ _ _ _ _ _ _ _ _ H1.out H2.out (Nat.le_refl _) hc (by omega) (by omega)).mono ?_); rintro e w2 ⟨v, d, rfl, h3, h4, h5⟩))
  go_ret2
  exact ⟨_, d, rfl, h3, h4, h5⟩
end Go.Proofs.YtflngnnoibkkoaaGreat
/- Tables: how many rows and gates, and what may be wrong with one. -/
namespace Go.Proofs.YtflngnnoibkkoaaGreat
open Go.ChangeShapes Go.WideShapes Go.ChangeAt Go.RowKit Go.Fl Ieee
set_option maxRecDepth 200000
set_option maxHeartbeats 8000000
attribute [local go_sem] run_store_float run_store_complex call34 call33 run_neg fold_eq fold_ne fold_lt fold_gt abs_eq

/-- What a call leaves that answers yes or no, a number, and turns nothing. -/
def BR (b : Bool) (w : World) (e : Ending) (w' : World) : Prop := e = .returned (.bool b) ∧ w' = w
def IR (z : Int) (w : World) (e : Ending) (w' : World) : Prop := e = .returned (.int .i64 z) ∧ w' = w
/-- A table's value: n rows, of which the first has m numbers. -/
def TV (w : World) (v : Value) (n m : Nat) : Prop := ∃ p c, v = .slice p n c ∧ (n = 0 → m = 0) ∧ (0 < n → ∃ R q c0, p = some ⟨R, 0, none⟩ ∧ w.cell? ⟨R, 0, none⟩ = some (.slice q m c0))
theorem TV.up {w w' : World} {v : Value} {n m : Nat} (h : TV w v n m) (hu : Up w w') : TV w' v n m := by
  obtain ⟨p, c, h1, h2, h3⟩ := h
  refine ⟨p, c, h1, h2, fun hp => ?_⟩
  obtain ⟨R, q, c0, k1, k2⟩ := h3 hp
  exact ⟨R, q, c0, k1, cell_up k2 hu⟩
/-- gates -/
theorem t102 {w : World} {v : Value} {n m : Nat} (h : TV w v n m) (hn : n < 4611686018427387904) : Calls Tryz.prog 102 #[v] w (IR m w) := by
  obtain ⟨p, c, rfl, h0, h1⟩ := h
  rcases Nat.eq_zero_or_pos n with rfl | hp
  · obtain rfl := h0 rfl
    go_enter Tryz.func102, Tryz.ntmps102
    go_wp2
    go_ret
    exact ⟨rfl, rfl⟩
  · obtain ⟨R, q, c0, rfl, hc⟩ := h1 hp
    clear h0 h1
    have z : ((n : Int) == 0) = false := by rw [beq_eq_false_iff_ne]; omega
    have z1 : (0 : Int) < (n : Int) := by omega
    go_enter Tryz.func102, Tryz.ntmps102
    go_wp2
    go_ret
    exact ⟨rfl, rfl⟩
/-- cells -/
theorem t131 {w : World} {v : Value} {n m k : Nat} (h : TV w v n m) (hk : n * m = k) (hb : k < 4611686018427387904) (hn : n < 4611686018427387904) : Calls Tryz.prog 131 #[v] w (IR k w) := by
  have H : Hid (TV w v n m) := h
  obtain ⟨p, c, rfl, h0, h1⟩ := h
  clear h0 h1
  have hz : (n : Int) * (m : Int) = k := by rw [← hk, Int.natCast_mul]
  clear hk
  go_enter Tryz.func131, Tryz.ntmps131
  go_wp2_with (go_at_call 102; (with_reducible refine (t102 H.out hn).mono ?_); rintro e w' ⟨rfl, rfl⟩)
  go_ret
  exact ⟨rfl, rfl⟩
theorem t98b {w : World} {v : Value} {n m : Nat} (h : TV w v n m) (hn : n ≤ 256) (hm : 16384 < m) : Calls Tryz.prog 98 #[v] w (BR true w) := by
  have H : Hid (TV w v n m) := h
  obtain ⟨p, c, rfl, h0, h1⟩ := h
  clear h0 h1
  have z : ¬ (256 : Int) < (n : Int) := by omega
  have z1 : (16384 : Int) < (m : Int) := by omega
  go_enter Tryz.func98, Tryz.ntmps98
  go_wp2_with (go_at_call 102; (with_reducible refine (t102 H.out (by omega)).mono ?_); rintro e w' ⟨rfl, rfl⟩)
  go_ret
  exact ⟨rfl, rfl⟩
theorem t98c {w : World} {v : Value} {n m : Nat} {b : Bool} (h : TV w v n m) (hn : n ≤ 256) (hm : m ≤ 16384) (hb : decide (262144 < n * m) = b) : Calls Tryz.prog 98 #[v] w (BR b w) := by
  have H : Hid (TV w v n m) := h
  obtain ⟨p, c, rfl, h0, h1⟩ := h
  clear h0 h1
  have z : ¬ (256 : Int) < (n : Int) := by omega
  have z1 : decide ((16384 : Int) < (m : Int)) = false := by simp; omega
  have hle : n * m ≤ 256 * 16384 := Nat.mul_le_mul hn hm
  obtain ⟨k, hk⟩ : ∃ k, n * m = k := ⟨_, rfl⟩
  rw [hk] at hle hb
  have HK : Hid (n * m = k) := hk
  clear hk
  have hz : decide ((262144 : Int) < (k : Int)) = b := by rw [← hb, decide_eq_decide]; omega
  clear hb
  go_enter Tryz.func98, Tryz.ntmps98
  go_wp2_with (first
    | (go_at_call 102; (with_reducible refine (t102 H.out (by omega)).mono ?_); rintro e w' ⟨rfl, rfl⟩)
    | (go_at_call 131; (with_reducible refine (t131 H.out HK.out (by omega) (by omega)).mono ?_); rintro e w' ⟨rfl, rfl⟩))
  go_ret
  exact ⟨rfl, rfl⟩
/-- tooMuch -/
theorem t100 {w : World} {v : Value} {n m x : Nat} {b : Bool} (h : TV w v n m) (hn : n ≤ 256) (hm : m ≤ 16384) (hx : x ≤ 16384) (hb : decide (16777216 < n * m * x) = b) : Calls Tryz.prog 100 #[v, .int .i64 x] w (BR b w) := by
  have H : Hid (TV w v n m) := h
  obtain ⟨p, c, rfl, h0, h1⟩ := h
  clear h0 h1
  have hle : n * m ≤ 256 * 16384 := Nat.mul_le_mul hn hm
  obtain ⟨k, hk⟩ : ∃ k, n * m = k := ⟨_, rfl⟩
  rw [hk] at hle hb
  have HK : Hid (n * m = k) := hk
  clear hk
  have hle2 : k * x ≤ 256 * 16384 * 16384 := Nat.mul_le_mul hle hx
  obtain ⟨y, hy⟩ : ∃ y, k * x = y := ⟨_, rfl⟩
  rw [hy] at hle2 hb
  have hz0 : (k : Int) * (x : Int) = y := by rw [← hy, Int.natCast_mul]
  clear hy
  have hz : decide ((16777216 : Int) < (y : Int)) = b := by rw [← hb, decide_eq_decide]; omega
  clear hb
  go_enter Tryz.func100, Tryz.ntmps100
  go_wp2_with (go_at_call 131; (with_reducible refine (t131 H.out HK.out (by omega) (by omega)).mono ?_); rintro e w' ⟨rfl, rfl⟩)
  go_ret
  exact ⟨rfl, rfl⟩
/-- The rows of a table as they stand in memory: where each begins, how many it has, its room. -/
def TB (w : World) (R n : Nat) (P : Nat → Option Addr) (L C : Nat → Nat) : Prop := ∀ i, i < n → w.cell? ⟨R, i, none⟩ = some (.slice (P i) (L i) (C i))
theorem TB.up {w w' : World} {R n : Nat} {P : Nat → Option Addr} {L C : Nat → Nat} (h : TB w R n P L C) (hu : Up w w') : TB w' R n P L C := fun i hi => cell_up (h i hi) hu
theorem TB.tv {w : World} {R n c : Nat} {P : Nat → Option Addr} {L C : Nat → Nat} (h : TB w R n P L C) (hp : 0 < n) : TV w (.slice (some ⟨R, 0, none⟩) n c) n (L 0) := ⟨_, c, rfl, fun e => by omega, fun _ => ⟨R, P 0, C 0, rfl, h 0 hp⟩⟩
set_option maxHeartbeats 1000000 in
theorem t96 (R n c k : Nat) (P : Nat → Option Addr) (L C : Nat → Nat) (b : Bool) (w : World) (h : TB w R n P L C) (hn : n ≤ 1000000) (hL : ∀ i, i < n → L i ≤ 1000000) (h0 : 0 < n) (hk : ∀ i, i < k → L i = L 0) (hb : k < n ∧ L k ≠ L 0 ∧ b = true ∨ k = n ∧ b = false) :
    Calls Tryz.prog 96 #[.slice (some ⟨R, 0, none⟩) n c] w (BR b w) := by
  have H : Hid (TB w R n P L C) := h
  have HB : Hid (k < n ∧ L k ≠ L 0 ∧ b = true ∨ k = n ∧ b = false) := hb
  have HK : Hid (∀ i, i < k → L i = L 0) := hk
  have HL : Hid (∀ i, i < n → L i ≤ 1000000) := hL
  have hkn : k ≤ n := by omega
  clear h hb hk hL
  go_enter Tryz.func96, Tryz.ntmps96
  go_wp2
  go_loopw [7] (fun vi wr => ∃ i : Nat, i ≤ k ∧ vi = .int .i64 i ∧ wr = w) (fun vi _ => n - (intOf vi).toNat)
  case atStart => exact ⟨0, by omega, rfl, rfl⟩
  case round =>
    obtain ⟨i, hi, rfl, rfl⟩ := hrel
    by_cases hlt : i < n
    · have z1 : (i : Int) < (n : Int) := by omega
      have z2 : (0 : Int) ≤ (i : Int) := by omega
      have hc := H.out i hlt
      by_cases hik : i < k
      · obtain ⟨x, hx, hxb⟩ : ∃ x, L 0 = x ∧ x ≤ 1000000 := ⟨_, rfl, HL.out 0 h0⟩
        have hv : TV wr (.slice (some ⟨R, 0, none⟩) n c) n x := hx ▸ H.out.tv h0
        have HV : Hid (TV wr (.slice (some ⟨R, 0, none⟩) n c) n x) := hv
        rw [HK.out i hik, hx] at hc
        clear hx hv
        go_wp2_with (go_at_call 102; (with_reducible refine (t102 HV.out (by omega)).mono ?_); rintro e w' ⟨rfl, rfl⟩)
        go_roundw
        case rel => exact ⟨i + 1, by omega, by go_num, by trivial⟩
        case measure => simp [intOf]; omega
      · obtain rfl : i = k := by omega
        obtain ⟨x, hx, hxb⟩ : ∃ x, L 0 = x ∧ x ≤ 1000000 := ⟨_, rfl, HL.out 0 h0⟩
        obtain ⟨y, hy, hyb⟩ : ∃ y, L i = y ∧ y ≤ 1000000 := ⟨_, rfl, HL.out i hlt⟩
        have hv : TV wr (.slice (some ⟨R, 0, none⟩) n c) n x := hx ▸ H.out.tv h0
        have HV : Hid (TV wr (.slice (some ⟨R, 0, none⟩) n c) n x) := hv
        have hne : y ≠ x ∧ b = true := by
          rcases HB.out with ⟨_, q, r⟩ | ⟨q, r⟩
          · rw [hx, hy] at q; exact ⟨q, r⟩
          · omega
        obtain ⟨hne, rfl⟩ := hne
        have hz : ((y : Int) != (x : Int)) = true := by simp; omega
        rw [hy] at hc
        clear hx hv hy HB HK
        go_wp2_with (go_at_call 102; (with_reducible refine (t102 HV.out (by omega)).mono ?_); rintro e w' ⟨rfl, rfl⟩)
        go_ret
        exact ⟨rfl, rfl⟩
    · obtain rfl : i = n := by omega
      have hb : b = false := by
        rcases HB.out with ⟨q, _⟩ | ⟨_, r⟩
        · omega
        · exact r
      subst hb
      go_wp2
      go_ret
      exact ⟨rfl, rfl⟩
/-- What Compress and Doppler ask besides. -/
theorem t97 (bn x : Nat) (b : Bool) (w : World) (h : w.cell? ⟨bn, 0, none⟩ = some (.int .i64 x)) (hb : decide (x = 0) = b) : Calls Tryz.prog 97 #[.pointer (some ⟨bn, 0, none⟩)] w (BR b w) := by
  have hz : ((x : Int) == 0) = b := by rw [← hb, Bool.eq_iff_iff]; simp
  clear hb
  go_enter Tryz.func97, Tryz.ntmps97
  go_wp2
  go_ret
  exact ⟨rfl, rfl⟩
theorem t99a (bn bt x : Nat) (w : World) (h : w.cell? ⟨bn, 0, none⟩ = some (.int .i64 x)) (hx : 16384 < x) : Calls Tryz.prog 99 #[.pointer (some ⟨bn, 0, none⟩), .pointer (some ⟨bt, 0, none⟩)] w (BR true w) := by
  have z : (16384 : Int) < (x : Int) := by omega
  go_enter Tryz.func99, Tryz.ntmps99
  go_wp2
  go_ret
  exact ⟨rfl, rfl⟩
theorem t99 (bn bt x n m : Nat) (v : Value) (b : Bool) (w : World) (h : w.cell? ⟨bn, 0, none⟩ = some (.int .i64 x)) (h2 : w.cell? ⟨bt, 0, none⟩ = some v) (hv : TV w v n m) (hn : n ≤ 256) (hm : m ≤ 16384) (hx : x ≤ 16384) (hb : decide (16777216 < n * m * x) = b) :
    Calls Tryz.prog 99 #[.pointer (some ⟨bn, 0, none⟩), .pointer (some ⟨bt, 0, none⟩)] w (BR b w) := by
  have H : Hid (TV w v n m) := hv
  have HB : Hid (decide (16777216 < n * m * x) = b) := hb
  obtain ⟨p, c, rfl, _, _⟩ := hv
  clear hb
  have z : ¬ (16384 : Int) < (x : Int) := by omega
  go_enter Tryz.func99, Tryz.ntmps99
  go_wp2_with (go_at_call 100; (with_reducible refine (t100 H.out hn hm hx HB.out).mono ?_); rintro e w' ⟨rfl, rfl⟩)
  go_ret
  exact ⟨rfl, rfl⟩
theorem t107 (bw bn x y : Nat) (p : Option Addr) (c : Nat) (b : Bool) (w : World) (h : w.cell? ⟨bw, 0, none⟩ = some (.slice p y c)) (h2 : w.cell? ⟨bn, 0, none⟩ = some (.int .i64 x)) (hb : decide (y ≠ x) = b) :
    Calls Tryz.prog 107 #[.pointer (some ⟨bw, 0, none⟩), .pointer (some ⟨bn, 0, none⟩)] w (BR b w) := by
  have hz : ((y : Int) != (x : Int)) = b := by rw [← hb, Bool.eq_iff_iff]; simp; omega
  clear hb
  go_enter Tryz.func107, Tryz.ntmps107
  go_wp2
  go_ret
  exact ⟨rfl, rfl⟩
theorem t108 (bt bn x n m : Nat) (v : Value) (b : Bool) (w : World) (h : w.cell? ⟨bn, 0, none⟩ = some (.int .i64 x)) (h2 : w.cell? ⟨bt, 0, none⟩ = some v) (hv : TV w v n m) (hn : n ≤ 256) (hm : m ≤ 16384) (hx : x ≤ 16384) (hb : decide (16777216 < n * m * x) = b) :
    Calls Tryz.prog 108 #[.pointer (some ⟨bt, 0, none⟩), .pointer (some ⟨bn, 0, none⟩)] w (BR b w) := by
  have H : Hid (TV w v n m) := hv
  have HB : Hid (decide (16777216 < n * m * x) = b) := hb
  obtain ⟨p, c, rfl, _, _⟩ := hv
  clear hb
  go_enter Tryz.func108, Tryz.ntmps108
  go_wp2_with (go_at_call 100; (with_reducible refine (t100 H.out hn hm hx HB.out).mono ?_); rintro e w' ⟨rfl, rfl⟩)
  go_ret
  exact ⟨rfl, rfl⟩
end Go.Proofs.YtflngnnoibkkoaaGreat
