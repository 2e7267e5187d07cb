/- Direct. -/
import Derived.Test.YtfimolhndbfpgaaMa
import Derived.Test.YtfimolhndbfpgaaZ
namespace Go.Proofs.Ytfimolhndbfpgaa
open Go.ChangeShapes Go.WideShapes Go.ChangeAt Go.RowKit Go.Fl Ieee
attribute [local go_sem] run_store_float run_store_c isSome_set call29 call28 run_neg fold_eq fold_ne fold_lt fold_gt abs_eq

/-- Direct at work: two rows of its own. -/
structure DI (w wr : World) (A T N R : Nat) (da dt : List (Nat × Nat)) : Prop where
  ne : A ≠ T
  loA : w.heap.size ≤ A
  loT : w.heap.size ≤ T
  ans : CRow w.heap.size wr (.slice (some ⟨A, 0, none⟩) N N) da
  ter : CRow w.heap.size wr (.slice (some ⟨T, 0, none⟩) R R) dt
  up : Up w wr
theorem DI.mono {w wr w' : World} {A T N R : Nat} {da dt : List (Nat × Nat)} (h : DI w wr A T N R da dt) (hu : Up wr w') : DI w w' A T N R da dt := ⟨h.ne, h.loA, h.loT, h.ans.up hu, h.ter.up hu, h.up.trans hu⟩
theorem DI.putT {w wr : World} {A T N R : Nat} {da dt : List (Nat × Nat)} (h : DI w wr A T N R da dt) (k r s : Nat) : DI w (wr.setCell ⟨T, k, none⟩ (.complex .f64 r s)) A T N R da (dt.set k (r, s)) := by
  obtain ⟨h1, h2⟩ := h.ter.put k r s
  exact ⟨h.ne, h.loA, h.loT, h.ans.far h2 h.ne, h1, h2.up h.up h.loT⟩
theorem DI.putA {w wr : World} {A T N R : Nat} {da dt : List (Nat × Nat)} (h : DI w wr A T N R da dt) (k r s : Nat) : DI w (wr.setCell ⟨A, k, none⟩ (.complex .f64 r s)) A T N R (da.set k (r, s)) dt := by
  obtain ⟨h1, h2⟩ := h.ans.put k r s
  exact ⟨h.ne, h.loA, h.loT, h1, h.ter.far h2 (Ne.symm h.ne), h2.up h.up h.loA⟩
theorem DI.start {w w3 w4 : World} {A T N R : Nat} (hA : Made N A w w3) (hT : Made R T w3 w4) : DI w w4 A T N R (List.replicate N (0, 0)) (List.replicate R (0, 0)) := by
  obtain ⟨a1, a2, a3⟩ := hA
  obtain ⟨t1, t2, t3⟩ := hT
  have l1 : A < w3.heap.size := (World.ownsRow.lt a2 _ rfl).2
  refine ⟨by omega, by omega, by have := a3.size; omega, (a2.up t3).down (by omega), t2.down (by have := a3.size; omega), a3.trans t3⟩
theorem rd_take {w : World} {b g n cap m : Nat} {d : List (Nat × Nat)} (h : CRow b w (.slice (some ⟨g, 0, none⟩) n cap) d) (hm : m ≤ n) : RD w g 0 m (fun i => d[i]!) := fun j hj => by rw [Nat.zero_add]; exact h.cell (by rw [h.len]; omega)
theorem dir_sum {w wr : World} {A T N R m c : Nat} {da dt : List (Nat × Nat)} (HS : Hid (DI w wr A T N R da dt)) (hm : m ≤ R) (hR : R ≤ 16384) : Calls Try.prog 35 #[.slice (some ⟨T, 0, none⟩) m c] wr (CR wr (Go.Proofs.Ytfimolhndbfpgaa.sumR (fun i => dt[i]!) m) (Go.Proofs.Ytfimolhndbfpgaa.sumI (fun i => dt[i]!) m)) :=
  t35 T 0 m c _ wr (rd_take HS.out.ter hm) (by omega)
theorem t11long (lg pg : Option Addr) (n c m pc : Nat) (w : World) (hn : n < 4611686018427387904) (hm2 : m < 4611686018427387904) (h : 16384 < n ∨ 16384 < m) : Calls Try.prog 11 #[.slice lg n c, .slice pg m pc] w (PL w [] 3) := by
  have H : Hid (16384 < n ∨ 16384 < m) := h
  clear h
  go_enter Try.func11, Try.ntmps11
  go_wp2_with (go_at_call 22; (with_reducible refine (t22a _ _ _ _ _ _ _ hn hm2 H.out).mono ?_); rintro e w' ⟨rfl, rfl⟩)
  go_ret2
  exact PL.none _ _
theorem t11work (lg pg : Option Addr) (n c m pc : Nat) (w : World) (hn : n ≤ 16384) (hm : m ≤ 16384) (h : 16777216 < n * m) : Calls Try.prog 11 #[.slice lg n c, .slice pg m pc] w (PL w [] 3) := by
  have H3 : Hid (decide (16777216 < n * m) = true) := by show _ = _; simpa using h
  clear h
  go_enter Try.func11, Try.ntmps11
  go_wp2_with (go_at_call 22; (with_reducible refine (t22b _ _ _ _ _ _ _ _ hn hm H3.out).mono ?_); rintro e w' ⟨rfl, rfl⟩)
  go_ret2
  exact PL.none _ _
theorem t11none (lg pg : Option Addr) (n c pc : Nat) (w : World) (hn : n ≤ 16384) : Calls Try.prog 11 #[.slice lg n c, .slice pg 0 pc] w (PL w [] 0) := by
  have H3 : Hid (decide (16777216 < n * 0) = false) := by show _ = _; simp
  by_cases h0 : n = 0
  · subst h0
    go_enter Try.func11, Try.ntmps11
    go_wp2_with (go_at_call 22; (with_reducible refine (t22b _ _ _ _ _ _ _ _ hn (by omega) H3.out).mono ?_); rintro e w' ⟨rfl, rfl⟩)
    go_ret2
    exact PL.none _ _
  · have hz : ((n : Int) == 0) = false := by rw [beq_eq_false_iff_ne]; omega
    go_enter Try.func11, Try.ntmps11
    go_wp2_with (go_at_call 22; (with_reducible refine (t22b _ _ _ _ _ _ _ _ hn (by omega) H3.out).mono ?_); rintro e w' ⟨rfl, rfl⟩)
    go_ret2
    exact PL.none _ _
theorem upon_mk3 {o : Oper} {a : Act} {next : Act → World → Prop} {Q : Exit → Act → World → Prop} {w : World} {F : Value → World → Result Next} (hk : ∀ g w', Hid (Made 3 g w w') → o.upon Try.prog a next Q (F (.slice (some ⟨g, 0, none⟩) 3 3) w')) :
    o.upon Try.prog a next Q (((Instr.makeSlice 27 (.int .i64 3) (.int .i64 3)).run Try.prog w).andThen F) := upon_make (n := 3) (by omega) hk
theorem upon_mk2 {o : Oper} {a : Act} {next : Act → World → Prop} {Q : Exit → Act → World → Prop} {w : World} {F : Value → World → Result Next} (hk : ∀ g w', Hid (Made 2 g w w') → o.upon Try.prog a next Q (F (.slice (some ⟨g, 0, none⟩) 2 2) w')) :
    o.upon Try.prog a next Q (((Instr.makeSlice 27 (.int .i64 2) (.int .i64 2)).run Try.prog w).andThen F) := upon_make (n := 2) (by omega) hk
def dirM (f g : Nat → Nat × Nat) (j i : Nat) : Option Nat × Option Nat := mulC (ab2 (f (j - 1 + i))) (ab2 (g (j - (j - 1) - i)))
def dirN (j : Nat) : Nat := if j = 1 then 2 else 1
def dirF (f g : Nat → Nat × Nat) (j : Nat) : Option Nat × Option Nat := (sumN (fun i => (dirM f g j i).1) (dirN j), sumN (fun i => (dirM f g j i).2) (dirN j))
theorem dir_step {f g : Nat → Nat × Nat} {dt : List (Nat × Nat)} {R j k x y u v r s o q : Nat} (hl : dt.length = R) (hk : k < R) (H : ∀ i, i < k → ab2 dt[i]! = dirM f g j i) (hx : f o = (x, y)) (hu : g q = (u, v)) (hr : ab r = mulR (ab x) (ab y) (ab u) (ab v)) (hs : ab s = mulI (ab x) (ab y) (ab u) (ab v)) (ho : j - 1 + k = o := by rfl) (hq : j - (j - 1) - k = q := by rfl) :
    ∀ i, i < k + 1 → ab2 (dt.set k (r, s))[i]! = dirM f g j i := by
  intro i hi
  rw [set_at _ _ _ _ (by omega)]
  by_cases e : i = k
  · subst e
    rw [if_pos rfl]
    unfold dirM
    rw [ho, hq, hx, hu]
    exact Prod.ext hr hs
  · rw [if_neg e]; exact H i (by omega)
theorem dir_done {f g : Nat → Nat × Nat} {da dt : List (Nat × Nat)} {K j q r s : Nat} (hl : da.length = K) (hj : j < K) (H : ∀ i, i < j → ab2 da[i]! = dirF f g i) (HT : ∀ i, i < q → ab2 dt[i]! = dirM f g j i) (hq : dirN j = q) (hr : ab r = Go.Proofs.Ytfimolhndbfpgaa.sumR (fun i => dt[i]!) q) (hs : ab s = Go.Proofs.Ytfimolhndbfpgaa.sumI (fun i => dt[i]!) q) :
    ∀ i, i < j + 1 → ab2 (da.set j (r, s))[i]! = dirF f g i := by
  intro i hi
  rw [set_at _ _ _ _ (by omega)]
  by_cases e : i = j
  · subst e
    rw [if_pos rfl]
    unfold dirF
    rw [hq]
    refine Prod.ext ?_ ?_
    · show ab r = _
      rw [hr]
      exact sumN_congr fun i hi => congrArg Prod.fst (HT i hi)
    · show ab s = _
      rw [hs]
      exact sumN_congr fun i hi => congrArg Prod.snd (HT i hi)
  · rw [if_neg e]; exact H i (by omega)
set_option maxHeartbeats 4000000 in
/-- Direct of two lists of two. -/
theorem t11 (lg lo c pg po pc : Nat) (f g : Nat → Nat × Nat) (w : World) (h1 : RD w lg lo 2 f) (h2 : RD w pg po 2 g) :
    Calls Try.prog 11 #[.slice (some ⟨lg, lo, none⟩) 2 c, .slice (some ⟨pg, po, none⟩) 2 pc] w (PL w ((List.range 3).map (dirF f g)) 0) := by
  have H1 : Hid (RD w lg lo 2 f) := h1
  have H2 : Hid (RD w pg po 2 g) := h2
  have H3 : Hid (decide (16777216 < 2 * 2) = false) := by show _ = _; rfl
  clear h1 h2
  go_enter Try.func11, Try.ntmps11
  go_wp2_with (first
    | (go_at_call 22; (with_reducible refine (t22b _ _ _ _ _ _ _ _ (by omega) (by omega) H3.out).mono ?_); rintro e w' ⟨rfl, rfl⟩)
    | ((with_reducible refine upon_mk3 ?_); intro A wa HA)
    | ((with_reducible refine upon_mk2 ?_); intro T w1 HT))
  have HS : Hid (DI w' w1 A T 3 2 (List.replicate 3 (0, 0)) (List.replicate 2 (0, 0))) := DI.start HA.out HT.out
  clear HA HT
  go_loopw [8, 9, 10, 11, 12, 41] (fun _ _ _ _ _ vi wr => ∃ (z : Int) (j : Nat) (da dt : List (Nat × Nat)), z = j ∧ j ≤ 3 ∧ vi = .int .i64 z ∧ Hid (DI w' wr A T 3 2 da dt) ∧ Hid (∀ i, i < j → ab2 da[i]! = dirF f g i)) (fun _ _ _ _ _ vi _ => 3 - (intOf vi).toNat)
  case atStart => exact ⟨0, 0, _, _, rfl, by omega, rfl, HS, fun i hi => by omega⟩
  case round =>
    clear HS
    obtain ⟨z, j, da, dt, hz, hj, rfl, HS, HD⟩ := hrel
    obtain rfl | rfl | rfl | rfl : j = 0 ∨ j = 1 ∨ j = 2 ∨ j = 3 := by omega
    · obtain rfl : z = 0 := by omega
      clear hz
      go_wp2
      go_loopw [12, 63] (fun _ vi wr => ∃ (z : Int) (k : Nat) (dt : List (Nat × Nat)), z = k ∧ k ≤ 1 ∧ vi = .int .i64 z ∧ Hid (DI w' wr A T 3 2 da dt) ∧ Hid (∀ i, i < k → ab2 dt[i]! = dirM f g 0 i)) (fun _ vi _ => 1 - (intOf vi).toNat)
      case atStart => exact ⟨0, 0, _, rfl, by omega, rfl, HS, fun i hi => by omega⟩
      case round =>
        clear HS
        obtain ⟨z, k, dt, hz, hk, rfl, HS, HT⟩ := hrel
        obtain rfl | rfl : k = 0 ∨ k = 1 := by omega
        · obtain rfl : z = 0 := by omega
          clear hz
          obtain ⟨x, y, HX, hx⟩ : ∃ x y, Hid (f 0 = (x, y)) ∧ wr.cell? ⟨lg, lo, none⟩ = some (.complex .f64 x y) := ⟨_, _, rfl, (H1.out.up HS.out.up) 0 (by omega)⟩
          obtain ⟨u, v, HU, hu⟩ : ∃ u v, Hid (g 0 = (u, v)) ∧ wr.cell? ⟨pg, po, none⟩ = some (.complex .f64 u v) := ⟨_, _, rfl, (H2.out.up HS.out.up) 0 (by omega)⟩
          have i1 : (wr.cell? ⟨T, 0, none⟩).isSome = true := by rw [HS.out.ter.cell (by rw [HS.out.ter.len]; omega)]; rfl
          have f1 := HS.out.ter.frz 0
          go_wp2_with fail
          go_region_with ((go_at_call 18; (with_reducible refine (t18 _ _ _ _ _).mono ?_); rintro e w3 ⟨r3, s3, kk3, rfl, rfl, hr3, hs3⟩))
          all_goals
            try go_wp2
            go_roundw
            case rel => exact ⟨1, 1, _, rfl, by omega, rfl, (HS.out.mono (Up.drewN _ _)).putT 0 r3 s3, dir_step HS.out.ter.len (by omega) HT.out HX.out HU.out hr3.out hs3.out⟩
            case measure => simp [intOf]
        · obtain rfl : z = 1 := by omega
          clear hz
          go_wp2_with (go_at_call 35; (with_reducible refine (dir_sum HS (by omega) (by omega)).mono ?_); rintro e w3 ⟨r3, s3, rfl, hr3, hs3, hu3⟩; have HS3 : Hid (DI w' w3 A T 3 2 da dt) := HS.out.mono hu3; have i1 : (w3.cell? ⟨A, 0, none⟩).isSome = true := (by rw [HS3.out.ans.cell (by rw [HS3.out.ans.len]; omega)]; rfl); have f1 := HS3.out.ans.frz 0; clear hu3 HS)
          go_roundw
          case rel => exact ⟨1, 1, _, _, rfl, by omega, rfl, HS3.out.putA 0 r3 s3, dir_done HS3.out.ans.len (by omega) HD.out HT.out rfl hr3.out hs3.out⟩
          case measure => simp [intOf]
    · obtain rfl : z = 1 := by omega
      clear hz
      go_wp2
      go_loopw [12, 63] (fun _ vi wr => ∃ (z : Int) (k : Nat) (dt : List (Nat × Nat)), z = k ∧ k ≤ 2 ∧ vi = .int .i64 z ∧ Hid (DI w' wr A T 3 2 da dt) ∧ Hid (∀ i, i < k → ab2 dt[i]! = dirM f g 1 i)) (fun _ vi _ => 2 - (intOf vi).toNat)
      case atStart => exact ⟨0, 0, _, rfl, by omega, rfl, HS, fun i hi => by omega⟩
      case round =>
        clear HS
        obtain ⟨z, k, dt, hz, hk, rfl, HS, HT⟩ := hrel
        obtain rfl | rfl | rfl : k = 0 ∨ k = 1 ∨ k = 2 := by omega
        · obtain rfl : z = 0 := by omega
          clear hz
          obtain ⟨x, y, HX, hx⟩ : ∃ x y, Hid (f 0 = (x, y)) ∧ wr.cell? ⟨lg, lo, none⟩ = some (.complex .f64 x y) := ⟨_, _, rfl, (H1.out.up HS.out.up) 0 (by omega)⟩
          obtain ⟨u, v, HU, hu⟩ : ∃ u v, Hid (g 1 = (u, v)) ∧ wr.cell? ⟨pg, po + 1, none⟩ = some (.complex .f64 u v) := ⟨_, _, rfl, (H2.out.up HS.out.up) 1 (by omega)⟩
          have i1 : (wr.cell? ⟨T, 0, none⟩).isSome = true := by rw [HS.out.ter.cell (by rw [HS.out.ter.len]; omega)]; rfl
          have f1 := HS.out.ter.frz 0
          go_wp2_with fail
          go_region_with ((go_at_call 18; (with_reducible refine (t18 _ _ _ _ _).mono ?_); rintro e w3 ⟨r3, s3, kk3, rfl, rfl, hr3, hs3⟩))
          all_goals
            try go_wp2
            go_roundw
            case rel => exact ⟨1, 1, _, rfl, by omega, rfl, (HS.out.mono (Up.drewN _ _)).putT 0 r3 s3, dir_step HS.out.ter.len (by omega) HT.out HX.out HU.out hr3.out hs3.out⟩
            case measure => simp [intOf]
        · obtain rfl : z = 1 := by omega
          clear hz
          obtain ⟨x, y, HX, hx⟩ : ∃ x y, Hid (f 1 = (x, y)) ∧ wr.cell? ⟨lg, lo + 1, none⟩ = some (.complex .f64 x y) := ⟨_, _, rfl, (H1.out.up HS.out.up) 1 (by omega)⟩
          obtain ⟨u, v, HU, hu⟩ : ∃ u v, Hid (g 0 = (u, v)) ∧ wr.cell? ⟨pg, po, none⟩ = some (.complex .f64 u v) := ⟨_, _, rfl, (H2.out.up HS.out.up) 0 (by omega)⟩
          have i1 : (wr.cell? ⟨T, 1, none⟩).isSome = true := by rw [HS.out.ter.cell (by rw [HS.out.ter.len]; omega)]; rfl
          have f1 := HS.out.ter.frz 1
          go_wp2_with fail
          go_region_with ((go_at_call 18; (with_reducible refine (t18 _ _ _ _ _).mono ?_); rintro e w3 ⟨r3, s3, kk3, rfl, rfl, hr3, hs3⟩))
          all_goals
            try go_wp2
            go_roundw
            case rel => exact ⟨2, 2, _, rfl, by omega, rfl, (HS.out.mono (Up.drewN _ _)).putT 1 r3 s3, dir_step HS.out.ter.len (by omega) HT.out HX.out HU.out hr3.out hs3.out⟩
            case measure => simp [intOf]
        · obtain rfl : z = 2 := by omega
          clear hz
          go_wp2_with (go_at_call 35; (with_reducible refine (dir_sum HS (by omega) (by omega)).mono ?_); rintro e w3 ⟨r3, s3, rfl, hr3, hs3, hu3⟩; have HS3 : Hid (DI w' w3 A T 3 2 da dt) := HS.out.mono hu3; have i1 : (w3.cell? ⟨A, 1, none⟩).isSome = true := (by rw [HS3.out.ans.cell (by rw [HS3.out.ans.len]; omega)]; rfl); have f1 := HS3.out.ans.frz 1; clear hu3 HS)
          go_roundw
          case rel => exact ⟨2, 2, _, _, rfl, by omega, rfl, HS3.out.putA 1 r3 s3, dir_done HS3.out.ans.len (by omega) HD.out HT.out rfl hr3.out hs3.out⟩
          case measure => simp [intOf]
    · obtain rfl : z = 2 := by omega
      clear hz
      go_wp2
      go_loopw [12, 63] (fun _ vi wr => ∃ (z : Int) (k : Nat) (dt : List (Nat × Nat)), z = k ∧ k ≤ 1 ∧ vi = .int .i64 z ∧ Hid (DI w' wr A T 3 2 da dt) ∧ Hid (∀ i, i < k → ab2 dt[i]! = dirM f g 2 i)) (fun _ vi _ => 1 - (intOf vi).toNat)
      case atStart => exact ⟨0, 0, _, rfl, by omega, rfl, HS, fun i hi => by omega⟩
      case round =>
        clear HS
        obtain ⟨z, k, dt, hz, hk, rfl, HS, HT⟩ := hrel
        obtain rfl | rfl : k = 0 ∨ k = 1 := by omega
        · obtain rfl : z = 0 := by omega
          clear hz
          obtain ⟨x, y, HX, hx⟩ : ∃ x y, Hid (f 1 = (x, y)) ∧ wr.cell? ⟨lg, lo + 1, none⟩ = some (.complex .f64 x y) := ⟨_, _, rfl, (H1.out.up HS.out.up) 1 (by omega)⟩
          obtain ⟨u, v, HU, hu⟩ : ∃ u v, Hid (g 1 = (u, v)) ∧ wr.cell? ⟨pg, po + 1, none⟩ = some (.complex .f64 u v) := ⟨_, _, rfl, (H2.out.up HS.out.up) 1 (by omega)⟩
          have i1 : (wr.cell? ⟨T, 0, none⟩).isSome = true := by rw [HS.out.ter.cell (by rw [HS.out.ter.len]; omega)]; rfl
          have f1 := HS.out.ter.frz 0
          go_wp2_with fail
          go_region_with ((go_at_call 18; (with_reducible refine (t18 _ _ _ _ _).mono ?_); rintro e w3 ⟨r3, s3, kk3, rfl, rfl, hr3, hs3⟩))
          all_goals
            try go_wp2
            go_roundw
            case rel => exact ⟨1, 1, _, rfl, by omega, rfl, (HS.out.mono (Up.drewN _ _)).putT 0 r3 s3, dir_step HS.out.ter.len (by omega) HT.out HX.out HU.out hr3.out hs3.out⟩
            case measure => simp [intOf]
        · obtain rfl : z = 1 := by omega
          clear hz
          go_wp2_with (go_at_call 35; (with_reducible refine (dir_sum HS (by omega) (by omega)).mono ?_); rintro e w3 ⟨r3, s3, rfl, hr3, hs3, hu3⟩; have HS3 : Hid (DI w' w3 A T 3 2 da dt) := HS.out.mono hu3; have i1 : (w3.cell? ⟨A, 2, none⟩).isSome = true := (by rw [HS3.out.ans.cell (by rw [HS3.out.ans.len]; omega)]; rfl); have f1 := HS3.out.ans.frz 2; clear hu3 HS)
          go_roundw
          case rel => exact ⟨3, 3, _, _, rfl, by omega, rfl, HS3.out.putA 2 r3 s3, dir_done HS3.out.ans.len (by omega) HD.out HT.out rfl hr3.out hs3.out⟩
          case measure => simp [intOf]
    · obtain rfl : z = 3 := by omega
      clear hz
      go_wp2
      go_ret2
      exact ⟨_, da, rfl, HS.out.ans, HS.out.up, slow_done HS.out.ans.len HD.out⟩
end Go.Proofs.Ytfimolhndbfpgaa
