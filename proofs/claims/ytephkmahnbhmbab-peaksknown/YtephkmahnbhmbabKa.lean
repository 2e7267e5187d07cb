/- PeaksKnown: its closed calls. -/
import Derived.Test.YtephkmahnbhmbabSg
namespace Go.Proofs.Ytephkmahnbhmbab
open Go.ChangeShapes Go.WideShapes Go.ChangeAt Go.RowKit Go.Fl Go.Sort Go.Shelf Go.Lib Go.Maps
attribute [local go_sem] run_store_float run_neg fold_eq fold_ne fold_lt fold_gt abs_eq
set_option maxRecDepth 20000
/-- A list without anything. -/
def LN (w : World) (e : Ending) (w' : World) : Prop := ∃ p c, e = .returned (.slice p 0 c) ∧ Hid (Up w w')
theorem SR.ln {w0 w : World} {e : Ending} {w' : World} (h : SR w [] e w') (hu : Up w0 w) : LN w0 e w' := by
  obtain ⟨p, c, e, _, h2⟩ := h
  exact ⟨p, c, e, hu.trans h2.out⟩
theorem GRes.ln {w0 w : World} {e : Ending} {w' : World} (h : GRes w [] e w') (hu : Up w0 w) : LN w0 e w' := by
  obtain ⟨p, c, A, C, D, e, _, h2⟩ := h
  exact ⟨p, c, e, hu.trans h2.out⟩
/-- 0 / 0. -/
theorem upon_nan {P : Program} {o : Oper} {a : Act} {next : Act → World → Prop} {Q : Exit → Act → World → Prop} {t : TypeId} {w : World} {F : Value → World → Result Next} (hk : ∀ r, Hid (ab r = none ∧ r < 2 ^ 64) → o.upon P a next Q (F (.float .f64 r) (w.drewN 1))) :
    o.upon P a next Q (((binOp .quo t (.float .f64 0) (.float .f64 0)).run P w).andThen F) := by
  have hb : floatBits .quo .f64 0 0 = none := by decide +kernel
  have e : (binOp .quo t (.float .f64 0) (.float .f64 0)).run P w = .ok (.float .f64 ((Question.nanBits .f64 0 0).cut (w.tape w.drawn (.nanBits .f64 0 0)))) (w.drewN 1) := by
    simp only [floatBits] at hb
    simp [binOp, Op.floatArith, hb, choose, Sem.run, Question.forced, World.drewN]
  rw [e]
  refine hk _ ⟨ab_none (cut_nan ..), ?_⟩
  generalize w.tape w.drawn (.nanBits .f64 0 0) = t
  show (t % 2) * 2 ^ 63 + 0x7ff0000000000000 + 1 + (t / 2) % (2 ^ 52 - 1) < 2 ^ 64
  have h : (t / 2) % (2 ^ 52 - 1) < 2 ^ 52 - 1 := Nat.mod_lt _ (by omega)
  have h2 : t % 2 < 2 := Nat.mod_lt _ (by omega)
  omega
theorem knA_v : highF (fun _ => #[4611686018427387904, 0, 4611686018427387904]) 1 = [(0, 0, 4611686018427387904), (0, 2, 4611686018427387904)] := by kernel_rfl
theorem knA (w : World) : Calls Try.prog 7 #[.slice (some ⟨w.heap.size + 1, 0, none⟩) 1 1] ((w.alloc (.cells #[.float .f64 4611686018427387904, .float .f64 0, .float .f64 4611686018427387904] 22)).alloc (.cells #[.slice (some ⟨w.heap.size, 0, none⟩) 3 3] 28)) (HL w [(0, 0, 4611686018427387904), (0, 2, 4611686018427387904)]) := by
  obtain ⟨k1, k2⟩ := two_boxes w #[.float .f64 4611686018427387904, .float .f64 0, .float .f64 4611686018427387904] #[.slice (some ⟨w.heap.size, 0, none⟩) 3 3] 22 28
  have hm := MV.lit (n := 1) (D := fun _ => #[4611686018427387904, 0, 4611686018427387904]) k2 (by decide) (fun i hi => by show (#[4611686018427387904, 0, 4611686018427387904] : Array Nat).size ≤ _; simp) (fun i hi => by
    obtain rfl : i = 0 := by omega
    exact ⟨_, _, rfl, SV.lit (l := [4611686018427387904, 0, 4611686018427387904]) k1 (by decide)⟩)
  refine (t9 hm (by show 1 * (#[4611686018427387904, 0, 4611686018427387904] : Array Nat).size ≤ _; simp)).mono ?_
  intro e w' h
  rw [knA_v] at h
  exact (h.hl (by decide)).of ((Up.alloc _ _).trans (Up.alloc _ _))
theorem knB_v : highF (fun _ => #[4611686018427387904, 4611686018427387904]) 1 = [(0, 0, 4611686018427387904)] := by kernel_rfl
theorem knB (w : World) : Calls Try.prog 7 #[.slice (some ⟨w.heap.size + 1, 0, none⟩) 1 1] ((w.alloc (.cells #[.float .f64 4611686018427387904, .float .f64 4611686018427387904] 22)).alloc (.cells #[.slice (some ⟨w.heap.size, 0, none⟩) 2 2] 28)) (HL w [(0, 0, 4611686018427387904)]) := by
  obtain ⟨k1, k2⟩ := two_boxes w #[.float .f64 4611686018427387904, .float .f64 4611686018427387904] #[.slice (some ⟨w.heap.size, 0, none⟩) 2 2] 22 28
  have hm := MV.lit (n := 1) (D := fun _ => #[4611686018427387904, 4611686018427387904]) k2 (by decide) (fun i hi => by show (#[4611686018427387904, 4611686018427387904] : Array Nat).size ≤ _; simp) (fun i hi => by
    obtain rfl : i = 0 := by omega
    exact ⟨_, _, rfl, SV.lit (l := [4611686018427387904, 4611686018427387904]) k1 (by decide)⟩)
  refine (t9 hm (by show 1 * (#[4611686018427387904, 4611686018427387904] : Array Nat).size ≤ _; simp)).mono ?_
  intro e w' h
  rw [knB_v] at h
  exact (h.hl (by decide)).of ((Up.alloc _ _).trans (Up.alloc _ _))
theorem knC_v (r : Nat) (hr : ab r = none ∧ r < 2 ^ 64) : highF (fun _ => #[0, r]) 1 = [] := by
  have e : topB (fun _ => #[0, r]) 1 2 0 1 = false := by
    show (gtF (ab r) (ab 0) && _) = false
    rw [hr.1]; rfl
  show [] ++ (([] ++ (if topB (fun _ => #[0, r]) 1 2 0 0 = true then _ else [])) ++ (if topB (fun _ => #[0, r]) 1 2 0 1 = true then _ else [])) = []
  rw [e]; kernel_rfl
theorem knC (r : Nat) (hr : ab r = none ∧ r < 2 ^ 64) (w : World) : Calls Try.prog 7 #[.slice (some ⟨w.heap.size + 1, 0, none⟩) 1 1] ((w.alloc (.cells #[.float .f64 0, .float .f64 r] 22)).alloc (.cells #[.slice (some ⟨w.heap.size, 0, none⟩) 2 2] 28)) (LN w) := by
  obtain ⟨k1, k2⟩ := two_boxes w #[.float .f64 0, .float .f64 r] #[.slice (some ⟨w.heap.size, 0, none⟩) 2 2] 22 28
  have hm := MV.lit (n := 1) (D := fun _ => #[0, r]) k2 (by decide) (fun i hi => by show (#[0, r] : Array Nat).size ≤ _; simp) (fun i hi => by
    obtain rfl : i = 0 := by omega
    exact ⟨_, _, rfl, SV.lit (l := [0, r]) k1 (by simp; exact hr.2)⟩)
  refine (t9 hm (by show 1 * (#[0, r] : Array Nat).size ≤ _; simp)).mono ?_
  intro e w' h
  rw [knC_v r hr] at h
  exact h.ln ((Up.alloc _ _).trans (Up.alloc _ _))
theorem knN (w : World) : Calls Try.prog 7 #[.slice none 0 0] w (LN w) := by
  have hm : MV w none 0 0 (fun _ => #[]) := ⟨Nat.le_refl _, fun h => by omega, fun i h => by omega, by decide⟩
  exact (t9 hm (by decide)).mono fun e w' h => SR.ln (show SR w [] e w' from h) (Up.refl _)
theorem knG_v : (grpN 10 (cntF (keptN #[(0, 5, 0), (9, 6, 0), (4, 4, 0), (4, 6, 0), (5, 5, 0)] 10 5)) (cntF (keptN #[(0, 5, 0), (9, 6, 0), (4, 4, 0), (4, 6, 0), (5, 5, 0)] 10 5)).length).1 = [[(0, 5, 0), (9, 6, 0)], [(4, 4, 0), (4, 6, 0), (5, 5, 0)]] := by kernel_rfl
theorem knG (w : World) : Calls Try.prog 8 #[.slice (some ⟨w.heap.size, 0, none⟩) 5 5, .int .i64 10] (w.alloc (.cells #[.int .i64 0, .int .i64 5, .float .f64 0, .int .i64 9, .int .i64 6, .float .f64 0, .int .i64 4, .int .i64 4, .float .f64 0, .int .i64 4, .int .i64 6, .float .f64 0, .int .i64 5, .int .i64 5, .float .f64 0] 31)) (GL w [[(0, 5, 0), (9, 6, 0)], [(4, 4, 0), (4, 6, 0), (5, 5, 0)]]) := by
  have hs := SpV.lit (n := 5) (d := #[(0, 5, 0), (9, 6, 0), (4, 4, 0), (4, 6, 0), (5, 5, 0)]) (heap_alloc_last w (.cells #[.int .i64 0, .int .i64 5, .float .f64 0, .int .i64 9, .int .i64 6, .float .f64 0, .int .i64 4, .int .i64 4, .float .f64 0, .int .i64 4, .int .i64 6, .float .f64 0, .int .i64 5, .int .i64 5, .float .f64 0] 31)) rfl (by decide) (fun i hi => by rcases i with _ | _ | _ | _ | _ | _ <;> first | exact ⟨wf_lit (by first | decide | kernel_rfl), by decide⟩ | omega) (fun i hi => by rcases i with _ | _ | _ | _ | _ | _ <;> first | exact ⟨rfl, rfl, rfl⟩ | omega)
  refine (t15 (bins := 10) (fun m hm => sorts_few (by omega)) hs (by decide)).mono ?_
  intro e w' h
  rw [knG_v] at h
  exact (h.gl (by decide)).of (Up.alloc _ _)
theorem knH_v : (grpN 2 (cntF (keptN #[(0, 1, 4613937818241073152), (0, 1, 4616189618054758400), (3, 0, 0), (1, -1, 0)] 2 4)) (cntF (keptN #[(0, 1, 4613937818241073152), (0, 1, 4616189618054758400), (3, 0, 0), (1, -1, 0)] 2 4)).length).1 = [[(0, 1, 4613937818241073152)]] := by kernel_rfl
theorem knH (w : World) : Calls Try.prog 8 #[.slice (some ⟨w.heap.size, 0, none⟩) 4 4, .int .i64 2] (w.alloc (.cells #[.int .i64 0, .int .i64 1, .float .f64 4613937818241073152, .int .i64 0, .int .i64 1, .float .f64 4616189618054758400, .int .i64 3, .int .i64 0, .float .f64 0, .int .i64 1, .int .i64 (-1), .float .f64 0] 31)) (GL w [[(0, 1, 4613937818241073152)]]) := by
  have hs := SpV.lit (n := 4) (d := #[(0, 1, 4613937818241073152), (0, 1, 4616189618054758400), (3, 0, 0), (1, -1, 0)]) (heap_alloc_last w (.cells #[.int .i64 0, .int .i64 1, .float .f64 4613937818241073152, .int .i64 0, .int .i64 1, .float .f64 4616189618054758400, .int .i64 3, .int .i64 0, .float .f64 0, .int .i64 1, .int .i64 (-1), .float .f64 0] 31)) rfl (by decide) (fun i hi => by rcases i with _ | _ | _ | _ | _ <;> first | exact ⟨wf_lit (by first | decide | kernel_rfl), by decide⟩ | omega) (fun i hi => by rcases i with _ | _ | _ | _ | _ <;> first | exact ⟨rfl, rfl, rfl⟩ | omega)
  refine (t15 (bins := 2) (fun m hm => sorts_few (by omega)) hs (by decide)).mono ?_
  intro e w' h
  rw [knH_v] at h
  exact (h.gl (by decide)).of (Up.alloc _ _)
theorem knZ_v : (grpN 0 (cntF (keptN #[(0, 0, 0)] 0 1)) (cntF (keptN #[(0, 0, 0)] 0 1)).length).1 = [] := by kernel_rfl
theorem knZ (w : World) : Calls Try.prog 8 #[.slice (some ⟨w.heap.size, 0, none⟩) 1 1, .int .i64 0] (w.alloc (.cells #[.int .i64 0, .int .i64 0, .float .f64 0] 31)) (LN w) := by
  have hs := SpV.lit (n := 1) (d := #[(0, 0, 0)]) (heap_alloc_last w (.cells #[.int .i64 0, .int .i64 0, .float .f64 0] 31)) rfl (by decide) (fun i hi => by rcases i with _ | _ <;> first | exact ⟨wf_lit (by first | decide | kernel_rfl), by decide⟩ | omega) (fun i hi => by rcases i with _ | _ <;> first | exact ⟨rfl, rfl, rfl⟩ | omega)
  refine (t15 (bins := 0) (fun m hm => sorts_few (by omega)) hs (by decide)).mono ?_
  intro e w' h
  rw [knZ_v] at h
  exact h.ln (Up.alloc _ _)
theorem knP_v : centF #[(4, 4, 4607182418800017408), (4, 6, 4613937818241073152)] 2 0 = (some 4616189618054758400, some 4617878467915022336, some 4616189618054758400) := by kernel_rfl
theorem knP (w : World) : Calls Try.prog 9 #[.slice (some ⟨w.heap.size, 0, none⟩) 2 2, .int .i64 0] (w.alloc (.cells #[.int .i64 4, .int .i64 4, .float .f64 4607182418800017408, .int .i64 4, .int .i64 6, .float .f64 4613937818241073152] 31)) (CL w 2 4616189618054758400 4617878467915022336 4616189618054758400) := by
  have hs := SpV.lit (n := 2) (d := #[(4, 4, 4607182418800017408), (4, 6, 4613937818241073152)]) (heap_alloc_last w (.cells #[.int .i64 4, .int .i64 4, .float .f64 4607182418800017408, .int .i64 4, .int .i64 6, .float .f64 4613937818241073152] 31)) rfl (by decide) (fun i hi => by rcases i with _ | _ | _ <;> first | exact ⟨wf_lit (by first | decide | kernel_rfl), by decide⟩ | omega) (fun i hi => by rcases i with _ | _ | _ <;> first | exact ⟨rfl, rfl, rfl⟩ | omega)
  exact (t18 0 hs).mono (fun e w' h => h.cl knP_v (Up.alloc _ _))
theorem knQ_v : centF #[(2, 3, 0)] 1 8 = (some 4611686018427387904, some 4613937818241073152, some 0) := by kernel_rfl
theorem knQ (w : World) : Calls Try.prog 9 #[.slice (some ⟨w.heap.size, 0, none⟩) 1 1, .int .i64 8] (w.alloc (.cells #[.int .i64 2, .int .i64 3, .float .f64 0] 31)) (CL w 1 4611686018427387904 4613937818241073152 0) := by
  have hs := SpV.lit (n := 1) (d := #[(2, 3, 0)]) (heap_alloc_last w (.cells #[.int .i64 2, .int .i64 3, .float .f64 0] 31)) rfl (by decide) (fun i hi => by rcases i with _ | _ <;> first | exact ⟨wf_lit (by first | decide | kernel_rfl), by decide⟩ | omega) (fun i hi => by rcases i with _ | _ <;> first | exact ⟨rfl, rfl, rfl⟩ | omega)
  exact (t18 8 hs).mono (fun e w' h => h.cl knQ_v (Up.alloc _ _))
theorem knS_v : centF #[(1, 0, 4613937818241073152), (6, 0, 4607182418800017408)] 2 8 = (some 4598175219545276416, some 0, some 4616189618054758400) := by kernel_rfl
theorem knS (w : World) : Calls Try.prog 9 #[.slice (some ⟨w.heap.size, 0, none⟩) 2 2, .int .i64 8] (w.alloc (.cells #[.int .i64 1, .int .i64 0, .float .f64 4613937818241073152, .int .i64 6, .int .i64 0, .float .f64 4607182418800017408] 31)) (CL w 2 4598175219545276416 0 4616189618054758400) := by
  have hs := SpV.lit (n := 2) (d := #[(1, 0, 4613937818241073152), (6, 0, 4607182418800017408)]) (heap_alloc_last w (.cells #[.int .i64 1, .int .i64 0, .float .f64 4613937818241073152, .int .i64 6, .int .i64 0, .float .f64 4607182418800017408] 31)) rfl (by decide) (fun i hi => by rcases i with _ | _ | _ <;> first | exact ⟨wf_lit (by first | decide | kernel_rfl), by decide⟩ | omega) (fun i hi => by rcases i with _ | _ | _ <;> first | exact ⟨rfl, rfl, rfl⟩ | omega)
  exact (t18 8 hs).mono (fun e w' h => h.cl knS_v (Up.alloc _ _))
theorem knU_v : centF #[(4, 0, 4613937818241073152), (0, 0, 4607182418800017408)] 2 8 = (some 4617315517961601024, some 0, some 4616189618054758400) := by kernel_rfl
theorem knU (w : World) : Calls Try.prog 9 #[.slice (some ⟨w.heap.size, 0, none⟩) 2 2, .int .i64 8] (w.alloc (.cells #[.int .i64 4, .int .i64 0, .float .f64 4613937818241073152, .int .i64 0, .int .i64 0, .float .f64 4607182418800017408] 31)) (CL w 2 4617315517961601024 0 4616189618054758400) := by
  have hs := SpV.lit (n := 2) (d := #[(4, 0, 4613937818241073152), (0, 0, 4607182418800017408)]) (heap_alloc_last w (.cells #[.int .i64 4, .int .i64 0, .float .f64 4613937818241073152, .int .i64 0, .int .i64 0, .float .f64 4607182418800017408] 31)) rfl (by decide) (fun i hi => by rcases i with _ | _ | _ <;> first | exact ⟨wf_lit (by first | decide | kernel_rfl), by decide⟩ | omega) (fun i hi => by rcases i with _ | _ | _ <;> first | exact ⟨rfl, rfl, rfl⟩ | omega)
  exact (t18 8 hs).mono (fun e w' h => h.cl knU_v (Up.alloc _ _))
theorem knV_v : centF #[(1099511627776, -1099511627776, 4607182418800017408)] 1 0 = (some 4742290407621132288, some 13965662444475908096, some 4607182418800017408) := by kernel_rfl
theorem knV (w : World) : Calls Try.prog 9 #[.slice (some ⟨w.heap.size, 0, none⟩) 1 1, .int .i64 0] (w.alloc (.cells #[.int .i64 1099511627776, .int .i64 (-1099511627776), .float .f64 4607182418800017408] 31)) (CL w 1 4742290407621132288 13965662444475908096 4607182418800017408) := by
  have hs := SpV.lit (n := 1) (d := #[(1099511627776, -1099511627776, 4607182418800017408)]) (heap_alloc_last w (.cells #[.int .i64 1099511627776, .int .i64 (-1099511627776), .float .f64 4607182418800017408] 31)) rfl (by decide) (fun i hi => by rcases i with _ | _ <;> first | exact ⟨wf_lit (by first | decide | kernel_rfl), by decide⟩ | omega) (fun i hi => by rcases i with _ | _ <;> first | exact ⟨rfl, rfl, rfl⟩ | omega)
  exact (t18 0 hs).mono (fun e w' h => h.cl knV_v (Up.alloc _ _))
/-- A middle whose power is no number. -/
def CN (w : World) (n x y : Nat) (e : Ending) (w' : World) : Prop := ∃ z, e = .returned (.agg #[.float .f64 x, .float .f64 y, .float .f64 z, .int .i64 n]) ∧ Hid (ab z = none) ∧ Hid (Up w w')
theorem knR_v (r : Nat) (hr : ab r = none ∧ r < 2 ^ 64) : centF #[(2, 3, r), (5, 6, 4607182418800017408)] 2 8 = (some 4617315517961601024, some 4618441417868443648, none) := by
  have g0 : ((#[(2, 3, r), (5, 6, 4607182418800017408)] : Array Spt)[0]!) = (2, 3, r) := rfl
  have g1 : ((#[(2, 3, r), (5, 6, 4607182418800017408)] : Array Spt)[1]!) = (5, 6, 4607182418800017408) := rfl
  generalize (#[(2, 3, r), (5, 6, 4607182418800017408)] : Array Spt) = d at *
  have e1 : topF d 1 = 1 := by
    show topF d (0 + 1) = 1
    rw [topF, topF, g0, Nat.zero_add, g1, if_pos]
    show abvF (ab 4607182418800017408) (ab r) = true
    rw [hr.1]; rfl
  have e2 : powN d 2 = none := by
    show bin .add (ab (d[0]!).2.2) (ab (d[1]!).2.2) = none
    rw [g0]
    show bin .add (ab r) _ = none
    rw [hr.1]; rfl
  unfold centF
  rw [if_neg (by decide)]
  show centT d 2 (min (max 8 0) 1073741824) (clI (d[topF d 1]!).1) (clI (d[topF d 1]!).2.1) = _
  rw [e1, g1, cent_no (by rw [e2]; rfl), e2]
  show (flI (clI 5), flI (clI 6), none) = _
  kernel_rfl
theorem knR (r : Nat) (hr : ab r = none ∧ r < 2 ^ 64) (w : World) : Calls Try.prog 9 #[.slice (some ⟨w.heap.size, 0, none⟩) 2 2, .int .i64 8] (w.alloc (.cells #[.int .i64 2, .int .i64 3, .float .f64 r, .int .i64 5, .int .i64 6, .float .f64 4607182418800017408] 31)) (CN w 2 4617315517961601024 4618441417868443648) := by
  have hs := SpV.lit (n := 2) (d := #[(2, 3, r), (5, 6, 4607182418800017408)]) (heap_alloc_last w (.cells #[.int .i64 2, .int .i64 3, .float .f64 r, .int .i64 5, .int .i64 6, .float .f64 4607182418800017408] 31)) rfl (by decide) (fun i hi => by
    rcases i with _ | _ | _
    · exact ⟨wf_lit (s := (2, 3, r)) rfl, hr.2⟩
    · exact ⟨wf_lit (s := (5, 6, 4607182418800017408)) (by decide), (show (4607182418800017408 : Nat) < 18446744073709551616 by decide)⟩
    · omega) (fun i hi => by rcases i with _ | _ | _ <;> first | exact ⟨rfl, rfl, rfl⟩ | omega)
  refine (t18 8 hs).mono ?_
  rintro e w' ⟨x, y, z, rfl, h1, h2⟩
  obtain ⟨e1, e2, e3⟩ := h1.out
  rw [knR_v r hr] at e1 e2 e3
  obtain rfl := of_ab e1
  obtain rfl := of_ab e2
  exact ⟨z, rfl, e3, (Up.alloc _ _).trans h2.out⟩
theorem knE (w : World) : Calls Try.prog 9 #[.slice none 0 0, .int .i64 3] w (CL w 0 0 0 0) := by
  have hs : SpV w none 0 0 #[] := ⟨rfl, Nat.le_refl _, by decide, fun i h => by omega, fun i h => by omega, fun h => by omega⟩
  exact (t18 3 hs).mono (fun e w' h => h.cl rfl (Up.refl _))
end Go.Proofs.Ytephkmahnbhmbab
