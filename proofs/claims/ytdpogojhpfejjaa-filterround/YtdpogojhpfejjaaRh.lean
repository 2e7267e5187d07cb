/- A ring that is fed nothing; Answer of two ones. -/
import Derived.Test.YtdpogojhpfejjaaRg
namespace Go.Proofs.Ytdpogojhpfejjaa
open Go.ChangeShapes Go.WideShapes Go.ChangeAt Go.RowKit Go.Fl Ieee
attribute [local go_sem] run_store_float run_store_c isSome_set call32 call31 run_neg fold_eq fold_ne fold_lt fold_gt abs_eq

theorem t7z {b0 : Nat} {w : World} {b B0 B1 B2 A1 A2 : Nat} (h : RG b0 w b B0 B1 B2 A1 A2 0 0 0 0) (f : Nat → C2) : Calls Try.prog 7 #[.pointer (some ⟨b, 0, none⟩), .slice none 0 0] w (RD7 b0 w b 0 B0 B1 B2 A1 A2 f) := by
  have H : Hid (RG b0 w b B0 B1 B2 A1 A2 0 0 0 0) := h
  clear h
  go_enter Try.func7, Try.ntmps7
  go_wp2_with ((with_reducible refine up_make0 ?_); intro gl w2 HM)
  go_loopw [6, 7, 8, 16] (fun _ _ _ vi wr => vi = .int .i64 0 ∧ wr = w2) (fun _ _ _ _ _ => 0)
  case atStart => exact ⟨rfl, rfl⟩
  case round =>
    obtain ⟨rfl, rfl⟩ := hrel
    go_wp2
    go_ret
    obtain ⟨m1, m2, m3⟩ := HM.out
    rw [← m1] at m2
    exact ⟨gl, [], 0, 0, 0, 0, rfl, by rw [← m1]; exact m2, rfl, But.of_up m3, H.out.up m3, rfl⟩

theorem infoI : (Try.prog.info? 3).map (fun i => (i.zero, i.size, i.bytes)) = some (some (.int .i64 0), 1, 8) := by kernel_rfl
/-- Two noughts. -/
def I2 (w : World) (g : Nat) : Prop := w.ownsRow g 3 1 (.slice (some ⟨g, 0, none⟩) 2 2) 2 [.int .i64 0, .int .i64 0]
theorem I2.up {w w' : World} {g : Nat} (h : I2 w g) (hu : Up w w') : I2 w' g := owns_up h hu
theorem I2.cell {w : World} {g i : Nat} (h : I2 w g) (hi : i < 2) : w.cell? ⟨g, i, none⟩ = some (.int .i64 0) := by
  rw [World.ownsRow.cellAt h i (by omega)]
  rcases (show i = 0 ∨ i = 1 by omega) with rfl | rfl <;> rfl
theorem I2.put {w : World} {g i : Nat} (h : I2 w g) (hi : i < 2) : I2 (w.setCell ⟨g, i, none⟩ (.int .i64 0)) g ∧ But g w (w.setCell ⟨g, i, none⟩ (.int .i64 0)) := by
  obtain ⟨s1, s2⟩ := World.ownsRow.stored h i (.int .i64 0)
  refine ⟨?_, s2⟩
  rcases (show i = 0 ∨ i = 1 by omega) with rfl | rfl <;> exact s1
theorem upon_makeI {o : Oper} {a : Act} {next : Act → World → Prop} {Q : Exit → Act → World → Prop} {w : World} {F : Value → World → Result Next}
    (hk : ∀ g w', Hid (w.heap.size = g ∧ I2 w' g ∧ Up w w') → o.upon Try.prog a next Q (F (.slice (some ⟨g, 0, none⟩) 2 2) w')) :
    o.upon Try.prog a next Q (((Instr.makeSlice 50 (.int .i64 2) (.int .i64 2)).run Try.prog w).andThen F) := by
  obtain ⟨i0, hi, hz0, hz1, hz2⟩ := info_parts infoI
  obtain ⟨w', e, h1, h2⟩ := run_make_full (P := Try.prog) w w.heap.size 50 3 i0 (.int .i64 0) 1 Try.underlying50 hi hz0 hz1 .i64 .i64 2 (by rw [hz2]; omega) (by unfold maxLen; omega) (Nat.le_refl _)
  have e' : (Instr.makeSlice 50 (.int .i64 2) (.int .i64 2)).run Try.prog w = .ok (.slice (some ⟨w.heap.size, 0, none⟩) 2 2) w' := e
  rw [e']
  have e2 : (madeCells (Value.int .i64 0).cells (2 * 1)).toList = [.int .i64 0, .int .i64 0] := by
    rw [Nat.mul_one]; exact toList_madeCells_one _ _
  rw [e2] at h1
  exact hk _ _ ⟨rfl, h1, Below.grown (Below.refl _ _) h2 (Nat.le_refl _) (fun j hj => by cases hj)⟩
def BK (w : World) (e : Ending) (w' : World) : Prop := ∃ g, e = .returned (.slice (some ⟨g, 0, none⟩) 2 2) ∧ Hid (I2 w' g) ∧ Hid (Up w w')
set_option maxHeartbeats 1000000 in
theorem t15 (w : World) : Calls Try.prog 15 #[.int .i64 2, .int .i64 0, .int .i64 2] w (BK w) := by
  go_enter Try.func15, Try.ntmps15
  go_wp2_with ((with_reducible refine upon_makeI ?_); intro g w1 HM)
  have HI : Hid (I2 w1 g ∧ Up w w1) := HM.out.2
  have HG : Hid (w.heap.size = g) := HM.out.1
  clear HM
  go_loopw [9, 10, 23] (fun vr _ vi wr => ∃ c : Int, (c = 0 ∨ c = 1 ∨ c = 2) ∧ vr = .int .i64 0 ∧ vi = .int .i64 c ∧ Hid (I2 wr g ∧ Up w wr)) (fun _ _ vi _ => 2 - (intOf vi).toNat)
  case atStart => exact ⟨0, by omega, rfl, rfl, HI⟩
  case round =>
    obtain ⟨c, hc, rfl, rfl, HJ⟩ := hrel
    rcases hc with rfl | rfl | rfl
    · have q := HJ.out.1.cell (i := 0) (by omega)
      have q2 : wr.frozen? ⟨g, 0, none⟩ = false := World.ownsRow.frozenAt HJ.out.1 0
      go_wp2
      go_roundw
      case rel => exact ⟨1, by omega, rfl, rfl, (HJ.out.1.put (i := 0) (by omega)).1, (HJ.out.1.put (i := 0) (by omega)).2.up HJ.out.2 (by rw [HG.out]; exact Nat.le_refl _)⟩
      case measure => simp [intOf]
    · have q := HJ.out.1.cell (i := 1) (by omega)
      have q2 : wr.frozen? ⟨g, 1, none⟩ = false := World.ownsRow.frozenAt HJ.out.1 1
      go_wp2
      go_roundw
      case rel => exact ⟨2, by omega, rfl, rfl, (HJ.out.1.put (i := 1) (by omega)).1, (HJ.out.1.put (i := 1) (by omega)).2.up HJ.out.2 (by rw [HG.out]; exact Nat.le_refl _)⟩
      case measure => simp [intOf]
    · go_wp2
      go_ret
      exact ⟨g, rfl, HJ.out.1, HJ.out.2⟩
theorem eg17 (args : Array Value) (w : World) : (callFunc 17 args).run Try.prog w = .ok (.enter 17 args) w := enters Try.func17 (by kernel_rfl) (by kernel_rfl) _ _
set_option maxHeartbeats 1000000 in
theorem t17 (bb bn g i : Nat) (w : World) (h1 : w.cell? ⟨bb, 0, none⟩ = some (.slice (some ⟨g, 0, none⟩) 2 2)) (h2 : w.cell? ⟨bn, 0, none⟩ = some (.int .i64 2)) (hI : I2 w g) (hi : i < 2) :
    Calls Try.prog 17 #[.int .i64 i, .pointer (some ⟨bb, 0, none⟩), .pointer (some ⟨bn, 0, none⟩)] w (CR w (unitC 0 2) (unitS 0 2)) := by
  have hc := hI.cell hi
  clear hI
  have z1 : (i : Int) < 2 := by omega
  have z0 : (0 : Int) ≤ (i : Int) := by omega
  go_enter Try.func17, Try.ntmps17
  go_wp2_with fail
  go_region_held3 (fun W => W.cell? ⟨bb, 0, none⟩ = some (.slice (some ⟨g, 0, none⟩) 2 2) ∧ W.cell? ⟨bn, 0, none⟩ = some (.int .i64 2) ∧ W.cell? ⟨g, i, none⟩ = some (.int .i64 0)) (first | go_keep | exact ⟨cell_up h1 ((Up.drew _).trans hu), cell_up h2 ((Up.drew _).trans hu), cell_up hc ((Up.drew _).trans hu)⟩) (first
    | (go_at_call 18; (with_reducible refine (t18 _ _ _ (by omega) (by omega)).mono ?_); rintro e w1 ⟨r, s, rfl, hr, hs, hu⟩))
  all_goals (try go_wp2)
  all_goals go_ret
  all_goals exact CR.mk hr.out hs.out ((Up.drew _).trans hu)
theorem unit02 : unitC 0 2 = some 4607182418800017408 ∧ unitS 0 2 = some 0 := by decide +kernel
theorem rd_two (w : World) (t : TypeId) (d : List (Nat × Nat)) {cs : Array Value} {n : Nat} (hn : d.length = n) (h : cs = (d.map ce).toArray) : RD (w.alloc (.cells cs t)) w.heap.size 0 n (fun i => d[i]!) := by
  subst h
  subst hn
  intro j hj
  rw [cell_of_row _ _ _ _ _ _ (heap_alloc_last _ _)]
  simp [getElem!_pos d j hj, List.getElem?_eq_getElem hj]
def one2 : Nat → Nat × Nat := fun i => [(4607182418800017408, 0), (4607182418800017408, 0)][i]!
theorem ans_sum : sumN (wgR one2 (fun _ => some 4607182418800017408) (fun _ => some 0)) 2 = some 4611686018427387904 ∧ sumN (wgI one2 (fun _ => some 4607182418800017408) (fun _ => some 0)) 2 = some 0 := by decide +kernel
theorem w16a {w : World} {bb bn g gt : Nat} (h1 : w.cell? ⟨bb, 0, none⟩ = some (.slice (some ⟨g, 0, none⟩) 2 2)) (h2 : w.cell? ⟨bn, 0, none⟩ = some (.int .i64 2)) (HI : Hid (I2 w g)) (HT : Hid (RD w gt 0 2 one2)) :
    Calls Try.prog 16 #[.slice (some ⟨gt, 0, none⟩) 2 2, .func (.func 17) #[] #[.pointer (some ⟨bb, 0, none⟩), .pointer (some ⟨bn, 0, none⟩)]] w fun e w' => e = .returned (.complex .f64 4611686018427387904 0) ∧ Hid (Up w w') := by
  refine (t16 17 gt 1 2 _ one2 (fun _ => some 4607182418800017408) (fun _ => some 0) w (by omega) (by omega) (by omega) HT.out eg17 fun j hj w2 hu => ?_).mono ?_
  · rw [← unit02.1, ← unit02.2]
    exact t17 bb bn g j w2 (cell_up h1 hu) (cell_up h2 hu) (HI.out.up hu) hj
  · rintro e w' ⟨r, s, rfl, hr, hs, hu⟩
    have h3 := hr.out.trans ans_sum.1
    have h4 := hs.out.trans ans_sum.2
    rw [of_ab h3, of_ab h4]
    exact ⟨rfl, hu⟩
theorem w16b {w w1 : World} {bn g gt : Nat} (q : w1.cell? ⟨bn, 0, none⟩ = some (.int .i64 2)) (HI : Hid (I2 w1 g)) (HT : Hid (RD w gt 0 2 one2)) (HU : Hid (Up (w.alloc (.cells #[.int .i64 2] 3)) w1)) :
    Calls Try.prog 16 #[.slice (some ⟨gt, 0, none⟩) 2 2, .func (.func 17) #[] #[.pointer (some ⟨w1.heap.size, 0, none⟩), .pointer (some ⟨bn, 0, none⟩)]] (w1.alloc (.cells #[.slice (some ⟨g, 0, none⟩) 2 2] 50)) fun e w' => e = .returned (.complex .f64 4611686018427387904 0) ∧ Hid (Up w w') := by
  have u : Up w (w1.alloc (.cells #[.slice (some ⟨g, 0, none⟩) 2 2] 50)) := ((Up.alloc _ _).trans HU.out).trans (Up.alloc _ _)
  refine (w16a (g := g) (gt := gt) (by rw [cell_of_row _ _ _ _ _ _ (heap_alloc_last _ _)]; rfl) (cell_up q (Up.alloc _ _)) (HI.out.up (Up.alloc _ _)) (HT.out.up u)).mono ?_
  rintro e w' ⟨rfl, hu⟩
  exact ⟨rfl, u.trans hu.out⟩
set_option maxHeartbeats 1000000 in
theorem t10 {w : World} {gt : Nat} (hT : RD w gt 0 2 one2) : Calls Try.prog 10 #[.slice (some ⟨gt, 0, none⟩) 2 2, .int .i64 0, .int .i64 2] w fun e w' => e = .returned (.complex .f64 4611686018427387904 0) ∧ Hid (Up w w') := by
  have HT : Hid (RD w gt 0 2 one2) := hT
  clear hT
  have cb : Hid (∀ w1, Up (w.alloc (.cells #[.int .i64 2] 3)) w1 → w1.cell? ⟨w.heap.size, 0, none⟩ = some (.int .i64 2)) := fun w1 hu => cell_up (by rw [cell_of_row _ _ _ _ _ _ (heap_alloc_last _ _)]; rfl) hu
  go_enter Try.func10, Try.ntmps10
  go_wp2_with (first
    | (go_at_call 15; (with_reducible refine (t15 _).mono ?_); rintro e w1 ⟨g, rfl, HI, HU⟩; have q := cb.out _ HU.out)
    | (go_at_call 16; (with_reducible refine (w16b q HI HT HU).mono ?_); rintro e w2 ⟨rfl, U2⟩))
  go_ret
  exact ⟨rfl, U2⟩
end Go.Proofs.Ytdpogojhpfejjaa
