/- Dwell: Plots, at the statement's own setup. -/
import Derived.Test.YtflngnnoibkkoaaGreatEm
import Derived.Test.YtflngnnoibkkoaaGreatTb
namespace Go.Proofs.YtflngnnoibkkoaaGreat
open Go.ChangeShapes Go.WideShapes Go.ChangeAt Go.RowKit Go.Fl Ieee
set_option maxRecDepth 200000
set_option maxHeartbeats 8000000
attribute [local go_sem] run_store_float run_store_complex run_store_fn call34 call33 run_neg fold_eq fold_ne fold_lt fold_gt abs_eq

theorem info100b : (Tryz.prog.info? 100).map (fun i => (i.zero.map (fun z => z.cells.size), i.size, i.bytes)) = some (some 1, 1, 8) := by kernel_rfl
theorem info100 : ∃ i z, Tryz.prog.info? 100 = some i ∧ i.zero = some z ∧ z.cells.size = 1 ∧ i.size = 1 ∧ i.bytes = 8 := by
  have h := info100b
  cases hi : Tryz.prog.info? 100 with
  | none => rw [hi] at h; cases h
  | some i =>
    rw [hi] at h
    simp only [Option.map_some, Option.some.injEq, Prod.mk.injEq] at h
    obtain ⟨h1, h2, h3⟩ := h
    cases hz : i.zero with
    | none => rw [hz] at h1; cases h1
    | some z =>
      rw [hz] at h1
      simp only [Option.map_some, Option.some.injEq] at h1
      exact ⟨i, z, rfl, hz, h1, h2, h3⟩
theorem ck_st : stE 4621819117588971520 4602678819172646912 4652007308841189376 16 4 3 0 0 1 4 0 4620693217682128896 0 = 0 := by decide +kernel
section
variable {W : World} {wb b0 : Nat}
theorem kpP {w1 w2 : World} (h : Hid (But wb W w1) ∧ w1.cell? ⟨b0, 0, none⟩ = some (.float .f64 4621819117588971520) ∧ w1.cell? ⟨b0, 1, none⟩ = some (.float .f64 4602678819172646912) ∧ w1.cell? ⟨b0, 2, none⟩ = some (.float .f64 4652007308841189376) ∧ w1.cell? ⟨b0, 3, none⟩ = some (.int .i64 16) ∧ w1.cell? ⟨b0, 4, none⟩ = some (.int .i64 4) ∧ w1.cell? ⟨b0, 5, none⟩ = some (.int .i64 3) ∧ w1.cell? ⟨b0, 6, none⟩ = some (.int .i8 0) ∧ w1.cell? ⟨b0, 7, none⟩ = some (.int .i64 0) ∧ w1.cell? ⟨b0, 8, none⟩ = some (.int .i8 0) ∧ w1.cell? ⟨b0, 9, none⟩ = some (.int .i64 1) ∧ w1.cell? ⟨b0, 10, none⟩ = some (.int .i64 4) ∧ w1.cell? ⟨b0, 11, none⟩ = some (.int .i64 0) ∧ w1.cell? ⟨b0, 12, none⟩ = some (.float .f64 4620693217682128896) ∧ w1.cell? ⟨b0, 13, none⟩ = some (.float .f64 0)) (hu : Up w1 w2) : Hid (But wb W w2) ∧ w2.cell? ⟨b0, 0, none⟩ = some (.float .f64 4621819117588971520) ∧ w2.cell? ⟨b0, 1, none⟩ = some (.float .f64 4602678819172646912) ∧ w2.cell? ⟨b0, 2, none⟩ = some (.float .f64 4652007308841189376) ∧ w2.cell? ⟨b0, 3, none⟩ = some (.int .i64 16) ∧ w2.cell? ⟨b0, 4, none⟩ = some (.int .i64 4) ∧ w2.cell? ⟨b0, 5, none⟩ = some (.int .i64 3) ∧ w2.cell? ⟨b0, 6, none⟩ = some (.int .i8 0) ∧ w2.cell? ⟨b0, 7, none⟩ = some (.int .i64 0) ∧ w2.cell? ⟨b0, 8, none⟩ = some (.int .i8 0) ∧ w2.cell? ⟨b0, 9, none⟩ = some (.int .i64 1) ∧ w2.cell? ⟨b0, 10, none⟩ = some (.int .i64 4) ∧ w2.cell? ⟨b0, 11, none⟩ = some (.int .i64 0) ∧ w2.cell? ⟨b0, 12, none⟩ = some (.float .f64 4620693217682128896) ∧ w2.cell? ⟨b0, 13, none⟩ = some (.float .f64 0) := by
  obtain ⟨h0, h1, h2, h3, h4, h5, h6, h7, h8, h9, h10, h11, h12, h13, h14⟩ := h
  exact ⟨h0.out.trans (But.of_up hu), cell_up h1 hu, cell_up h2 hu, cell_up h3 hu, cell_up h4 hu, cell_up h5 hu, cell_up h6 hu, cell_up h7 hu, cell_up h8 hu, cell_up h9 hu, cell_up h10 hu, cell_up h11 hu, cell_up h12 hu, cell_up h13 hu, cell_up h14 hu⟩
theorem kbP {w1 w2 : World} (hn : b0 ≠ wb) (h : Hid (But wb W w1) ∧ w1.cell? ⟨b0, 0, none⟩ = some (.float .f64 4621819117588971520) ∧ w1.cell? ⟨b0, 1, none⟩ = some (.float .f64 4602678819172646912) ∧ w1.cell? ⟨b0, 2, none⟩ = some (.float .f64 4652007308841189376) ∧ w1.cell? ⟨b0, 3, none⟩ = some (.int .i64 16) ∧ w1.cell? ⟨b0, 4, none⟩ = some (.int .i64 4) ∧ w1.cell? ⟨b0, 5, none⟩ = some (.int .i64 3) ∧ w1.cell? ⟨b0, 6, none⟩ = some (.int .i8 0) ∧ w1.cell? ⟨b0, 7, none⟩ = some (.int .i64 0) ∧ w1.cell? ⟨b0, 8, none⟩ = some (.int .i8 0) ∧ w1.cell? ⟨b0, 9, none⟩ = some (.int .i64 1) ∧ w1.cell? ⟨b0, 10, none⟩ = some (.int .i64 4) ∧ w1.cell? ⟨b0, 11, none⟩ = some (.int .i64 0) ∧ w1.cell? ⟨b0, 12, none⟩ = some (.float .f64 4620693217682128896) ∧ w1.cell? ⟨b0, 13, none⟩ = some (.float .f64 0)) (hu : But wb w1 w2) : Hid (But wb W w2) ∧ w2.cell? ⟨b0, 0, none⟩ = some (.float .f64 4621819117588971520) ∧ w2.cell? ⟨b0, 1, none⟩ = some (.float .f64 4602678819172646912) ∧ w2.cell? ⟨b0, 2, none⟩ = some (.float .f64 4652007308841189376) ∧ w2.cell? ⟨b0, 3, none⟩ = some (.int .i64 16) ∧ w2.cell? ⟨b0, 4, none⟩ = some (.int .i64 4) ∧ w2.cell? ⟨b0, 5, none⟩ = some (.int .i64 3) ∧ w2.cell? ⟨b0, 6, none⟩ = some (.int .i8 0) ∧ w2.cell? ⟨b0, 7, none⟩ = some (.int .i64 0) ∧ w2.cell? ⟨b0, 8, none⟩ = some (.int .i8 0) ∧ w2.cell? ⟨b0, 9, none⟩ = some (.int .i64 1) ∧ w2.cell? ⟨b0, 10, none⟩ = some (.int .i64 4) ∧ w2.cell? ⟨b0, 11, none⟩ = some (.int .i64 0) ∧ w2.cell? ⟨b0, 12, none⟩ = some (.float .f64 4620693217682128896) ∧ w2.cell? ⟨b0, 13, none⟩ = some (.float .f64 0) := by
  obtain ⟨h0, h1, h2, h3, h4, h5, h6, h7, h8, h9, h10, h11, h12, h13, h14⟩ := h
  exact ⟨h0.out.trans hu, hu.cell hn h1, hu.cell hn h2, hu.cell hn h3, hu.cell hn h4, hu.cell hn h5, hu.cell hn h6, hu.cell hn h7, hu.cell hn h8, hu.cell hn h9, hu.cell hn h10, hu.cell hn h11, hu.cell hn h12, hu.cell hn h13, hu.cell hn h14⟩
end
/-- What stands when the two rows of functions are one. -/
theorem steps_own {w1 : World} {sq cq b2 b3 bx bb bt nb : Nat} (h : w1.ownsRow nb 100 1 (.slice (some ⟨sq, 0, none⟩) 7 cq) 7 ([.func (.func 59) #[] #[.pointer (some ⟨b3, 0, none⟩)], .func (.func 61) #[] #[.pointer (some ⟨b2, 0, none⟩)], .func (.func 63) #[] #[.pointer (some ⟨b2, 0, none⟩)], .func (.func 66) #[] #[]] ++ [.func (.func 73) #[] #[.pointer (some ⟨bx, 0, none⟩)], .func (.func 75) #[] #[.pointer (some ⟨bx, 0, none⟩), .pointer (some ⟨bb, 0, none⟩), .pointer (some ⟨bt, 0, none⟩)], .func (.func 78) #[] #[]])) :
    (w1.cell? ⟨sq, 0, none⟩ = some (.func (.func 59) #[] #[.pointer (some ⟨b3, 0, none⟩)]) ∧ w1.cell? ⟨sq, 1, none⟩ = some (.func (.func 61) #[] #[.pointer (some ⟨b2, 0, none⟩)]) ∧ w1.cell? ⟨sq, 2, none⟩ = some (.func (.func 63) #[] #[.pointer (some ⟨b2, 0, none⟩)]) ∧ w1.cell? ⟨sq, 3, none⟩ = some (.func (.func 66) #[] #[])) ∧
    w1.cell? ⟨sq, 4, none⟩ = some (.func (.func 73) #[] #[.pointer (some ⟨bx, 0, none⟩)]) ∧ w1.cell? ⟨sq, 5, none⟩ = some (.func (.func 75) #[] #[.pointer (some ⟨bx, 0, none⟩), .pointer (some ⟨bb, 0, none⟩), .pointer (some ⟨bt, 0, none⟩)]) ∧ w1.cell? ⟨sq, 6, none⟩ = some (.func (.func 78) #[] #[]) :=
  ⟨⟨own_cell h rfl, own_cell h rfl, own_cell h rfl, own_cell h rfl⟩, own_cell h rfl, own_cell h rfl, own_cell h rfl⟩
theorem kgP {W w1 w2 : World} {wb b0 sg : Nat} (hn : b0 ≠ sg) (h : Hid (But wb W w1) ∧ w1.cell? ⟨b0, 0, none⟩ = some (.float .f64 4621819117588971520) ∧ w1.cell? ⟨b0, 1, none⟩ = some (.float .f64 4602678819172646912) ∧ w1.cell? ⟨b0, 2, none⟩ = some (.float .f64 4652007308841189376) ∧ w1.cell? ⟨b0, 3, none⟩ = some (.int .i64 16) ∧ w1.cell? ⟨b0, 4, none⟩ = some (.int .i64 4) ∧ w1.cell? ⟨b0, 5, none⟩ = some (.int .i64 3) ∧ w1.cell? ⟨b0, 6, none⟩ = some (.int .i8 0) ∧ w1.cell? ⟨b0, 7, none⟩ = some (.int .i64 0) ∧ w1.cell? ⟨b0, 8, none⟩ = some (.int .i8 0) ∧ w1.cell? ⟨b0, 9, none⟩ = some (.int .i64 1) ∧ w1.cell? ⟨b0, 10, none⟩ = some (.int .i64 4) ∧ w1.cell? ⟨b0, 11, none⟩ = some (.int .i64 0) ∧ w1.cell? ⟨b0, 12, none⟩ = some (.float .f64 4620693217682128896) ∧ w1.cell? ⟨b0, 13, none⟩ = some (.float .f64 0)) (hu : But sg w1 w2) (hB : But wb W w2) : Hid (But wb W w2) ∧ w2.cell? ⟨b0, 0, none⟩ = some (.float .f64 4621819117588971520) ∧ w2.cell? ⟨b0, 1, none⟩ = some (.float .f64 4602678819172646912) ∧ w2.cell? ⟨b0, 2, none⟩ = some (.float .f64 4652007308841189376) ∧ w2.cell? ⟨b0, 3, none⟩ = some (.int .i64 16) ∧ w2.cell? ⟨b0, 4, none⟩ = some (.int .i64 4) ∧ w2.cell? ⟨b0, 5, none⟩ = some (.int .i64 3) ∧ w2.cell? ⟨b0, 6, none⟩ = some (.int .i8 0) ∧ w2.cell? ⟨b0, 7, none⟩ = some (.int .i64 0) ∧ w2.cell? ⟨b0, 8, none⟩ = some (.int .i8 0) ∧ w2.cell? ⟨b0, 9, none⟩ = some (.int .i64 1) ∧ w2.cell? ⟨b0, 10, none⟩ = some (.int .i64 4) ∧ w2.cell? ⟨b0, 11, none⟩ = some (.int .i64 0) ∧ w2.cell? ⟨b0, 12, none⟩ = some (.float .f64 4620693217682128896) ∧ w2.cell? ⟨b0, 13, none⟩ = some (.float .f64 0) := by
  obtain ⟨h0, h1, h2, h3, h4, h5, h6, h7, h8, h9, h10, h11, h12, h13, h14⟩ := h
  exact ⟨hB, hu.cell hn h1, hu.cell hn h2, hu.cell hn h3, hu.cell hn h4, hu.cell hn h5, hu.cell hn h6, hu.cell hn h7, hu.cell hn h8, hu.cell hn h9, hu.cell hn h10, hu.cell hn h11, hu.cell hn h12, hu.cell hn h13, hu.cell hn h14⟩
theorem news_own {w : World} {b g n c : Nat} {t : TypeId} {L : List Value} (h : w.ownsRow b t 1 (.slice (some ⟨g, 0, none⟩) n c) n L) : ∀ j u, L[j]? = some u → w.cell? ((⟨g, 0, none⟩ : Addr).add j) = some u := fun j u hj => by
  have e : (⟨g, 0, none⟩ : Addr).add j = ⟨g, j, none⟩ := by unfold Addr.add; split <;> simp_all
  rw [e]
  exact own_cell h hj
theorem funcs_one (bx bb bt : Nat) : ∀ u ∈ ([.func (.func 73) #[] #[.pointer (some ⟨bx, 0, none⟩)], .func (.func 75) #[] #[.pointer (some ⟨bx, 0, none⟩), .pointer (some ⟨bb, 0, none⟩), .pointer (some ⟨bt, 0, none⟩)], .func (.func 78) #[] #[]] : List Value), u.oneCell' = true := by
  intro u hu
  simp at hu
  rcases hu with rfl | rfl | rfl <;> rfl
theorem own_lo {w : World} {b g n c : Nat} {t : TypeId} {L : List Value} (h : w.ownsRow b t 1 (.slice (some ⟨g, 0, none⟩) n c) n L) : b ≤ g := by
  obtain ⟨-, h0 | ⟨g', cap, cur, e, h1, -⟩⟩ := h
  · cases h0.1
  · simp only [Value.slice.injEq, Option.some.injEq, Addr.mk.injEq] at e
    obtain ⟨⟨rfl, -⟩, -, -⟩ := e
    exact h1
theorem pl_ne {a b c d e : Nat} (h1 : Hid (a < b)) (h2 : Hid (b < c)) (h3 : Hid (c ≤ d ∧ d < e)) : a ≠ d := by
  have := h1.out
  have := h2.out
  have := h3.out.1
  omega
theorem pl_ne2 {a b : Nat} (h1 : Hid (a < b)) : a ≠ b := Nat.ne_of_lt h1.out
/-- Both packs of facts, where the steps are taken. -/
theorem pl_mk {w w1 W w2 w3 w4 : World} {wb sg b2 b3 A cc cp pg s3 bx bb bt sq cq br tm : Nat} {P : Nat → Option Addr} {C G O : Nat → Nat} {d : List (Nat × Nat)}
    (HT : Hid (TI w A 4 16 P C G O (fun _ g => rowK[g]!) ∧ 4 ≤ cc)) (HTF : Hid ((ab tm = some tm ∧ fin (ab tm) = true) ∧ (br < 2 ^ 64 ∧ tm < 2 ^ 64))) (HV : Hid (CRow (w.alloc (.cells #[.float .f64 4621819117588971520, .float .f64 4602678819172646912, .float .f64 4652007308841189376, .int .i64 16, .int .i64 4, .int .i64 3, .int .i8 0, .int .i64 0, .int .i8 0, .int .i64 1, .int .i64 4, .int .i64 0, .float .f64 4620693217682128896, .float .f64 0] 27)).heap.size w1 (.slice (some ⟨pg, 0, none⟩) 4 cp) d)) (HD : Hid (d.map ab2 = codeL 3)) (HU0 : Hid (Up w w1)) (HWB : Hid (w1.heap.size = wb)) (HUX : Hid (Up w1 W)) (HWL : Hid (wb < W.heap.size))
    (HS2 : Hid (SB w2 b2 4621819117588971520 4602678819172646912 4652007308841189376 16 4 3 0 0 0 1 4 0 4620693217682128896 0)) (HB3 : Hid (w2.cell? ⟨b3, 0, none⟩ = some (.slice (some ⟨pg, 0, none⟩) 4 cp))) (HU2 : Hid (Up W w2)) (HLE : Hid (W.heap.size ≤ sg ∧ W.heap.size ≤ b2 ∧ W.heap.size ≤ b3 ∧ sg ≠ b2 ∧ sg ≠ b3)) (HSG : Hid (sg < w2.heap.size))
    (HS3 : Hid (SB w3 bx 4621819117588971520 4602678819172646912 4652007308841189376 16 4 3 0 0 0 1 4 0 4620693217682128896 0)) (HB4 : Hid (w3.cell? ⟨bb, 0, none⟩ = some (.float .f64 br) ∧ w3.cell? ⟨bt, 0, none⟩ = some (.float .f64 tm))) (HU3 : Hid (Up w2 w3)) (HL3 : Hid (w2.heap.size ≤ s3 ∧ w2.heap.size ≤ bx ∧ w2.heap.size ≤ bb ∧ w2.heap.size ≤ bt))
    (HO4 : Hid (w4.ownsRow W.heap.size 100 1 (.slice (some ⟨sq, 0, none⟩) 7 cq) 7 ([.func (.func 59) #[] #[.pointer (some ⟨b3, 0, none⟩)], .func (.func 61) #[] #[.pointer (some ⟨b2, 0, none⟩)], .func (.func 63) #[] #[.pointer (some ⟨b2, 0, none⟩)], .func (.func 66) #[] #[]] ++ [.func (.func 73) #[] #[.pointer (some ⟨bx, 0, none⟩)], .func (.func 75) #[] #[.pointer (some ⟨bx, 0, none⟩), .pointer (some ⟨bb, 0, none⟩), .pointer (some ⟨bt, 0, none⟩)], .func (.func 78) #[] #[]]))) (HG4 : Hid (But sg w3 w4)) (HU4 : Hid (Up W w4)) :
    Hid (TcW w4 wb sq b2 b3 A cc 4 16 4 pg cp 0 (fun _ g => rowK[g]!) (fun i => codeK[i]!)) ∧ Hid (TpW w4 wb sq bx bb bt br tm) := by
  have hnl : (codeL 3).length = 4 := by decide +kernel
  obtain ⟨f4, f5, f6, f7⟩ := steps_own HO4.out
  obtain ⟨l1, l2, l3, l4, l5⟩ := HLE.out
  obtain ⟨m1, m2, m3, m4⟩ := HL3.out
  have hW := HWL.out
  have hsg := HSG.out
  have lo := own_lo HO4.out
  have u2 := HU2.out.size
  have u4 := HU4.out.size
  refine ⟨?_, ⟨f5, f6, f7, HS3.out.but HG4.out (by omega), HG4.out.cell (by omega) HB4.out.1, HG4.out.cell (by omega) HB4.out.2, ⟨by omega, by omega, by omega, by omega⟩, HTF.out.1, HTF.out.2⟩⟩
  have e := pulse_k ⟨d, HD.out, fun _ => rfl⟩
  have z := tcw_of (d := d) (pg := pg) (cp := cp) (win := 0) ck_st rfl (n := 4) (m := 16) rfl rfl HT.out.1 HT.out.2 (by rw [hnl]; exact HV.out) HU0.out HWB.out.symm (HUX.out.trans HU4.out) (by omega) ⟨by omega, by omega, by omega⟩ f4 ((HS2.out.up HU3.out).but HG4.out (by omega)) (by rw [hnl]; exact HG4.out.cell (by omega) (cell_up HB3.out HU3.out))
  rw [hnl] at z
  have e' : (fun i => d[i]!) = (fun i => codeK[i]!) := e
  rw [e'] at z
  exact z
def PlR (w : World) (br tm : Nat) (e : Ending) (w' : World) : Prop := ∃ g, e = .returned (.tuple #[.slice (some ⟨g, 0, none⟩) 1 1, .int .i64 0]) ∧ Hid (Pl.P5 w' g 0 (oneK br tm)) ∧ Hid (Up w w')
theorem t24 {w : World} {A cc br tm : Nat} {P : Nat → Option Addr} {C G O : Nat → Nat} (hT : TI w A 4 16 P C G O (fun _ g => rowK[g]!)) (hc : 4 ≤ cc) (hbr : fin (ab br) = true) (htm : ab tm = some tm ∧ fin (ab tm) = true) (hft : br < 2 ^ 64 ∧ tm < 2 ^ 64) :
    Calls Tryz.prog 24 #[.agg #[.float .f64 4621819117588971520, .float .f64 4602678819172646912, .float .f64 4652007308841189376, .int .i64 16, .int .i64 4, .int .i64 3, .int .i8 0, .int .i64 0, .int .i8 0, .int .i64 1, .int .i64 4, .int .i64 0, .float .f64 4620693217682128896, .float .f64 0], .slice (some ⟨A, 0, none⟩) 4 cc, .float .f64 br, .float .f64 tm] w (PlR w br tm) := by
  have C30 : Hid (∀ V, Up w V → Calls Tryz.prog 30 #[.agg #[.float .f64 4621819117588971520, .float .f64 4602678819172646912, .float .f64 4652007308841189376, .int .i64 16, .int .i64 4, .int .i64 3, .int .i8 0, .int .i64 0, .int .i8 0, .int .i64 1, .int .i64 4, .int .i64 0, .float .f64 4620693217682128896, .float .f64 0], .slice (some ⟨A, 0, none⟩) 4 cc] V (TkR V 3)) := fun V hV => t30 (n := 4) (m := 16) ck_st rfl rfl (hT.tb.up hV)
  have HT : Hid (TI w A 4 16 P C G O (fun _ g => rowK[g]!) ∧ 4 ≤ cc) := ⟨hT, hc⟩
  have C41b : Hid (∀ V, Calls Tryz.prog 41 #[.float .f64 br] V fun e w' => e = .returned (.bool true) ∧ w' = V) := fun V => hbr ▸ t41 br V
  have C41t : Hid (∀ V, Calls Tryz.prog 41 #[.float .f64 tm] V fun e w' => e = .returned (.bool true) ∧ w' = V) := fun V => htm.2 ▸ t41 tm V
  have HTF : Hid ((ab tm = some tm ∧ fin (ab tm) = true) ∧ (br < 2 ^ 64 ∧ tm < 2 ^ 64)) := ⟨htm, hft⟩
  have HS0 : Hid (SB (w.alloc (.cells #[.float .f64 4621819117588971520, .float .f64 4602678819172646912, .float .f64 4652007308841189376, .int .i64 16, .int .i64 4, .int .i64 3, .int .i8 0, .int .i64 0, .int .i8 0, .int .i64 1, .int .i64 4, .int .i64 0, .float .f64 4620693217682128896, .float .f64 0] 27)) w.heap.size 4621819117588971520 4602678819172646912 4652007308841189376 16 4 3 0 0 0 1 4 0 4620693217682128896 0) := SB.new w _ _ _ _ _ _ _ _ _ _ _ _ _ _
  have HS00 := HS0.out
  obtain ⟨s0, s1, s2, s3, s4, s5, s6, s7, s8, s9, s10, s11, s12, s13⟩ := HS00
  clear hT hc hbr htm hft
  have hnl : (codeL 3).length = 4 := by decide +kernel
  unfold TkR at C30
  rw [hnl] at C30
  go_enter Tryz.func24, Tryz.ntmps24
  go_upto_region 7 with (first
    | (go_at_call 30; (with_reducible refine (C30.out _ (Up.alloc _ _)).mono ?_); rintro e w1 ⟨p, cp, d, rfl, HV, HU1, HD⟩; clear s0 s1 s2 s3 s4 s5 s6 s7 s8 s9 s10 s11 s12 s13; (have HW1 := ws_new w1 (.slice (some ⟨A, 0, none⟩) 4 cc)); (have HSW : Hid (WS (w1.alloc (.cells #[.slice (some ⟨A, 0, none⟩) 4 cc, .slice none 0 0, .slice none 0 0, .slice none 0 0] 72)) w1.heap.size (.slice (some ⟨A, 0, none⟩) 4 cc) (.slice none 0 0) (.slice none 0 0) (.slice none 0 0)) := HW1); clear HW1)
    | (go_at_call 41; (with_reducible refine (C41b.out _).mono ?_); rintro e w1' ⟨rfl, rfl⟩)
    | (go_at_call 41; (with_reducible refine (C41t.out _).mono ?_); rintro e w1' ⟨rfl, rfl⟩))
  have HS9 : Hid (SB (w1'.alloc (.cells #[.slice (some ⟨A, 0, none⟩) 4 cc, .slice none 0 0, .slice none 0 0, .slice none 0 0] 72)) w.heap.size 4621819117588971520 4602678819172646912 4652007308841189376 16 4 3 0 0 0 1 4 0 4620693217682128896 0) := HS0.out.up (HU1.out.trans (Up.alloc _ _))
  have HUA : Hid (Up w w1') := (Up.alloc _ _).trans HU1.out
  have HUX : Hid (Up w1' (w1'.alloc (.cells #[.slice (some ⟨A, 0, none⟩) 4 cc, .slice none 0 0, .slice none 0 0, .slice none 0 0] 72))) := Up.alloc _ _
  obtain ⟨p0, c0, hp0, hp1⟩ := own_form HV.out
  obtain ⟨pg, rfl⟩ : ∃ g, p = some ⟨g, 0, none⟩ := by
    have hl : d.length = 4 := by rw [← hnl, ← HD.out, List.length_map]
    obtain ⟨g, hg⟩ := hp1 (by omega)
    simp only [Value.slice.injEq] at hp0
    exact ⟨g, hp0.1.trans hg⟩
  clear hp0 hp1
  have HWL : Hid (w1'.heap.size < (w1'.alloc (.cells #[.slice (some ⟨A, 0, none⟩) 4 cc, .slice none 0 0, .slice none 0 0, .slice none 0 0] 72)).heap.size) := by show _ < _; simp
  have HBW : Hid (w.heap.size < w1'.heap.size) := by
    have a := HU1.out.size
    have : (w.alloc (.cells #[.float .f64 4621819117588971520, .float .f64 4602678819172646912, .float .f64 4652007308841189376, .int .i64 16, .int .i64 4, .int .i64 3, .int .i8 0, .int .i64 0, .int .i8 0, .int .i64 1, .int .i64 4, .int .i64 0, .float .f64 4620693217682128896, .float .f64 0] 27)).heap.size = w.heap.size + 1 := by simp
    show _ < _
    omega
  generalize w1'.alloc (.cells #[.slice (some ⟨A, 0, none⟩) 4 cc, .slice none 0 0, .slice none 0 0, .slice none 0 0] 72) = W at *
  obtain ⟨wb, hwb⟩ : ∃ wb, w1'.heap.size = wb := ⟨_, rfl⟩
  have HWB : Hid (w1'.heap.size = wb) := hwb
  rw [hwb]
  replace HWL : Hid (wb < W.heap.size) := hwb ▸ HWL
  replace HBW : Hid (w.heap.size < wb) := hwb ▸ HBW
  replace HSW : Hid (WS W wb (.slice (some ⟨A, 0, none⟩) 4 cc) (.slice none 0 0) (.slice none 0 0) (.slice none 0 0)) := hwb ▸ HSW
  clear hwb C30 C41b C41t HS0
  obtain ⟨i0, zv, hi0, hz0, hz1, hz2, hz3⟩ := info100
  have HK0 : Hid (Hid (But wb W W) ∧ W.cell? ⟨w.heap.size, 0, none⟩ = some (.float .f64 4621819117588971520) ∧ W.cell? ⟨w.heap.size, 1, none⟩ = some (.float .f64 4602678819172646912) ∧ W.cell? ⟨w.heap.size, 2, none⟩ = some (.float .f64 4652007308841189376) ∧ W.cell? ⟨w.heap.size, 3, none⟩ = some (.int .i64 16) ∧ W.cell? ⟨w.heap.size, 4, none⟩ = some (.int .i64 4) ∧ W.cell? ⟨w.heap.size, 5, none⟩ = some (.int .i64 3) ∧ W.cell? ⟨w.heap.size, 6, none⟩ = some (.int .i8 0) ∧ W.cell? ⟨w.heap.size, 7, none⟩ = some (.int .i64 0) ∧ W.cell? ⟨w.heap.size, 8, none⟩ = some (.int .i8 0) ∧ W.cell? ⟨w.heap.size, 9, none⟩ = some (.int .i64 1) ∧ W.cell? ⟨w.heap.size, 10, none⟩ = some (.int .i64 4) ∧ W.cell? ⟨w.heap.size, 11, none⟩ = some (.int .i64 0) ∧ W.cell? ⟨w.heap.size, 12, none⟩ = some (.float .f64 4620693217682128896) ∧ W.cell? ⟨w.heap.size, 13, none⟩ = some (.float .f64 0)) := ⟨But.refl _ _, HS9.out.s0, HS9.out.s1, HS9.out.s2, HS9.out.s3, HS9.out.s4, HS9.out.s5, HS9.out.s6, HS9.out.s7, HS9.out.s8, HS9.out.s9, HS9.out.s10, HS9.out.s11, HS9.out.s12, HS9.out.s13⟩
  go_region_held3 (fun w' => Hid (But wb W w') ∧ w'.cell? ⟨w.heap.size, 0, none⟩ = some (.float .f64 4621819117588971520) ∧ w'.cell? ⟨w.heap.size, 1, none⟩ = some (.float .f64 4602678819172646912) ∧ w'.cell? ⟨w.heap.size, 2, none⟩ = some (.float .f64 4652007308841189376) ∧ w'.cell? ⟨w.heap.size, 3, none⟩ = some (.int .i64 16) ∧ w'.cell? ⟨w.heap.size, 4, none⟩ = some (.int .i64 4) ∧ w'.cell? ⟨w.heap.size, 5, none⟩ = some (.int .i64 3) ∧ w'.cell? ⟨w.heap.size, 6, none⟩ = some (.int .i8 0) ∧ w'.cell? ⟨w.heap.size, 7, none⟩ = some (.int .i64 0) ∧ w'.cell? ⟨w.heap.size, 8, none⟩ = some (.int .i8 0) ∧ w'.cell? ⟨w.heap.size, 9, none⟩ = some (.int .i64 1) ∧ w'.cell? ⟨w.heap.size, 10, none⟩ = some (.int .i64 4) ∧ w'.cell? ⟨w.heap.size, 11, none⟩ = some (.int .i64 0) ∧ w'.cell? ⟨w.heap.size, 12, none⟩ = some (.float .f64 4620693217682128896) ∧ w'.cell? ⟨w.heap.size, 13, none⟩ = some (.float .f64 0))
    (first | (with_reducible exact kpP HK0.out (Up.drew _)) | (with_reducible exact HF5.out) | (with_reducible exact HF4.out) | (with_reducible exact HF3.out) | (with_reducible exact HF2.out) | (trace_state; fail))
    (first
      | (go_at_call 32; (with_reducible refine (t32o _ _ _ _).mono ?_); rintro e w2 ⟨sg, b2, b3, rfl, HO2, HS2, HB3, HU2, HLE⟩; (have HF2 : Hid _ := kpP (‹Hid (But wb W _) ∧ _›) HU2.out))
      | (go_at_call 47; (with_reducible refine (t47 br tm _).mono ?_); rintro e w3 ⟨s3, bx, bb, bt, rfl, HO3, HS3, HB4, HU3, HL3⟩; (have HF3 : Hid _ := kpP (‹Hid (But wb W _) ∧ _›) HU3.out); (have hown := owns_up HO2.out HU3.out); (have hnews := news_own HO3.out); (have HUW3 : Hid (Up W w3) := ((Up.drew W).trans HU2.out).trans HU3.out); (have hsz : W.heap.size ≤ w3.heap.size := HUW3.out.size))
      | ((refine step_append_lies _ (by rfl) _ _ _ (by rfl) W.heap.size 100 i0 zv 1 8 Tryz.underlying74 hi0 hz0 hz2 hz3 hz1 (by omega) (.slice (some ⟨sg, 0, none⟩) 4 4) 4 _ (by rfl) hown ⟨s3, 0, none⟩ 3 3 _ (by rfl) (by rfl) hnews (funcs_one bx bb bt) (by omega) (by unfold maxLen; omega) (by omega) hsz w3.heap.size rfl ?_); intro sq cq w4 hown4 hgr4 _ _
         have HG4 : Hid (But sg w3 w4) := hgr4
         have HLS : Hid (W.heap.size ≤ sg ∧ sg < w2.heap.size) := ⟨HLE.out.1, (World.ownsRow.lt HO2.out sg rfl).2⟩
         have HUW4 : Hid (Up W w4) := RowKit.Below.grown HUW3.out hgr4 hsz (fun x hx => by cases hx; exact HLS.out.1)
         have HF4 : Hid _ := kgP (show w.heap.size ≠ sg from pl_ne HBW HWL HLS) HF3.out HG4.out (But.of_up HUW4.out)
         have HPK := pl_mk (w := w) (w1 := w1') (W := W) (wb := wb) HT HTF HV HD HUA HWB HUX HWL HS2 HB3 ((Up.drew W).trans HU2.out) HLE HLS.out.2 HS3 HB4 HU3 HL3 hown4 HG4 HUW4
         clear hown hnews hown4 hgr4 HV HD)
      | (go_at_call 31; refine (run7 HPK.1.out HPK.2.out (HSW.out.up HUW4.out) _).mono ?_; rintro e w5 ⟨rfl, HIP⟩; (have HF5 : Hid _ := kbP (show w.heap.size ≠ wb from pl_ne2 HBW) HF4.out HIP.out.1)))
  obtain ⟨hb5, v0, v1, v2, g, r1, r2, r3⟩ := HIP.out
  have y3 := r1.c3
  have HP5 : Hid (Pl.P5 w5 g 0 (oneK br tm)) := r2
  have HUE : Hid (Up w w5) := hb5.up ((HUA.out.trans HUX.out).trans HUW4.out) (Nat.le_of_lt HBW.out)
  clear r1 r2 r3 hb5 HIP HF2 HF3 HF4 HF5 HK0 HPK
  go_wp2_with fail
  go_ret2
  exact ⟨g, rfl, HP5, HUE⟩
end Go.Proofs.YtflngnnoibkkoaaGreat
/- Dwell: Make, at the statement's own setup and scene. -/
namespace Go.Proofs.YtflngnnoibkkoaaGreat
open Go.ChangeShapes Go.WideShapes Go.ChangeAt Go.RowKit Go.Fl Ieee
set_option maxRecDepth 200000
set_option maxHeartbeats 8000000
attribute [local go_sem] run_store_float run_store_complex run_store_fn call34 call33 run_neg fold_eq fold_ne fold_lt fold_gt abs_eq

theorem k20 (w : World) : Calls Tryz.prog 20 #[.agg #[.float .f64 4621819117588971520, .float .f64 4602678819172646912, .float .f64 4652007308841189376, .int .i64 16, .int .i64 4, .int .i64 3, .int .i8 0, .int .i64 0, .int .i8 0, .int .i64 1, .int .i64 4, .int .i64 0, .float .f64 4620693217682128896, .float .f64 0]] w (fun e w' => ∃ pg cp, e = .returned (.tuple #[.slice (some ⟨pg, 0, none⟩) 4 cp, .int .i64 0]) ∧ Hid (RD w' pg 0 4 (fun i => codeK[i]!)) ∧ Hid (Up w w')) :=
  (t20 4621819117588971520 4602678819172646912 4652007308841189376 16 4 3 0 0 0 1 4 0 4620693217682128896 0 w).mono fun e w' hR => by
    have hnl : (codeL 3).length = 4 := by decide +kernel
    rcases hR with ⟨h, -⟩ | ⟨-, p, cp, d, rfl, hV, hU, hD⟩
    · exact absurd ck_st h
    · have e : (fun i => d[i]!) = fun i => codeK[i]! := pulse_k ⟨d, hD.out, fun _ => rfl⟩
      have hl : d.length = 4 := by rw [← hnl, ← hD.out, List.length_map]
      rw [hnl] at hV ⊢
      obtain ⟨p0, c0, hp0, hp1⟩ := own_form hV.out
      obtain ⟨g, hg⟩ := hp1 (by omega)
      simp only [Value.slice.injEq] at hp0
      obtain rfl : p = some ⟨g, 0, none⟩ := hp0.1.trans hg
      refine ⟨g, cp, rfl, ?_, hU⟩
      rw [← e]
      intro j hj
      rw [Nat.zero_add]
      exact hV.out.cell (by omega)
def rowsK : List (Nat × Nat) := rowK ++ rowK ++ rowK ++ rowK
def tgK : Nat → Tg := fun _ => ⟨4632233691727265792, 0, 4607182418800017408, 0, 0⟩
theorem chk16 : checkF (ab 4621819117588971520) (ab 4602678819172646912) (ab 4652007308841189376) ((16 : Nat) : Int) ((4 : Nat) : Int) = 0 := by decide +kernel
theorem ck_rows : ∀ k, k < 4 → ∀ g, g < 16 → finalS ⟨4621819117588971520, 4602678819172646912, 4652007308841189376, 16, 4⟩ tgK 0 4 64 (fun i => ab2 (codeK[i]!)) 1 0 1 (k * 16 + g) = so rowsK[k * 16 + g]! := by decide +kernel
theorem k29 {w : World} {pg tg cp : Nat} (hp : RD w pg 0 4 (fun i => codeK[i]!)) (ht : TL w tg 1 tgK) : Calls Tryz.prog 29 #[.agg #[.float .f64 4621819117588971520, .float .f64 4602678819172646912, .float .f64 4652007308841189376, .int .i64 16, .int .i64 4], .slice (some ⟨pg, 0, none⟩) 4 cp, .slice (some ⟨tg, 0, none⟩) 1 1, .float .f64 0, .float .f64 0, .int .u64 1] w (KT w 4 16 rowsK) :=
  (row_ok (E := 16) (R := 4) (N := 64) (T := 1) (n := 4) (seed := 1) (f := tgK) (fp := fun i => codeK[i]!) chk16 rfl (by omega) (by decide +kernel) (by decide +kernel) (by decide +kernel) hp ht (fun _ => rfl) (fun i _ => (by decide +kernel : finT ⟨4632233691727265792, 0, 4607182418800017408, 0, 0⟩ = true))).mono fun _ _ h => h.known (Up.refl _) rowsK (by decide) ck_rows
theorem rows_at : ∀ k, k < 4 → ∀ g, g < 16 → rowsK[k * 16 + g]! = rowK[g]! := by decide +kernel
def MkR (w : World) (e : Ending) (w' : World) : Prop := ∃ A B, e = .returned (.tuple #[.slice (some ⟨A, 0, none⟩) 4 4, .int .i64 0]) ∧ Hid (TI w' A 4 16 (fun i => some ⟨B, i * 16, none⟩) (fun _ => 16) (fun _ => B) (fun i => i * 16) (fun _ g => rowK[g]!)) ∧ Hid (Up w w')
theorem t12 {w : World} {tg : Nat} (ht : TL w tg 1 tgK) : Calls Tryz.prog 12 #[.agg #[.float .f64 4621819117588971520, .float .f64 4602678819172646912, .float .f64 4652007308841189376, .int .i64 16, .int .i64 4, .int .i64 3, .int .i8 0, .int .i64 0, .int .i8 0, .int .i64 1, .int .i64 4, .int .i64 0, .float .f64 4620693217682128896, .float .f64 0], .slice (some ⟨tg, 0, none⟩) 1 1, .float .f64 0, .int .u64 1] w (MkR w) := by
  have HT : Hid (∀ V, Up w V → TL V tg 1 tgK) := fun V hV => ht.up hV
  have HS0 : Hid (SB (w.alloc (.cells #[.float .f64 4621819117588971520, .float .f64 4602678819172646912, .float .f64 4652007308841189376, .int .i64 16, .int .i64 4, .int .i64 3, .int .i8 0, .int .i64 0, .int .i8 0, .int .i64 1, .int .i64 4, .int .i64 0, .float .f64 4620693217682128896, .float .f64 0] 27)) w.heap.size 4621819117588971520 4602678819172646912 4652007308841189376 16 4 3 0 0 0 1 4 0 4620693217682128896 0) := SB.new w _ _ _ _ _ _ _ _ _ _ _ _ _ _
  have HS00 := HS0.out
  obtain ⟨s0, s1, s2, s3, s4, s5, s6, s7, s8, s9, s10, s11, s12, s13⟩ := HS00
  clear ht
  go_enter Tryz.func12, Tryz.ntmps12
  go_wp2_with (first
    | (go_at_call 20; (with_reducible refine (k20 _).mono ?_); rintro e w1 ⟨pg, cp, rfl, HR, HU1⟩; clear s0 s1 s2 s3 s4 s5 s6 s7 s8 s9 s10 s11 s12 s13; (have HS1 : Hid (SB w1 w.heap.size 4621819117588971520 4602678819172646912 4652007308841189376 16 4 3 0 0 0 1 4 0 4620693217682128896 0) := HS0.out.up HU1.out); (obtain ⟨s0, s1, s2, s3, s4, s5, s6, s7, s8, s9, s10, s11, s12, s13⟩ := HS1.out))
    | (go_at_call 29; (with_reducible refine (k29 HR.out (HT.out _ ((Up.alloc _ _).trans HU1.out))).mono ?_); rintro e w2 ⟨A, B, rfl, HTB, HRD, HU2⟩))
  go_ret2
  refine ⟨A, B, rfl, ⟨HTB.out, fun i hi hm => ⟨rfl, fun j hj => ?_⟩, fun _ _ => Nat.le_refl _⟩, ((Up.alloc _ _).trans HU1.out).trans HU2.out⟩
  have := HRD.out (i * 16 + j) (by omega)
  rw [Nat.zero_add] at this
  rw [this]
  show some (ce rowsK[i * 16 + j]!) = some (ce rowK[j]!)
  rw [rows_at i hi j hj]
end Go.Proofs.YtflngnnoibkkoaaGreat
