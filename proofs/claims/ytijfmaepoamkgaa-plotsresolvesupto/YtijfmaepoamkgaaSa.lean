/- Closed calls: what the law's own head asks of a few plots. -/
import Derived.Test.YtijfmaepoamkgaaRe
import Derived.Test.YtijfmaepoamkgaaPj
import Derived.Test.YtijfmaepoamkgaaNb
namespace Go.Proofs.Ytijfmaepoamkgaa
open Go.ChangeShapes Go.WideShapes Go.ChangeAt Go.RowKit Go.Fl Go.Sort
attribute [local go_sem] run_store_float call53 run_neg fold_eq fold_ne fold_lt fold_gt abs_eq

theorem ab_is {x b : Nat} (h : ab x = some b) : x = b := by
  unfold ab at h
  split at h
  · cases h
  · exact Option.some.inj h
theorem plt_is {x : Plt} {a b c d e : Nat} (h : x.ab = ⟨some a, some b, some c, some d, some e⟩) : x = ⟨a, b, c, d, e⟩ := by
  obtain ⟨x1, x2, x3, x4, x5⟩ := x
  unfold Plt.ab at h
  simp only [Pl5.mk.injEq] at h
  obtain ⟨h1, h2, h3, h4, h5⟩ := h
  rw [ab_is h1, ab_is h2, ab_is h3, ab_is h4, ab_is h5]
def bt (e : Int) : Bt := ⟨4621819117588971520, 4602678819172646912, 4652007308841189376, e, 4⟩
theorem size24 : (Try.prog.info? 24).map (·.size) = some 5 := by kernel_rfl
set_option maxRecDepth 20000 in
theorem t23 (e : Int) (w : World) : Calls Try.prog 23 #[.int .i64 e] w fun en w' => en = .returned (.agg (bC (bt e))) ∧ Hid (Gr w w') := by
  go_enter Try.func23, Try.ntmps23
  go_wp2
  exact bodyPost_ret (results_cell_row Try.results23 _ _ w.heap.size 24 _ (0, 0) _ rfl (heap_alloc_last _ _) Try.underlying24 rfl (by kernel_rfl)) rfl ⟨rfl, Gr.alloc _ _⟩
theorem one_closed : oneF 4621819117588971520 4602678819172646912 4652007308841189376 5 4 0 4612811918334230528 4621256167635550208 4613937818241073152 = (⟨some 4629137466983448576, some 9223372036854775808, some 4621256167635550208, some 0, some 4613937818241073152⟩, 0) := by kernel_rfl
def pK0 : Plt := ⟨4629137466983448576, 0, 4611686018427387904, 0, 0⟩
def pK1 : Plt := ⟨4622945017495814144, 0, 4607182418800017408, 0, 0⟩
def pK2 : Plt := ⟨4621819117588971520, 0, 4613937818241073152, 0, 0⟩
def pK (i : Nat) : Plt := if i = 0 then pK0 else if i = 1 then pK1 else pK2
theorem ord_closed : InOrd pK 3 [2, 0, 1] := ⟨by decide, by decide +kernel⟩
theorem mg_closed : mg pK 4617315517961601024 4607182418800017408 [2, 0, 1] = [(2, some 4616189618054758400), (0, some 4611686018427387904)] := by kernel_rfl
def bK (i : Nat) : Bt := if i = 0 then bt 5 else bt 7
def cK (i : Nat) : List Int := if i = 0 then [2, 0] else [3]
theorem res_closed : resC (fun i => (bK i).code) (fun i => (bK i).E) cK 2 0 40 = 0 ∧ resL 0 (fun i => (bK i).E) cK 2 40 = [10, 17] := ⟨by kernel_rfl, by kernel_rfl⟩
end Go.Proofs.Ytijfmaepoamkgaa
/- The law's own head: a few plots. -/
namespace Go.Proofs.Ytijfmaepoamkgaa
open Go.ChangeShapes Go.WideShapes Go.ChangeAt Go.RowKit Go.Fl Go.Sort
attribute [local go_sem] run_store_float call53 run_neg fold_eq fold_ne fold_lt fold_gt abs_eq

theorem w9 (w : World) : Calls Try.prog 9 #[.agg #[.float .f64 4621819117588971520, .float .f64 4602678819172646912, .float .f64 4652007308841189376, .int .i64 5, .int .i64 4], .agg #[.float .f64 0, .float .f64 4612811918334230528, .float .f64 4621256167635550208, .int .i64 0], .float .f64 4613937818241073152] w fun e w' => e = .returned (.tuple #[.agg #[.float .f64 4629137466983448576, .float .f64 9223372036854775808, .float .f64 4621256167635550208, .float .f64 0, .float .f64 4613937818241073152], .int .i64 0]) ∧ Hid (Up w w') := by
  have h := t9 4621819117588971520 4602678819172646912 4652007308841189376 5 4 0 4612811918334230528 4621256167635550208 0 4613937818241073152 w
  rw [one_closed] at h
  refine h.mono ?_
  rintro e w' ⟨x, rfl, hx, hu⟩
  rw [plt_is hx.out]
  exact ⟨rfl, hu⟩
def rowK : Array Value := #[.float .f64 4629137466983448576, .float .f64 0, .float .f64 4611686018427387904, .float .f64 0, .float .f64 0, .float .f64 4622945017495814144, .float .f64 0, .float .f64 4607182418800017408, .float .f64 0, .float .f64 0, .float .f64 4621819117588971520, .float .f64 0, .float .f64 4613937818241073152, .float .f64 0, .float .f64 0]
theorem pv_new (w : World) : PV (w.alloc (.cells rowK 28)) (some ⟨w.heap.size, 0, none⟩) 3 3 pK := by
  refine ⟨by omega, by omega, fun i hi => ?_, fun _ => ⟨w.heap.size, 0, rfl, fun i hi => ?_⟩⟩
  · rcases (show i = 0 ∨ i = 1 ∨ i = 2 by omega) with rfl | rfl | rfl <;> exact ⟨by decide, by decide, by decide, by decide, by decide⟩
  · rcases (show i = 0 ∨ i = 1 ∨ i = 2 by omega) with rfl | rfl | rfl <;> exact ⟨World.cell?_alloc_at _ _ _ _ rfl, World.cell?_alloc_at _ _ _ _ rfl, World.cell?_alloc_at _ _ _ _ rfl, World.cell?_alloc_at _ _ _ _ rfl, World.cell?_alloc_at _ _ _ _ rfl⟩
theorem w17 {W : World} {p : Option Addr} (h : PV W p 3 3 pK) : Calls Try.prog 17 #[.slice p 3 3] W fun e w' => ∃ g c, e = .returned (.slice (some ⟨g, 0, none⟩) 3 c) ∧ Hid (Up W w' ∧ w'.cell? ⟨g, 0, none⟩ = some (.int .i64 2) ∧ w'.cell? ⟨g, 1, none⟩ = some (.int .i64 0)) := by
  refine (t17 h).mono ?_
  rintro e w' ⟨p', c, o, rfl, H⟩
  obtain ⟨h1, h2, h3⟩ := H.out
  have ho := h1.uniq ord_closed
  subst ho
  obtain ⟨p2, c2, e1, e2⟩ := OR.form h2
  obtain ⟨g, hg⟩ := e2 (by decide)
  simp only [Value.slice.injEq] at e1
  obtain ⟨rfl, _, rfl⟩ := e1
  subst hg
  exact ⟨g, _, rfl, h3, OR.cell h2 (i := 0) (by decide), OR.cell h2 (i := 1) (by decide)⟩
theorem w20 {W : World} {p : Option Addr} (h : PV W p 3 3 pK) : Calls Try.prog 20 #[.slice p 3 3, .float .f64 4617315517961601024, .float .f64 4607182418800017408] W fun e w' => ∃ g c, e = .returned (.slice (some ⟨g, 0, none⟩) 2 c) ∧ Hid (Up W w' ∧ w'.cell? ⟨g, 2, none⟩ = some (.float .f64 4616189618054758400) ∧ w'.cell? ⟨g, 5, none⟩ = some (.float .f64 4629137466983448576)) := by
  refine (t20 h).mono ?_
  rintro e w' ⟨p', c, o, D, rfl, H⟩
  obtain ⟨h1, h2, h3, h4⟩ := H.out
  have ho := h1.uniq ord_closed
  subst ho
  rw [mg_closed] at h2
  have hl : D.length = 2 := h2.len
  have a0 := h2.all 0 (by decide)
  have a1 := h2.all 1 (by decide)
  obtain ⟨g, rfl, _, _, b0⟩ := h3.at (i := 0) (by omega)
  obtain ⟨g', hg', _, _, b1⟩ := h3.at (i := 1) (by omega)
  simp only [Option.some.injEq, Addr.mk.injEq] at hg'
  obtain ⟨rfl, _⟩ := hg'
  rw [hl]
  refine ⟨g, c, rfl, h4, ?_, ?_⟩
  · have := b0.c2
    rw [ab_is a0.p] at this
    exact this
  · have := b1.c0
    rw [a1.r] at this
    exact this
def beK : Array Value := #[.float .f64 4621819117588971520, .float .f64 4602678819172646912, .float .f64 4652007308841189376, .int .i64 5, .int .i64 4, .float .f64 4621819117588971520, .float .f64 4602678819172646912, .float .f64 4652007308841189376, .int .i64 7, .int .i64 4]
def wK (w : World) : World := (((w.alloc (.cells beK 24)).alloc (.cells #[.int .i64 2, .int .i64 0] 2)).alloc (.cells #[.int .i64 3] 2)).alloc (.cells #[.slice (some ⟨w.heap.size + 1, 0, none⟩) 2 2, .slice (some ⟨w.heap.size + 1 + 1, 0, none⟩) 1 1] 39)
theorem up_wK (w : World) : Up w (wK w) := ((Up.alloc _ _).trans (Up.alloc _ _)).trans ((Up.alloc _ _).trans (Up.alloc _ _))
set_option maxRecDepth 20000 in
theorem w15 (w : World) : Calls Try.prog 15 #[.slice (some ⟨w.heap.size, 0, none⟩) 2 2, .slice (some ⟨w.heap.size + 1 + 1 + 1, 0, none⟩) 2 2, .int .i64 0, .int .i64 40] (wK w) fun e w' => ∃ g c, e = .returned (.tuple #[.slice (some ⟨g, 0, none⟩) 2 c, .int .i64 0]) ∧ Hid (Up (wK w) w' ∧ w'.cell? ⟨g, 0, none⟩ = some (.int .i64 10) ∧ w'.cell? ⟨g, 1, none⟩ = some (.int .i64 17)) := by
  have s1 : (w.alloc (.cells beK 24)).heap.size = w.heap.size + 1 := by simp
  have s2 : ((w.alloc (.cells beK 24)).alloc (.cells #[.int .i64 2, .int .i64 0] 2)).heap.size = w.heap.size + 1 + 1 := by simp
  have s3 : (((w.alloc (.cells beK 24)).alloc (.cells #[.int .i64 2, .int .i64 0] 2)).alloc (.cells #[.int .i64 3] 2)).heap.size = w.heap.size + 1 + 1 + 1 := by simp
  have kb : ∀ j v, beK[j]? = some v → (wK w).cell? ⟨w.heap.size, j, none⟩ = some v := fun j v h => cell_up ((World.cell?_alloc_at _ _ _ _ rfl).trans h) ((Up.alloc _ _).trans ((Up.alloc _ _).trans (Up.alloc _ _)))
  have kc : ∀ j v, #[Value.int .i64 2, .int .i64 0][j]? = some v → (wK w).cell? ⟨w.heap.size + 1, j, none⟩ = some v := fun j v h => by
    have : ((w.alloc (.cells beK 24)).alloc (.cells #[.int .i64 2, .int .i64 0] 2)).cell? ⟨(w.alloc (.cells beK 24)).heap.size, j, none⟩ = some v := (World.cell?_alloc_at _ _ _ _ rfl).trans h
    rw [s1] at this
    exact cell_up this ((Up.alloc _ _).trans (Up.alloc _ _))
  have kd : (wK w).cell? ⟨w.heap.size + 1 + 1, 0, none⟩ = some (.int .i64 3) := by
    have : (((w.alloc (.cells beK 24)).alloc (.cells #[.int .i64 2, .int .i64 0] 2)).alloc (.cells #[.int .i64 3] 2)).cell? ⟨((w.alloc (.cells beK 24)).alloc (.cells #[.int .i64 2, .int .i64 0] 2)).heap.size, 0, none⟩ = some (.int .i64 3) := World.cell?_alloc_at _ _ _ _ rfl
    rw [s2] at this
    exact cell_up this (Up.alloc _ _)
  have ke : ∀ j v, #[Value.slice (some ⟨w.heap.size + 1, 0, none⟩) 2 2, .slice (some ⟨w.heap.size + 1 + 1, 0, none⟩) 1 1][j]? = some v → (wK w).cell? ⟨w.heap.size + 1 + 1 + 1, j, none⟩ = some v := fun j v h => by
    have : (wK w).cell? ⟨(((w.alloc (.cells beK 24)).alloc (.cells #[.int .i64 2, .int .i64 0] 2)).alloc (.cells #[.int .i64 3] 2)).heap.size, j, none⟩ = some v := (World.cell?_alloc_at _ _ _ _ rfl).trans h
    rwa [s3] at this
  have hB : BV (wK w) (some ⟨w.heap.size, 0, none⟩) 2 bK := fun i hi => by
    refine ⟨w.heap.size, 0, rfl, ?_⟩
    rcases (show i = 0 ∨ i = 1 by omega) with rfl | rfl <;> exact ⟨kb _ _ rfl, kb _ _ rfl, kb _ _ rfl, kb _ _ rfl, kb _ _ rfl⟩
  have hC : CV (wK w) (some ⟨w.heap.size + 1 + 1 + 1, 0, none⟩) 2 cK := fun i hi => by
    rcases (show i = 0 ∨ i = 1 by omega) with rfl | rfl
    · refine ⟨_, 0, some ⟨w.heap.size + 1, 0, none⟩, 2, rfl, ke 0 _ rfl, fun j hj => ⟨_, 0, rfl, ?_⟩⟩
      have hj' : j < 2 := hj
      rcases (show j = 0 ∨ j = 1 by omega) with rfl | rfl
      · exact kc 0 _ rfl
      · exact kc 1 _ rfl
    · refine ⟨_, 0, some ⟨w.heap.size + 1 + 1, 0, none⟩, 1, rfl, ke 1 _ rfl, fun j hj => ⟨_, 0, rfl, ?_⟩⟩
      have hj' : j < 1 := hj
      obtain rfl : j = 0 := by omega
      exact kd
  have H := t15 (c1 := 2) (c2 := 2) (most := 40) (off := 0) hB hC (by omega) (by omega) (by decide) (by omega)
  rw [show min 2 2 = 2 from rfl, res_closed.1, show (40 : Int).toNat = 40 from rfl, res_closed.2] at H
  refine H.mono ?_
  rintro e w' ⟨HU, h | ⟨_, p, c, rfl, ho⟩⟩
  · exact absurd rfl h.1
  · obtain ⟨p2, c2, e1, e2⟩ := Fo.own_form ho.out
    obtain ⟨g, hg⟩ := e2 (by decide)
    simp only [Value.slice.injEq] at e1
    obtain ⟨rfl, _, rfl⟩ := e1
    subst hg
    exact ⟨g, _, rfl, HU.out, Fo.OI.cell ho.out (i := 0) (by decide), Fo.OI.cell ho.out (i := 1) (by decide)⟩
end Go.Proofs.Ytijfmaepoamkgaa
/- wakes. -/
namespace Go.Proofs.Ytijfmaepoamkgaa
open Go.ChangeShapes Go.WideShapes Go.ChangeAt Go.RowKit Go.Fl Go.Sort
attribute [local go_sem] run_store_float call53 run_neg fold_eq fold_ne fold_lt fold_gt abs_eq

set_option maxRecDepth 100000 in
set_option maxHeartbeats 4000000 in
theorem t12 (w : World) : Calls Try.prog 12 #[] w fun e w' => e = .returned (.bool true) ∧ Hid (Up w w') := by
  have C23a : Hid (∀ w, Calls Try.prog 23 #[.int .i64 5] w fun en w' => en = .returned (.agg #[.float .f64 4621819117588971520, .float .f64 4602678819172646912, .float .f64 4652007308841189376, .int .i64 5, .int .i64 4]) ∧ Hid (Gr w w')) := fun w => t23 5 w
  have C23b : Hid (∀ w, Calls Try.prog 23 #[.int .i64 7] w fun en w' => en = .returned (.agg #[.float .f64 4621819117588971520, .float .f64 4602678819172646912, .float .f64 4652007308841189376, .int .i64 7, .int .i64 4]) ∧ Hid (Gr w w')) := fun w => t23 7 w
  go_enter Try.func12, Try.ntmps12
  go_wp2_with (first
    | ((fail_if_success have := HU1); go_at_call 23; (with_reducible refine (C23a.out _).mono ?_); rintro e w1 ⟨rfl, HU1⟩)
    | (go_at_call 9; (with_reducible refine (w9 _).mono ?_); rintro e w2 ⟨rfl, HU2⟩)
    | ((fail_if_success have := HU3); go_at_call 23; (with_reducible refine (C23a.out _).mono ?_); rintro e w3 ⟨rfl, HU3⟩)
    | (go_at_call 23; (with_reducible refine (C23b.out _).mono ?_); rintro e w4 ⟨rfl, HU4⟩;
       (have HP4 : Hid (B5 w4 w2.heap.size 4629137466983448576 9223372036854775808 4621256167635550208 0 4613937818241073152) := (B5.new w2 4629137466983448576 9223372036854775808 4621256167635550208 0 4613937818241073152 28).up (HU3.out.up.trans HU4.out.up));
       (have HW4 : Hid (Up w w4) := HU1.out.up.trans (HU2.out.trans ((Up.alloc _ _).trans (HU3.out.up.trans HU4.out.up))));
       (have C15 : Hid (Calls Try.prog 15 #[.slice (some ⟨w4.heap.size, 0, none⟩) 2 2, .slice (some ⟨w4.heap.size + 1 + 1 + 1, 0, none⟩) 2 2, .int .i64 0, .int .i64 40] (wK w4) fun e w' => ∃ g c, e = .returned (.tuple #[.slice (some ⟨g, 0, none⟩) 2 c, .int .i64 0]) ∧ Hid (Up (wK w4) w' ∧ w'.cell? ⟨g, 0, none⟩ = some (.int .i64 10) ∧ w'.cell? ⟨g, 1, none⟩ = some (.int .i64 17))) := w15 w4);
       (have HWK : Hid (Up w4 (wK w4)) := up_wK w4); unfold wK beK at C15 HWK; clear HU1 HU2 HU3 HU4)
    | (go_at_call 15; (with_reducible refine C15.out.mono ?_); rintro e w5 ⟨gx, cx, rfl, HX5⟩; (have HP5 : Hid (B5 w5 w2.heap.size 4629137466983448576 9223372036854775808 4621256167635550208 0 4613937818241073152) := HP4.out.up (HWK.out.trans HX5.out.1)); (have HW5 : Hid (Up w w5) := HW4.out.trans (HWK.out.trans HX5.out.1)); (have HX : Hid (w5.cell? ⟨gx, 0, none⟩ = some (.int .i64 10) ∧ w5.cell? ⟨gx, 1, none⟩ = some (.int .i64 17)) := HX5.out.2); (have HPV : Hid (PV (w5.alloc (.cells rowK 28)) (some ⟨w5.heap.size, 0, none⟩) 3 3 pK) := pv_new w5); (have C17 : Hid (∀ W, Up (w5.alloc (.cells rowK 28)) W → Calls Try.prog 17 #[.slice (some ⟨w5.heap.size, 0, none⟩) 3 3] W fun e w' => ∃ g c, e = .returned (.slice (some ⟨g, 0, none⟩) 3 c) ∧ Hid (Up W w' ∧ w'.cell? ⟨g, 0, none⟩ = some (.int .i64 2) ∧ w'.cell? ⟨g, 1, none⟩ = some (.int .i64 0))) := fun W hu => w17 (HPV.out.up hu)); (have C20 : Hid (∀ W, Up (w5.alloc (.cells rowK 28)) W → Calls Try.prog 20 #[.slice (some ⟨w5.heap.size, 0, none⟩) 3 3, .float .f64 4617315517961601024, .float .f64 4607182418800017408] W fun e w' => ∃ g c, e = .returned (.slice (some ⟨g, 0, none⟩) 2 c) ∧ Hid (Up W w' ∧ w'.cell? ⟨g, 2, none⟩ = some (.float .f64 4616189618054758400) ∧ w'.cell? ⟨g, 5, none⟩ = some (.float .f64 4629137466983448576))) := fun W hu => w20 (HPV.out.up hu)); (have HR5 : Hid (Up w5 (w5.alloc (.cells rowK 28))) := Up.alloc _ _); unfold rowK at C17 C20 HR5; clear C15 HWK HP4 HW4 HX5 HPV)
    | (go_at_call 17; (with_reducible refine (C17.out _ (Up.refl _)).mono ?_); rintro e w6 ⟨go, co, rfl, HX6⟩; (have C20' := C20.out w6 HX6.out.1); (have HU6 : Hid (Up w5 w6) := HR5.out.trans HX6.out.1); (have HO : Hid (w6.cell? ⟨go, 0, none⟩ = some (.int .i64 2) ∧ w6.cell? ⟨go, 1, none⟩ = some (.int .i64 0)) := HX6.out.2); (have C20H : Hid (Calls Try.prog 20 #[.slice (some ⟨w5.heap.size, 0, none⟩) 3 3, .float .f64 4617315517961601024, .float .f64 4607182418800017408] w6 fun e w' => ∃ g c, e = .returned (.slice (some ⟨g, 0, none⟩) 2 c) ∧ Hid (Up w6 w' ∧ w'.cell? ⟨g, 2, none⟩ = some (.float .f64 4616189618054758400) ∧ w'.cell? ⟨g, 5, none⟩ = some (.float .f64 4629137466983448576))) := C20'); clear C20' C17 C20 HX6)
    | (go_at_call 20; (with_reducible refine C20H.out.mono ?_); rintro e w7 ⟨gm, cm, rfl, HX7⟩; (obtain ⟨q0, q1, q2, q3, q4⟩ := HP5.out.up (HU6.out.trans HX7.out.1)); (have x0 := cell_up HX.out.1 (HU6.out.trans HX7.out.1)); (have x1 := cell_up HX.out.2 (HU6.out.trans HX7.out.1)); (have o0 := cell_up HO.out.1 HX7.out.1); (have o1 := cell_up HO.out.2 HX7.out.1); (have m0 := HX7.out.2.1); (have m1 := HX7.out.2.2); (have HU7 : Hid (Up w w7) := HW5.out.trans (HU6.out.trans HX7.out.1)); clear HX7 C20H HX HO HP5))
  go_ret
  exact ⟨rfl, HU7⟩
end Go.Proofs.Ytijfmaepoamkgaa
