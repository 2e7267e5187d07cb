/- Points moved to the common ground and back. -/
import Derived.Test.YtlgejebgkkmacaaLv
import Derived.Test.YtlgejebgkkmacaaPd
import Derived.Deep.CutRange
namespace Go.Proofs.Ytlgejebgkkmacaa
open Go.ChangeShapes Go.WideShapes Go.ChangeAt Go.RowKit Go.Fl Ieee
attribute [local go_sem] run_store_float run_store_complex call39 call50 run_neg fold_eq fold_ne fold_lt fold_gt abs_eq

def movX (ax t x y : Option Nat) : Option Nat := bin .add (mulI y x (turnC t) (turnS t)) ax
def movY (ay t x y : Option Nat) : Option Nat := bin .add (mulR y x (turnC t) (turnS t)) ay
/-- The world of a call that is handed a site and a point and hands back a point. -/
abbrev wM (w : World) (ax ay t x y : Nat) : World := ((w.alloc (.cells #[.float .f64 ax, .float .f64 ay, .float .f64 t] 26)).alloc (.cells #[.float .f64 x, .float .f64 y] 24)).alloc (.cells #[.float .f64 0, .float .f64 0] 24)
structure WM (w v : World) (ax ay t x y : Nat) : Prop where
  up : Up (wM w ax ay t x y) v
  c0 : v.cell? ⟨w.heap.size, 0, none⟩ = some (.float .f64 ax)
  c1 : v.cell? ⟨w.heap.size, 1, none⟩ = some (.float .f64 ay)
  c2 : v.cell? ⟨w.heap.size, 2, none⟩ = some (.float .f64 t)
  d0 : v.cell? ⟨w.heap.size + 1, 0, none⟩ = some (.float .f64 x)
  d1 : v.cell? ⟨w.heap.size + 1, 1, none⟩ = some (.float .f64 y)
  e : v.heap[w.heap.size + 1 + 1]? = some (.cells #[.float .f64 0, .float .f64 0] 24)
theorem WM.mk' {w v : World} {ax ay t x y : Nat} (hu : Up (wM w ax ay t x y) v) : WM w v ax ay t x y := by
  have e1 : (wM w ax ay t x y).heap[w.heap.size]? = some (.cells #[.float .f64 ax, .float .f64 ay, .float .f64 t] 26) :=
    kept2 (heap_alloc_last w _) ((Up.alloc _ _).trans (Up.alloc _ _))
  have e2 : (wM w ax ay t x y).heap[w.heap.size + 1]? = some (.cells #[.float .f64 x, .float .f64 y] 24) :=
    kept2 (second w _ _) (Up.alloc _ _)
  have e3 : (wM w ax ay t x y).heap[w.heap.size + 1 + 1]? = some (.cells #[.float .f64 0, .float .f64 0] 24) := third w _ _ _
  have f1 := kept2 e1 hu
  have f2 := kept2 e2 hu
  have f3 := kept2 e3 hu
  exact ⟨hu, by simp [World.cell?, f1], by simp [World.cell?, f1], by simp [World.cell?, f1], by simp [World.cell?, f2], by simp [World.cell?, f2], f3⟩
theorem put2 {v : World} {b : Nat} {t : TypeId} {p q p' q' : Value} (hh : v.heap[b]? = some (.cells #[p, q] t)) : ((v.setCell ⟨b, 0, none⟩ p').setCell ⟨b, 1, none⟩ q').heap[b]? = some (.cells #[p', q'] t) := by
  have e1 := setCell_eq_setRow v b 0 #[p, q] t (0, 0) p' hh
  have g1 := setRow_heap v b #[p, q] #[p', q] t (0, 0) hh
  have e2 := setCell_eq_setRow _ b 1 #[p', q] t (0, 0) q' g1
  have g2 := setRow_heap _ b #[p', q] #[p', q'] t (0, 0) g1
  rw [e1]
  show ((v.setRow b #[p', q]).setCell ⟨b, 1, none⟩ q').heap[b]? = _
  rw [e2]
  exact g2
theorem stored2 {w v : World} {ax ay t x y b r i : Nat} (hv : Up (wM w ax ay t x y) v) (hb : (wM w ax ay t x y).heap.size ≤ b) (hh : v.heap[b]? = some (.cells #[.float .f64 0, .float .f64 0] 53)) :
    ∃ U, (v.setCell ⟨b, 0, none⟩ (.float .f64 r)).setCell ⟨b, 1, none⟩ (.float .f64 i) = U ∧ WM w U ax ay t x y ∧ U.cell? ⟨b, 0, none⟩ = some (.float .f64 r) ∧ U.cell? ⟨b, 1, none⟩ = some (.float .f64 i) := by
  have g := put2 (p' := .float .f64 r) (q' := .float .f64 i) hh
  refine ⟨_, rfl, WM.mk' ((hv.setCell hb _).setCell hb _), ?_, ?_⟩
  · simp only [World.cell?, g]; rfl
  · simp only [World.cell?, g]; rfl
set_option maxHeartbeats 2000000 in
set_option maxRecDepth 20000 in
theorem t17 (ax ay t x y : Nat) (w : World) : Calls Try.prog 17 #[.agg #[.float .f64 ax, .float .f64 ay, .float .f64 t], .agg #[.float .f64 x, .float .f64 y]] w (SR w (movX (ab ax) (ab t) (ab x) (ab y)) (movY (ab ay) (ab t) (ab x) (ab y))) := by
  go_enter Try.func17, Try.ntmps17
  go_wp2_with fail
  refine wp_region_up 6 [cV (.agg #[.float .f64 x, .float .f64 y]), cV (.complex .f64 y x), cV (.pointer (some ⟨w.heap.size, 2, none⟩)), cV (.float .f64 t), cC (turnC (ab t)) (turnS (ab t)), cC (mulR (ab y) (ab x) (turnC (ab t)) (turnS (ab t))) (mulI (ab y) (ab x) (turnC (ab t)) (turnS (ab t)))] (by kernel_rfl) (by decide) rfl (by kernel_rfl) (by kernel_rfl) ⟨mV _, mV _, mV _, mV _, mC _ _, mC _ _, trivial⟩ ?_
  intro vals
  simp only [List.take_succ_cons, List.take_zero, valsN, FillL, Act.put, List.setIfInBounds_toArray, List.set_cons_succ, List.set_cons_zero, Nat.zero_add, Nat.reduceAdd]
  refine ⟨⟨fun v hu h => ?_, fun v hu h => ?_, fun v hu h => ?_, fun v hu h => ?_, fun v hu h => ?_, fun v hu h => ?_, trivial⟩, fun v hu h => ?_⟩
  all_goals obtain ⟨hv, c0, c1, c2, d0, d1, HE⟩ := WM.mk' (w := w) (ax := ax) (ay := ay) (t := t) (x := x) (y := y) (v := v) hu
  · refine UpO.is _ rfl rfl ?_
    go_simp
  · have e0 : vals 0 = .agg #[.float .f64 x, .float .f64 y] := h 0 (by decide) (by kernel_rfl)
    refine UpO.call #[.agg #[.float .f64 x, .float .f64 y]] rfl rfl (by rw [e0]; kernel_rfl) (enters Try.func29 (by kernel_rfl) (by kernel_rfl) _ _) ?_
    exact (t29 _ _ _).mono vu_cV
  · refine UpO.is _ rfl rfl ?_
    go_simp
  · have e2 : vals 2 = .pointer (some ⟨w.heap.size, 2, none⟩) := h 2 (by decide) (by kernel_rfl)
    refine UpO.is _ rfl rfl ?_
    rw [e2]
    go_simp
  · have e3 : vals 3 = .float .f64 t := h 3 (by decide) (by kernel_rfl)
    refine UpO.call #[.float .f64 t] rfl rfl (by rw [e3]; kernel_rfl) (enters Try.func37 (by kernel_rfl) (by kernel_rfl) _ _) ?_
    exact (t37 _ _).mono cr_cC
  · have e1 : vals 1 = .complex .f64 y x := h 1 (by decide) (by kernel_rfl)
    obtain ⟨r4, i4, e4, hr4, hi4⟩ : cC (turnC (ab t)) (turnS (ab t)) (vals 4) v := h 4 (by decide) (by kernel_rfl)
    refine UpO.call #[.complex .f64 y x, .complex .f64 r4 i4] rfl rfl (by rw [e1, e4]; kernel_rfl) (enters Try.func45 (by kernel_rfl) (by kernel_rfl) _ _) ?_
    rw [← hr4.out, ← hi4.out]
    exact (t45 _ _ _ _ _).mono dr_cC
  · obtain ⟨r5, i5, e5, hr5, hi5⟩ : cC (mulR (ab y) (ab x) (turnC (ab t)) (turnS (ab t))) (mulI (ab y) (ab x) (turnC (ab t)) (turnS (ab t))) (vals 5) v := h 5 (by decide)
    rw [e5]
    clear h e5 hu
    obtain ⟨k1, k2, k3, k4⟩ := facts2 HE
    replace HE : Hid _ := HE
    replace hv : Hid _ := hv
    simp only [List.drop_succ_cons, List.drop_zero]
    go_wp2_with ((with_reducible refine upon_fl (by simp) ?_); intro r n hr)
    rename_i r1 n1 hr1
    refine ret24 rfl rfl HE.out ((((Up.alloc _ _).trans (Up.alloc _ _)).trans (Up.alloc _ _)).trans hv.out) (by omega) ?_ ?_
    · rw [hr1.out, hi5.out]; rfl
    · rw [hr.out, hr5.out]; rfl
set_option maxHeartbeats 2000000 in
set_option maxRecDepth 20000 in
theorem t18 (ax ay t x y : Nat) (w : World) : Calls Try.prog 18 #[.agg #[.float .f64 ax, .float .f64 ay, .float .f64 t], .agg #[.float .f64 x, .float .f64 y]] w (SR w (movX (ab ax) (ab t) (ab x) (ab y)) (movY (ab ay) (ab t) (ab x) (ab y))) := by
  go_enter Try.func18, Try.ntmps18
  go_wp2_with fail
  refine wp_region_up 10 [cV (.pointer (some ⟨w.heap.size + 1, 0, none⟩)), cV (.float .f64 x), cV (.pointer (some ⟨w.heap.size + 1, 1, none⟩)), cV (.float .f64 y), cA (ab y) (ab x), cV (.pointer (some ⟨w.heap.size, 2, none⟩)), cV (.float .f64 t), cA (turnC (ab t)) (turnS (ab t)), cA (mulR (ab y) (ab x) (turnC (ab t)) (turnS (ab t))) (mulI (ab y) (ab x) (turnC (ab t)) (turnS (ab t))), cP (wM w ax ay t x y) (.cells #[.float .f64 0, .float .f64 0] 53)] (by kernel_rfl) (by decide) rfl (by kernel_rfl) (by kernel_rfl) ⟨mV _, mV _, mV _, mV _, mA _ _, mV _, mV _, mA _ _, mA _ _, mP _ _, trivial⟩ ?_
  intro vals
  simp only [List.take_succ_cons, List.take_zero, valsN, FillL, Act.put, List.setIfInBounds_toArray, List.set_cons_succ, List.set_cons_zero, Nat.zero_add, Nat.reduceAdd]
  refine ⟨⟨fun v hu h => ?_, fun v hu h => ?_, fun v hu h => ?_, fun v hu h => ?_, fun v hu h => ?_, fun v hu h => ?_, fun v hu h => ?_, fun v hu h => ?_, fun v hu h => ?_, fun v hu h => ?_, trivial⟩, fun v hu h => ?_⟩
  all_goals obtain ⟨hv, c0, c1, c2, d0, d1, HE⟩ := WM.mk' (w := w) (ax := ax) (ay := ay) (t := t) (x := x) (y := y) (v := v) hu
  · refine UpO.is _ rfl rfl ?_
    go_simp
  · have e0 : vals 0 = .pointer (some ⟨w.heap.size + 1, 0, none⟩) := h 0 (by decide) (by kernel_rfl)
    refine UpO.is _ rfl rfl ?_
    rw [e0]
    go_simp
  · refine UpO.is _ rfl rfl ?_
    go_simp
  · have e2 : vals 2 = .pointer (some ⟨w.heap.size + 1, 1, none⟩) := h 2 (by decide) (by kernel_rfl)
    refine UpO.is _ rfl rfl ?_
    rw [e2]
    go_simp
  · have e1 : vals 1 = .float .f64 x := h 1 (by decide) (by kernel_rfl)
    have e3 : vals 3 = .float .f64 y := h 3 (by decide) (by kernel_rfl)
    refine UpO.call #[.float .f64 x, .float .f64 y] rfl rfl (by rw [e1, e3]; kernel_rfl) (enters Try.func33 (by kernel_rfl) (by kernel_rfl) _ _) ?_
    exact (t33 _ _ _).mono sr_cA
  · refine UpO.is _ rfl rfl ?_
    go_simp
  · have e5 : vals 5 = .pointer (some ⟨w.heap.size, 2, none⟩) := h 5 (by decide) (by kernel_rfl)
    refine UpO.is _ rfl rfl ?_
    rw [e5]
    go_simp
  · have e6 : vals 6 = .float .f64 t := h 6 (by decide) (by kernel_rfl)
    refine UpO.call #[.float .f64 t] rfl rfl (by rw [e6]; kernel_rfl) (enters Try.func38 (by kernel_rfl) (by kernel_rfl) _ _) ?_
    exact (t38 _ _).mono sr_cA
  · obtain ⟨r4, i4, e4, hr4, hi4⟩ : cA (ab y) (ab x) (vals 4) v := h 4 (by decide) (by kernel_rfl)
    obtain ⟨r7, i7, e7, hr7, hi7⟩ : cA (turnC (ab t)) (turnS (ab t)) (vals 7) v := h 7 (by decide) (by kernel_rfl)
    refine UpO.call #[.agg #[.float .f64 r4, .float .f64 i4], .agg #[.float .f64 r7, .float .f64 i7]] rfl rfl (by rw [e4, e7]; kernel_rfl) (enters Try.func46 (by kernel_rfl) (by kernel_rfl) _ _) ?_
    rw [← hr4.out, ← hi4.out, ← hr7.out, ← hi7.out]
    exact (t46 _ _ _ _ _).mono sr_cA
  · refine UpO.al hu rfl ?_
    go_simp
  · obtain ⟨r8, i8, e8, hr8, hi8⟩ : cA (mulR (ab y) (ab x) (turnC (ab t)) (turnS (ab t))) (mulI (ab y) (ab x) (turnC (ab t)) (turnS (ab t))) (vals 8) v := h 8 (by decide)
    obtain ⟨b9, e9, hb9, hh9⟩ : cP (wM w ax ay t x y) (.cells #[.float .f64 0, .float .f64 0] 53) (vals 9) v := h 9 (by decide)
    rw [e8, e9]
    clear h e8 e9 hu c0 c1 c2 d0 d1 HE
    obtain ⟨k1, k2, k3, k4⟩ := facts2 hh9
    simp only [List.drop_succ_cons, List.drop_zero]
    go_upto_region 2 with (fail)
    obtain ⟨U, hU, ⟨hv', c0, c1, c2, d0, d1, HE⟩, u0, u1⟩ := stored2 (r := r8) (i := i8) hv hb9 hh9
    rw [hU]
    clear hU hv k1 k2 k3 k4 hh9 hb9
    obtain ⟨m1, m2, m3, m4⟩ := facts2 HE
    replace HE : Hid _ := HE
    replace hv' : Hid _ := hv'
    go_wp2_with ((with_reducible refine upon_fl (by simp) ?_); intro r n hr)
    rename_i r1 n1 hr1
    refine ret24 rfl rfl HE.out ((((Up.alloc _ _).trans (Up.alloc _ _)).trans (Up.alloc _ _)).trans hv'.out) (by omega) ?_ ?_
    · rw [hr1.out, hi8.out]; rfl
    · rw [hr.out, hr8.out]; rfl
def bakR (ax ay t x y : Option Nat) : Option Nat := mulR (bin .sub y ay) (bin .sub x ax) (turnC t) ((turnS t).map neg)
def bakI (ax ay t x y : Option Nat) : Option Nat := mulI (bin .sub y ay) (bin .sub x ax) (turnC t) ((turnS t).map neg)
set_option maxHeartbeats 2000000 in
set_option maxRecDepth 20000 in
theorem t19 (ax ay t x y : Nat) (w : World) : Calls Try.prog 19 #[.agg #[.float .f64 ax, .float .f64 ay, .float .f64 t], .agg #[.float .f64 x, .float .f64 y]] w (SR w (bakI (ab ax) (ab ay) (ab t) (ab x) (ab y)) (bakR (ab ax) (ab ay) (ab t) (ab x) (ab y))) := by
  go_enter Try.func19, Try.ntmps19
  go_wp2_with fail
  refine wp_region_up 11 [cV (.agg #[.float .f64 x, .float .f64 y]), cV (.complex .f64 y x), cV (.pointer (some ⟨w.heap.size, 0, none⟩)), cV (.agg #[.float .f64 ax, .float .f64 ay]), cV (.complex .f64 ay ax), cC (bin .sub (ab y) (ab ay)) (bin .sub (ab x) (ab ax)), cV (.pointer (some ⟨w.heap.size, 2, none⟩)), cV (.float .f64 t), cC (turnC (ab t)) (turnS (ab t)), cC (turnC (ab t)) ((turnS (ab t)).map neg), cC (bakR (ab ax) (ab ay) (ab t) (ab x) (ab y)) (bakI (ab ax) (ab ay) (ab t) (ab x) (ab y))] (by kernel_rfl) (by decide) rfl (by kernel_rfl) (by kernel_rfl) ⟨mV _, mV _, mV _, mV _, mV _, mC _ _, mV _, mV _, mC _ _, mC _ _, mC _ _, trivial⟩ ?_
  intro vals
  simp only [List.take_succ_cons, List.take_zero, valsN, FillL, Act.put, List.setIfInBounds_toArray, List.set_cons_succ, List.set_cons_zero, Nat.zero_add, Nat.reduceAdd]
  refine ⟨⟨fun v hu h => ?_, fun v hu h => ?_, fun v hu h => ?_, fun v hu h => ?_, fun v hu h => ?_, fun v hu h => ?_, fun v hu h => ?_, fun v hu h => ?_, fun v hu h => ?_, fun v hu h => ?_, fun v hu h => ?_, trivial⟩, fun v hu h => ?_⟩
  all_goals obtain ⟨hv, c0, c1, c2, d0, d1, HE⟩ := WM.mk' (w := w) (ax := ax) (ay := ay) (t := t) (x := x) (y := y) (v := v) hu
  · refine UpO.is _ rfl rfl ?_
    go_simp
  · have e0 : vals 0 = .agg #[.float .f64 x, .float .f64 y] := h 0 (by decide) (by kernel_rfl)
    refine UpO.call #[.agg #[.float .f64 x, .float .f64 y]] rfl rfl (by rw [e0]; kernel_rfl) (enters Try.func29 (by kernel_rfl) (by kernel_rfl) _ _) ?_
    exact (t29 _ _ _).mono vu_cV
  · refine UpO.is _ rfl rfl ?_
    go_simp
  · have e2 : vals 2 = .pointer (some ⟨w.heap.size, 0, none⟩) := h 2 (by decide) (by kernel_rfl)
    refine UpO.is _ rfl rfl ?_
    rw [e2]
    go_simp
  · have e3 : vals 3 = .agg #[.float .f64 ax, .float .f64 ay] := h 3 (by decide) (by kernel_rfl)
    refine UpO.call #[.agg #[.float .f64 ax, .float .f64 ay]] rfl rfl (by rw [e3]; kernel_rfl) (enters Try.func29 (by kernel_rfl) (by kernel_rfl) _ _) ?_
    exact (t29 _ _ _).mono vu_cV
  · have e1 : vals 1 = .complex .f64 y x := h 1 (by decide) (by kernel_rfl)
    have e4 : vals 4 = .complex .f64 ay ax := h 4 (by decide) (by kernel_rfl)
    refine UpO.csub y x ay ax rfl rfl rfl rfl rfl rfl (by rw [e1, e4]; kernel_rfl) (by rw [e1, e4]; kernel_rfl)
  · refine UpO.is _ rfl rfl ?_
    go_simp
  · have e6 : vals 6 = .pointer (some ⟨w.heap.size, 2, none⟩) := h 6 (by decide) (by kernel_rfl)
    refine UpO.is _ rfl rfl ?_
    rw [e6]
    go_simp
  · have e7 : vals 7 = .float .f64 t := h 7 (by decide) (by kernel_rfl)
    refine UpO.call #[.float .f64 t] rfl rfl (by rw [e7]; kernel_rfl) (enters Try.func37 (by kernel_rfl) (by kernel_rfl) _ _) ?_
    exact (t37 _ _).mono cr_cC
  · obtain ⟨r8, i8, e8, hr8, hi8⟩ : cC (turnC (ab t)) (turnS (ab t)) (vals 8) v := h 8 (by decide) (by kernel_rfl)
    refine UpO.call #[.complex .f64 r8 i8] rfl rfl (by rw [e8]; kernel_rfl) (enters Try.func47 (by kernel_rfl) (by kernel_rfl) _ _) ?_
    refine (t47 _ _ _).mono ?_
    rintro e w' ⟨rfl, rfl⟩
    exact ⟨_, rfl, ⟨_, _, rfl, hr8, by show _ = _; rw [ab_neg, hi8.out]⟩, Up.refl _⟩
  · obtain ⟨r5, i5, e5, hr5, hi5⟩ : cC (bin .sub (ab y) (ab ay)) (bin .sub (ab x) (ab ax)) (vals 5) v := h 5 (by decide) (by kernel_rfl)
    obtain ⟨r9, i9, e9, hr9, hi9⟩ : cC (turnC (ab t)) ((turnS (ab t)).map neg) (vals 9) v := h 9 (by decide) (by kernel_rfl)
    refine UpO.call #[.complex .f64 r5 i5, .complex .f64 r9 i9] rfl rfl (by rw [e5, e9]; kernel_rfl) (enters Try.func45 (by kernel_rfl) (by kernel_rfl) _ _) ?_
    refine (t45 _ _ _ _ _).mono ?_
    intro e w' hq
    rw [hr5.out, hi5.out, hr9.out, hi9.out] at hq
    exact dr_cC _ _ hq
  · obtain ⟨r10, i10, e10, hr10, hi10⟩ : cC (bakR (ab ax) (ab ay) (ab t) (ab x) (ab y)) (bakI (ab ax) (ab ay) (ab t) (ab x) (ab y)) (vals 10) v := h 10 (by decide)
    rw [e10]
    clear h e10 hu
    obtain ⟨k1, k2, k3, k4⟩ := facts2 HE
    replace HE : Hid _ := HE
    replace hv : Hid _ := hv
    simp only [List.drop_succ_cons, List.drop_zero]
    go_wp2
    exact ret24 (n := 0) rfl rfl HE.out ((((Up.alloc _ _).trans (Up.alloc _ _)).trans (Up.alloc _ _)).trans hv.out) (by omega) hi10.out hr10.out
set_option maxHeartbeats 2000000 in
set_option maxRecDepth 20000 in
theorem t20 (ax ay t x y : Nat) (w : World) : Calls Try.prog 20 #[.agg #[.float .f64 ax, .float .f64 ay, .float .f64 t], .agg #[.float .f64 x, .float .f64 y]] w (SR w (bakI (ab ax) (ab ay) (ab t) (ab x) (ab y)) (bakR (ab ax) (ab ay) (ab t) (ab x) (ab y))) := by
  go_enter Try.func20, Try.ntmps20
  go_wp2_with fail
  refine wp_region_up 19 [cV (.pointer (some ⟨w.heap.size + 1, 0, none⟩)), cV (.float .f64 x), cV (.pointer (some ⟨w.heap.size, 0, none⟩)), cV (.pointer (some ⟨w.heap.size, 0, none⟩)), cV (.float .f64 ax), cF (bin .sub (ab x) (ab ax)), cV (.pointer (some ⟨w.heap.size + 1, 1, none⟩)), cV (.float .f64 y), cV (.pointer (some ⟨w.heap.size, 0, none⟩)), cV (.pointer (some ⟨w.heap.size, 1, none⟩)), cV (.float .f64 ay), cF (bin .sub (ab y) (ab ay)), cA (bin .sub (ab y) (ab ay)) (bin .sub (ab x) (ab ax)), cV (.pointer (some ⟨w.heap.size, 2, none⟩)), cV (.float .f64 t), cA (turnC (ab t)) (turnS (ab t)), cA (turnC (ab t)) ((turnS (ab t)).map neg), cA (bakR (ab ax) (ab ay) (ab t) (ab x) (ab y)) (bakI (ab ax) (ab ay) (ab t) (ab x) (ab y)), cP (wM w ax ay t x y) (.cells #[.float .f64 0, .float .f64 0] 53)] (by kernel_rfl) (by decide) rfl (by kernel_rfl) (by kernel_rfl) ⟨mV _, mV _, mV _, mV _, mV _, mF _, mV _, mV _, mV _, mV _, mV _, mF _, mA _ _, mV _, mV _, mA _ _, mA _ _, mA _ _, mP _ _, trivial⟩ ?_
  intro vals
  simp only [List.take_succ_cons, List.take_zero, valsN, FillL, Act.put, List.setIfInBounds_toArray, List.set_cons_succ, List.set_cons_zero, Nat.zero_add, Nat.reduceAdd]
  refine ⟨⟨fun v hu h => ?_, fun v hu h => ?_, fun v hu h => ?_, fun v hu h => ?_, fun v hu h => ?_, fun v hu h => ?_, fun v hu h => ?_, fun v hu h => ?_, fun v hu h => ?_, fun v hu h => ?_, fun v hu h => ?_, fun v hu h => ?_, fun v hu h => ?_, fun v hu h => ?_, fun v hu h => ?_, fun v hu h => ?_, fun v hu h => ?_, fun v hu h => ?_, fun v hu h => ?_, trivial⟩, fun v hu h => ?_⟩
  all_goals obtain ⟨hv, c0, c1, c2, d0, d1, HE⟩ := WM.mk' (w := w) (ax := ax) (ay := ay) (t := t) (x := x) (y := y) (v := v) hu
  · refine UpO.is _ rfl rfl ?_
    go_simp
  · have e0 : vals 0 = .pointer (some ⟨w.heap.size + 1, 0, none⟩) := h 0 (by decide) (by kernel_rfl)
    refine UpO.is _ rfl rfl ?_
    rw [e0]
    go_simp
  · refine UpO.is _ rfl rfl ?_
    go_simp
  · have e2 : vals 2 = .pointer (some ⟨w.heap.size, 0, none⟩) := h 2 (by decide) (by kernel_rfl)
    refine UpO.is _ rfl rfl ?_
    rw [e2]
    go_simp
  · have e3 : vals 3 = .pointer (some ⟨w.heap.size, 0, none⟩) := h 3 (by decide) (by kernel_rfl)
    refine UpO.is _ rfl rfl ?_
    rw [e3]
    go_simp
  · have e1 : vals 1 = .float .f64 x := h 1 (by decide) (by kernel_rfl)
    have e4 : vals 4 = .float .f64 ax := h 4 (by decide) (by kernel_rfl)
    refine UpO.st x ax rfl rfl rfl rfl (Or.inr (Or.inl rfl)) (by rw [e1, e4]; kernel_rfl) (by rw [e1, e4]; kernel_rfl)
  · refine UpO.is _ rfl rfl ?_
    go_simp
  · have e6 : vals 6 = .pointer (some ⟨w.heap.size + 1, 1, none⟩) := h 6 (by decide) (by kernel_rfl)
    refine UpO.is _ rfl rfl ?_
    rw [e6]
    go_simp
  · refine UpO.is _ rfl rfl ?_
    go_simp
  · have e8 : vals 8 = .pointer (some ⟨w.heap.size, 0, none⟩) := h 8 (by decide) (by kernel_rfl)
    refine UpO.is _ rfl rfl ?_
    rw [e8]
    go_simp
  · have e9 : vals 9 = .pointer (some ⟨w.heap.size, 1, none⟩) := h 9 (by decide) (by kernel_rfl)
    refine UpO.is _ rfl rfl ?_
    rw [e9]
    go_simp
  · have e7 : vals 7 = .float .f64 y := h 7 (by decide) (by kernel_rfl)
    have e10 : vals 10 = .float .f64 ay := h 10 (by decide) (by kernel_rfl)
    refine UpO.st y ay rfl rfl rfl rfl (Or.inr (Or.inl rfl)) (by rw [e7, e10]; kernel_rfl) (by rw [e7, e10]; kernel_rfl)
  · obtain ⟨r5, e5, hr5⟩ : cF (bin .sub (ab x) (ab ax)) (vals 5) v := h 5 (by decide) (by kernel_rfl)
    obtain ⟨r11, e11, hr11⟩ : cF (bin .sub (ab y) (ab ay)) (vals 11) v := h 11 (by decide) (by kernel_rfl)
    refine UpO.call #[.float .f64 r5, .float .f64 r11] rfl rfl (by rw [e5, e11]; kernel_rfl) (enters Try.func33 (by kernel_rfl) (by kernel_rfl) _ _) ?_
    rw [← hr5.out, ← hr11.out]
    exact (t33 _ _ _).mono sr_cA
  · refine UpO.is _ rfl rfl ?_
    go_simp
  · have e13 : vals 13 = .pointer (some ⟨w.heap.size, 2, none⟩) := h 13 (by decide) (by kernel_rfl)
    refine UpO.is _ rfl rfl ?_
    rw [e13]
    go_simp
  · have e14 : vals 14 = .float .f64 t := h 14 (by decide) (by kernel_rfl)
    refine UpO.call #[.float .f64 t] rfl rfl (by rw [e14]; kernel_rfl) (enters Try.func38 (by kernel_rfl) (by kernel_rfl) _ _) ?_
    exact (t38 _ _).mono sr_cA
  · obtain ⟨r15, i15, e15, hr15, hi15⟩ : cA (turnC (ab t)) (turnS (ab t)) (vals 15) v := h 15 (by decide) (by kernel_rfl)
    refine UpO.call #[.agg #[.float .f64 r15, .float .f64 i15]] rfl rfl (by rw [e15]; kernel_rfl) (enters Try.func48 (by kernel_rfl) (by kernel_rfl) _ _) ?_
    refine (t48 _ _ _).mono ?_
    intro e w' hq
    rw [flip_neg hi15.out, hr15.out] at hq
    exact sr_cA _ _ hq
  · obtain ⟨r12, i12, e12, hr12, hi12⟩ : cA (bin .sub (ab y) (ab ay)) (bin .sub (ab x) (ab ax)) (vals 12) v := h 12 (by decide) (by kernel_rfl)
    obtain ⟨r16, i16, e16, hr16, hi16⟩ : cA (turnC (ab t)) ((turnS (ab t)).map neg) (vals 16) v := h 16 (by decide) (by kernel_rfl)
    refine UpO.call #[.agg #[.float .f64 r12, .float .f64 i12], .agg #[.float .f64 r16, .float .f64 i16]] rfl rfl (by rw [e12, e16]; kernel_rfl) (enters Try.func46 (by kernel_rfl) (by kernel_rfl) _ _) ?_
    refine (t46 _ _ _ _ _).mono ?_
    intro e w' hq
    rw [hr12.out, hi12.out, hr16.out, hi16.out] at hq
    exact sr_cA _ _ hq
  · refine UpO.al hu rfl ?_
    go_simp
  · obtain ⟨r17, i17, e17, hr17, hi17⟩ : cA (bakR (ab ax) (ab ay) (ab t) (ab x) (ab y)) (bakI (ab ax) (ab ay) (ab t) (ab x) (ab y)) (vals 17) v := h 17 (by decide)
    obtain ⟨b18, e18, hb18, hh18⟩ : cP (wM w ax ay t x y) (.cells #[.float .f64 0, .float .f64 0] 53) (vals 18) v := h 18 (by decide)
    rw [e17, e18]
    clear h e17 e18 hu c0 c1 c2 d0 d1 HE
    obtain ⟨k1, k2, k3, k4⟩ := facts2 hh18
    simp only [List.drop_succ_cons, List.drop_zero]
    go_upto_region 2 with (fail)
    obtain ⟨U, hU, ⟨hv', c0, c1, c2, d0, d1, HE⟩, u0, u1⟩ := stored2 (r := r17) (i := i17) hv hb18 hh18
    rw [hU]
    clear hU hv k1 k2 k3 k4 hh18 hb18
    obtain ⟨m1, m2, m3, m4⟩ := facts2 HE
    replace HE : Hid _ := HE
    replace hv' : Hid _ := hv'
    go_wp2
    exact ret24 (n := 0) rfl rfl HE.out ((((Up.alloc _ _).trans (Up.alloc _ _)).trans (Up.alloc _ _)).trans hv'.out) (by omega) hi17.out hr17.out
end Go.Proofs.Ytlgejebgkkmacaa
