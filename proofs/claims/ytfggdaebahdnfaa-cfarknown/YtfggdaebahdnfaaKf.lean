/- CfarKnown: the walk. -/
import Derived.Test.YtfggdaebahdnfaaKc
import Derived.Test.YtfggdaebahdnfaaJa
namespace Go.Proofs.Ytfggdaebahdnfaa
open Go.ChangeShapes Go.WideShapes Go.ChangeAt Go.RowKit Go.Fl Go.Sort
attribute [local go_sem] run_store_float run_store_func call35 call46 run_neg fold_eq fold_ne fold_lt fold_gt abs_eq

theorem eq_in (d x y : Nat) (w : World) : (Op.equalIn (d + 1) 24 (.float .f64 x) (.float .f64 y)).run Try.prog w = .ok (eqF (ab x) (ab y)) w := by
  rw [← fold_eq]
  simp [Op.equalIn, run_underlying Try.underlying24]
  rfl
theorem eq_in9 (x y : Nat) (w : World) : (Op.equalIn 9999 24 (.float .f64 x) (.float .f64 y)).run Try.prog w = .ok (eqF (ab x) (ab y)) w := eq_in 9998 x y w
attribute [local go_sem] eq_in9
theorem eq_some {v : Nat} (h : isN v = false) : eqF (ab v) (ab v) = true := by rw [eqF_self, h]; rfl
/-- A level is what is wanted. -/
theorem t27 {w : World} {b v : Nat} {p : Option Addr} {n cap : Nat} {d : Array Nat} {way g t m k : Int} (hb : w.cell? ⟨b, 0, none⟩ = some (.slice p n cap)) (h : SV w p n cap d) (h1 : -128 ≤ way) (h2 : way ≤ 127) (hv : levR way g t m k d = some v) (hc : levE d.size g t m k = 0) (hN : isN v = false) :
    Calls Try.prog 27 #[.float .f64 v, .int .i64 k, .int .i8 way, .int .i64 g, .int .i64 t, .int .i64 m, .pointer (some ⟨b, 0, none⟩)] w (TU w) := by
  have C : Hid (Calls Try.prog 11 #[.slice p n cap, .int .i64 k, .int .i8 way, .int .i64 g, .int .i64 t, .int .i64 m] w fun e w' => e = .returned (.tuple #[.float .f64 v, .int .i64 0]) ∧ Hid (Up w w')) := lev_known h h1 h2 hv hc
  have e := eq_some hN
  clear h hv hc hN
  go_enter Try.func27, Try.ntmps27
  go_wp2_with (go_at_call 11; (with_reducible refine C.out.mono ?_); rintro e w1 ⟨rfl, HU1⟩)
  go_ret
  exact ⟨rfl, HU1⟩
theorem t29i (w : World) : Calls Try.prog 29 #[.float .f64 9218868437227405312, .int .i64 1] w fun e w' => e = .returned (.bool true) ∧ w' = w := by
  have e : gtF (ab 9218868437227405312) (ab 9218868437227405311) = true := by decide +kernel
  go_enter Try.func29, Try.ntmps29
  go_wp2
  all_goals (go_ret; exact ⟨rfl, rfl⟩)
set_option maxRecDepth 20000 in
theorem z0 : levR 0 0 2 0 3 dk = some 4607182418800017408 := by decide +kernel
theorem y0 : levE dk.size 0 2 0 3 = 0 := by decide +kernel
set_option maxRecDepth 20000 in
theorem z1 : levR 0 1 2 0 3 dk = some 4609434218613702656 := by decide +kernel
theorem y1 : levE dk.size 1 2 0 3 = 0 := by decide +kernel
set_option maxRecDepth 20000 in
theorem z2 : levR 2 1 2 0 3 dk = some 4607182418800017408 := by decide +kernel
theorem y2 : levE dk.size 1 2 0 3 = 0 := by decide +kernel
set_option maxRecDepth 20000 in
theorem z3 : levR 1 0 2 0 0 dk = some 4607182418800017408 := by decide +kernel
theorem y3 : levE dk.size 0 2 0 0 = 0 := by decide +kernel
set_option maxRecDepth 20000 in
theorem z4 : levR 2 0 2 0 6 dk = some 4607182418800017408 := by decide +kernel
theorem y4 : levE dk.size 0 2 0 6 = 0 := by decide +kernel
theorem z5 : levR 3 0 3 0 3 dk = some 4607182418800017408 := by
  have e : levR 3 0 3 0 3 dk = nthD #[4607182418800017408, 4607182418800017408, 4607182418800017408, 4607182418800017408, 4607182418800017408, 4613937818241073152] 0 := by
    unfold levR
    rw [if_pos (by decide +kernel)]
    unfold lvD levD
    rw [if_neg (by decide +kernel), if_pos rfl]
    congr 1
  rw [e, kth_known #[4607182418800017408, 4607182418800017408, 4607182418800017408, 4607182418800017408, 4607182418800017408, 4613937818241073152] (List.Perm.refl _) (by decide +kernel) (by decide) (by decide +kernel)]
  decide +kernel
theorem y5 : levE dk.size 0 3 0 3 = 0 := by decide +kernel
theorem z6 : levR 3 0 3 99 3 dk = some 4613937818241073152 := by
  have e : levR 3 0 3 99 3 dk = nthD #[4607182418800017408, 4607182418800017408, 4607182418800017408, 4607182418800017408, 4607182418800017408, 4613937818241073152] 5 := by
    unfold levR
    rw [if_pos (by decide +kernel)]
    unfold lvD levD
    rw [if_neg (by decide +kernel), if_pos rfl]
    congr 1
  rw [e, kth_known #[4607182418800017408, 4607182418800017408, 4607182418800017408, 4607182418800017408, 4607182418800017408, 4613937818241073152] (List.Perm.refl _) (by decide +kernel) (by decide) (by decide +kernel)]
  decide +kernel
theorem y6 : levE dk.size 0 3 99 3 = 0 := by decide +kernel
def d7 : Array Nat := #[4619567317775286272]
def d1 : Array Nat := #[4607182418800017408]
theorem sv_one (w : World) (v : Nat) (hv : v < 2 ^ 64) : SV (w.alloc (.cells #[.float .f64 v] 24)) (some ⟨w.heap.size, 0, none⟩) 1 1 #[v] := by
  have h := sv_new w #[v] (fun i hi => by
    have : i = 0 := by simpa using hi
    subst this; exact hv) 1 rfl 0
  rw [show #[v].map fe = #[.float .f64 v] by simp] at h
  exact h
theorem x1 : levR 0 0 2 0 0 d7 = some 9218868437227405312 := by decide +kernel
theorem x1e : levE d7.size 0 2 0 0 = 0 := by decide +kernel
theorem x2 : levR 0 0 2 0 7 dk = some 0 := by decide +kernel
theorem x2e : levE dk.size 0 2 0 7 = 2 := by decide +kernel
theorem x3 : levR 0 0 0 0 3 dk = some 0 := by decide +kernel
theorem x3e : levE dk.size 0 0 0 3 = 2 := by decide +kernel
theorem x4 : linD 0 0 2 0 9221120237041090561 dk = [] := by decide +kernel
theorem x4e : linE dk.size 0 2 0 9221120237041090561 = 6 := by decide +kernel
def DA : Nat → Array Nat := fun _ => dk
def DB : Nat → Array Nat := fun i => if i = 0 then dk else d1
set_option maxRecDepth 20000 in
theorem x5 : mpL (echoD 9 (0 : Int).toNat (2 : Int).toNat (0 : Int).toNat (ab 4611686018427387904)) 2 DA 0 2 0 4611686018427387904 = [(0, 3, 4621256167635550208), (0, 6, 4613937818241073152), (1, 3, 4621256167635550208), (1, 6, 4613937818241073152)] := by decide +kernel
set_option maxRecDepth 20000 in
theorem x5e : mpE (echoD 9 (0 : Int).toNat (2 : Int).toNat (0 : Int).toNat (ab 4611686018427387904)) 2 DA 0 2 0 4611686018427387904 = 0 := by decide +kernel
theorem x6e : mpE (echoD 0 (0 : Int).toNat (2 : Int).toNat (0 : Int).toNat (ab 4611686018427387904)) 2 DB 0 2 0 4611686018427387904 = 5 := by
  unfold mpE
  have : mapE 2 DB = 5 := by decide +kernel
  rw [this]; rfl
theorem mv_two {w : World} {g : Nat} {q1 q2 : Option Addr} {c1 c2 : Nat} {D : Nat → Array Nat} (k1 : w.cell? ⟨g, 0, none⟩ = some (.slice q1 (D 0).size c1)) (k2 : w.cell? ⟨g, 1, none⟩ = some (.slice q2 (D 1).size c2)) (s1 : SV w q1 (D 0).size c1 (D 0)) (s2 : SV w q2 (D 1).size c2 (D 1)) (z1 : (D 0).size ≤ 1000) (z2 : (D 1).size ≤ 1000) : MV w (some ⟨g, 0, none⟩) 2 2 D := by
  refine ⟨by omega, fun _ => ⟨g, 0, rfl, fun i hi => ?_⟩, fun i hi => ?_⟩
  · rcases (show i = 0 ∨ i = 1 by omega) with rfl | rfl
    · exact ⟨q1, c1, k1, s1⟩
    · exact ⟨q2, c2, k2, s2⟩
  · rcases (show i = 0 ∨ i = 1 by omega) with rfl | rfl <;> omega
theorem eg28 (args : Array Value) (w : World) : (callFunc 28 args).run Try.prog w = .ok (.enter 28 args) w := enters Try.func28 (by kernel_rfl) (by kernel_rfl) _ _
/-- What is known all along: the list, and where it lies. -/
structure KN (b l : Nat) (w : World) : Prop where
  at_ : w.cell? ⟨b, 0, none⟩ = some (.slice (some ⟨l, 0, none⟩) 7 7)
  sv : SV w (some ⟨l, 0, none⟩) 7 7 dk
theorem KN.up {b l : Nat} {w w' : World} (h : KN b l w) (hu : Up w w') : KN b l w' := ⟨cell_up h.at_ hu, h.sv.up hu⟩
theorem mv_aa {b l : Nat} {w : World} (h : KN b l w) : MV (w.alloc (.cells #[.slice (some ⟨l, 0, none⟩) 7 7, .slice (some ⟨l, 0, none⟩) 7 7] 22)) (some ⟨w.heap.size, 0, none⟩) 2 2 DA :=
  mv_two (D := DA) (two_cells w _ _ 0).1 (two_cells w _ _ 0).2 (h.sv.up (Up.alloc _ _)) (h.sv.up (Up.alloc _ _)) (by decide) (by decide)
theorem mv_ab {b l : Nat} {w : World} (h : KN b l w) : MV ((w.alloc (.cells #[.float .f64 4607182418800017408] 24)).alloc (.cells #[.slice (some ⟨l, 0, none⟩) 7 7, .slice (some ⟨w.heap.size, 0, none⟩) 1 1] 22)) (some ⟨w.heap.size + 1, 0, none⟩) 2 2 DB := by
  have h1 := two_cells (w.alloc (.cells #[.float .f64 4607182418800017408] 24)) (.slice (some ⟨l, 0, none⟩) 7 7) (.slice (some ⟨w.heap.size, 0, none⟩) 1 1) 0
  rw [show (w.alloc (.cells #[.float .f64 4607182418800017408] 24)).heap.size = w.heap.size + 1 by simp] at h1
  exact mv_two (D := DB) h1.1 h1.2 (h.sv.up ((Up.alloc _ _).trans (Up.alloc _ _))) ((sv_one w 4607182418800017408 (by decide)).up (Up.alloc _ _)) (by decide) (by decide)
theorem x6 : mpL (echoD 0 (0 : Int).toNat (2 : Int).toNat (0 : Int).toNat (ab 4611686018427387904)) 2 DB 0 2 0 4611686018427387904 = [] := by
  unfold mpL; rw [x6e]; rfl
theorem eg15 (args : Array Value) (w : World) : (callFunc 15 args).run Try.prog w = .ok (.enter 15 args) w := enters Try.func15 (by kernel_rfl) (by kernel_rfl) _ _
theorem map_known {w : World} {p : Option Addr} {n cap x : Nat} {D : Nat → Array Nat} {way g t m c : Int} {L : List Spt} (h : MV w p n cap D) (h1 : -128 ≤ way) (h2 : way ≤ 127) (hv : mpL (echoD way g.toNat t.toNat m.toNat (ab x)) n D g t m x = L) (hc : mpE (echoD way g.toNat t.toNat m.toNat (ab x)) n D g t m x = c) :
    Calls Try.prog 17 #[.slice p n cap, .int .i8 way, .int .i64 g, .int .i64 t, .int .i64 m, .float .f64 x] w fun e w' => ∃ q c2, e = .returned (.tuple #[.slice q L.length c2, .int .i64 c]) ∧ Hid (SO w.heap.size w' (.slice q L.length c2) L) ∧ Hid (Up w w') :=
  (t17 g t m h1 h2 h).mono fun _ _ ⟨q, c2, he, hr, hu⟩ => by
    rw [hv, hc] at he
    rw [hv] at hr
    exact ⟨q, c2, he, hr, hu⟩
theorem so_cells {b : Nat} {w : World} {q : Option Addr} {c : Nat} {L : List Spt} (hl : 0 < L.length) (h : SO b w (.slice q L.length c) L) : ∃ g, q = some ⟨g, 0, none⟩ ∧ ∀ i, i < L.length * 3 → w.cell? ⟨g, i, none⟩ = (L.flatMap spC)[i]? := by
  obtain ⟨p', c', e, hp⟩ := own_form h
  obtain ⟨g, hg⟩ := hp hl
  simp only [Value.slice.injEq] at e
  refine ⟨g, e.1.trans hg, fun i hi => ?_⟩
  have h2 := h
  rw [e.1, hg] at h2
  exact World.ownsRow.cellAt h2 i hi
set_option maxRecDepth 20000 in
set_option maxHeartbeats 4000000 in
theorem t7k (w : World) : Calls Try.prog 7 #[] w (TU w) := by
  have e9 : eqF (ab 4621256167635550208) (ab 4621256167635550208) = true := by decide +kernel
  have S7 : Hid (SV (((w.alloc (.cells #[.float .f64 4607182418800017408, .float .f64 4607182418800017408, .float .f64 4607182418800017408, .float .f64 4621256167635550208, .float .f64 4607182418800017408, .float .f64 4607182418800017408, .float .f64 4613937818241073152] 24)).alloc (.cells #[.slice (some ⟨w.heap.size, 0, none⟩) 7 7] 22)).alloc (.cells #[.float .f64 4619567317775286272] 24)) (some ⟨w.heap.size + 1 + 1, 0, none⟩) 1 1 d7) := by
    have := sv_one ((w.alloc (.cells #[.float .f64 4607182418800017408, .float .f64 4607182418800017408, .float .f64 4607182418800017408, .float .f64 4621256167635550208, .float .f64 4607182418800017408, .float .f64 4607182418800017408, .float .f64 4613937818241073152] 24)).alloc (.cells #[.slice (some ⟨w.heap.size, 0, none⟩) 7 7] 22)) 4619567317775286272 (by decide)
    rw [show ((w.alloc (.cells #[.float .f64 4607182418800017408, .float .f64 4607182418800017408, .float .f64 4607182418800017408, .float .f64 4621256167635550208, .float .f64 4607182418800017408, .float .f64 4607182418800017408, .float .f64 4613937818241073152] 24)).alloc (.cells #[.slice (some ⟨w.heap.size, 0, none⟩) 7 7] 22)).heap.size = w.heap.size + 1 + 1 by simp] at this
    exact this
  have K0 : Hid (KN (w.heap.size + 1) w.heap.size (((w.alloc (.cells #[.float .f64 4607182418800017408, .float .f64 4607182418800017408, .float .f64 4607182418800017408, .float .f64 4621256167635550208, .float .f64 4607182418800017408, .float .f64 4607182418800017408, .float .f64 4613937818241073152] 24)).alloc (.cells #[.slice (some ⟨w.heap.size, 0, none⟩) 7 7] 22)).alloc (.cells #[.float .f64 4619567317775286272] 24))) := by
    refine KN.up (w := (w.alloc (.cells #[.float .f64 4607182418800017408, .float .f64 4607182418800017408, .float .f64 4607182418800017408, .float .f64 4621256167635550208, .float .f64 4607182418800017408, .float .f64 4607182418800017408, .float .f64 4613937818241073152] 24)).alloc (.cells #[.slice (some ⟨w.heap.size, 0, none⟩) 7 7] 22)) ⟨?_, (sv_dk w).up (Up.alloc _ _)⟩ (Up.alloc _ _)
    have : ((w.alloc (.cells #[.float .f64 4607182418800017408, .float .f64 4607182418800017408, .float .f64 4607182418800017408, .float .f64 4621256167635550208, .float .f64 4607182418800017408, .float .f64 4607182418800017408, .float .f64 4613937818241073152] 24)).alloc (.cells #[.slice (some ⟨w.heap.size, 0, none⟩) 7 7] 22)).cell? ⟨w.heap.size + 1, 0, none⟩ = #[Value.slice (some ⟨w.heap.size, 0, none⟩) 7 7][0]? := World.cell?_alloc_at _ _ _ _ (by simp)
    rw [this]; rfl
  have U0 : Hid (Up w (((w.alloc (.cells #[.float .f64 4607182418800017408, .float .f64 4607182418800017408, .float .f64 4607182418800017408, .float .f64 4621256167635550208, .float .f64 4607182418800017408, .float .f64 4607182418800017408, .float .f64 4613937818241073152] 24)).alloc (.cells #[.slice (some ⟨w.heap.size, 0, none⟩) 7 7] 22)).alloc (.cells #[.float .f64 4619567317775286272] 24))) := ((Up.alloc _ _).trans (Up.alloc _ _)).trans (Up.alloc _ _)
  go_enter Try.func7, Try.ntmps7
  go_wp2_with (first
    | (go_at_call 11; (with_reducible refine (lev_known S7.out (by decide) (by decide) x1 x1e).mono ?_); rintro e w1 ⟨rfl, HU1⟩; (have K1 : Hid (KN (w.heap.size + 1) w.heap.size w1) := K0.out.up HU1.out); (have U1 : Hid (Up w w1) := U0.out.trans HU1.out); (have k1 := K1.out.at_); clear K0 U0 S7 HU1)
    | (go_at_call 11; (with_reducible refine (lev_known K1.out.sv (by decide) (by decide) x2 x2e).mono ?_); rintro e w2 ⟨rfl, HU2⟩; (have K2 : Hid (KN (w.heap.size + 1) w.heap.size w2) := K1.out.up HU2.out); (have U2 : Hid (Up w w2) := U1.out.trans HU2.out); (have k2 := K2.out.at_); clear K1 U1 HU2 k1)
    | (go_at_call 11; (with_reducible refine (lev_known K2.out.sv (by decide) (by decide) x3 x3e).mono ?_); rintro e w3 ⟨rfl, HU3⟩; (have K3 : Hid (KN (w.heap.size + 1) w.heap.size w3) := K2.out.up HU3.out); (have U3 : Hid (Up w w3) := U2.out.trans HU3.out); clear K2 U2 HU3 k2))
  refine wp_region_ord 7 [(0, some false), (1, some true), (2, some true), (3, none), (4, none), (5, none), (6, none)] (KN (w.heap.size + 1) w.heap.size) (by kernel_rfl) (by decide) rfl (by kernel_rfl) (fun _ _ d _ _ h => by cases d <;> exact h) (by exact K3.out.up (Up.drewN _ 1)) ?_
  refine ⟨_, .slice (some ⟨w.heap.size, 0, none⟩) 7 7, some 35, rfl, rfl, Or.inl ⟨rfl, fun w' hS => ?_⟩, ?_⟩
  · obtain ⟨l0, l1⟩ := hS
    go_simp
  refine wpOp_call (f := 28) rfl rfl rfl #[] (by kernel_rfl) (eg28 _ _) ?_
  refine (t28 _).mono ?_
  rintro e w' ⟨rfl, hw⟩
  subst hw
  refine ⟨_, rfl, K3.out.up (Up.drewN _ 1), ?_⟩
  have K4 : Hid (KN (w.heap.size + 1) w.heap.size w3.drew) := K3.out.up (Up.drewN _ 1)
  have U4 : Hid (Up w w3.drew) := U3.out.trans (Up.drewN _ 1)
  clear K3 U3
  refine wpOp_call (f := 15) rfl rfl rfl #[.slice (some ⟨w.heap.size, 0, none⟩) 7 7, .int .i8 0, .int .i64 0, .int .i64 2, .int .i64 0, .float .f64 9221120237041090561] (by kernel_rfl) (eg15 _ _) ?_
  refine (lin_known K4.out.sv (by decide) (by decide) x4 x4e).mono ?_
  rintro e w5 ⟨q5, c5, rfl, HB5, HU5⟩
  have K5 : Hid (KN (w.heap.size + 1) w.heap.size w5) := K4.out.up HU5.out
  have U5 : Hid (Up w w5) := U4.out.trans HU5.out
  have k5 := K5.out.at_
  clear K4 U4 HU5 HB5
  refine ⟨_, rfl, K5.out, ?_⟩
  refine ⟨_, .tuple #[.slice q5 0 c5, .int .i64 6], some 34, rfl, rfl, Or.inl ⟨rfl, fun w' hS => ?_⟩, ?_⟩
  · go_simp
  refine ⟨_, .slice q5 0 c5, some 38, rfl, rfl, Or.inl ⟨rfl, fun w' hS => ?_⟩, ?_⟩
  · go_simp
  refine ⟨_, .int .i64 6, some 39, rfl, rfl, Or.inl ⟨rfl, fun w' hS => ?_⟩, ?_⟩
  · go_simp
  refine ⟨_, .slice q5 0 c5, some 9, rfl, rfl, Or.inl ⟨rfl, fun w' hS => ?_⟩, ?_⟩
  · go_simp
  simp only [OrdW, List.drop_succ_cons, List.drop_zero, Act.put, List.setIfInBounds_toArray, List.set_cons_succ, List.set_cons_zero]
  go_wp2_with (first
    | (go_at_call 17; (with_reducible refine (map_known (mv_aa K5.out) (by decide) (by decide) x5 x5e).mono ?_); rintro e w6 ⟨q6, c6, rfl, HS6, HU6⟩; (have K6 : Hid (KN (w.heap.size + 1) w.heap.size w6) := (K5.out.up (Up.alloc _ _)).up HU6.out); (have U6 : Hid (Up w w6) := (U5.out.trans (Up.alloc _ _)).trans HU6.out); (have k6 := K6.out.at_); clear K5 U5 HU6 k5)
    | (go_at_call 17; (with_reducible refine (map_known (mv_ab K6.out) (by decide) (by decide) x6 x6e).mono ?_); rintro e w7 ⟨q7, c7, rfl, HS7, HU7⟩; (have K7 : Hid (KN (w.heap.size + 1) w.heap.size w7) := (K6.out.up ((Up.alloc _ _).trans (Up.alloc _ _))).up HU7.out); (have U7 : Hid (Up w w7) := (U6.out.trans ((Up.alloc _ _).trans (Up.alloc _ _))).trans HU7.out); (have Q7 : Hid (SO _ w7 (.slice q6 4 c6) [(0, 3, 4621256167635550208), (0, 6, 4613937818241073152), (1, 3, 4621256167635550208), (1, 6, 4613937818241073152)]) := HS6.out.up (((Up.alloc _ _).trans (Up.alloc _ _)).trans HU7.out)); clear K6 U6 HS7 k6 HU7 HS6)
    | (go_at_call 27; (with_reducible refine (t27 K7.out.at_ K7.out.sv (by decide) (by decide) z0 y0 (by decide +kernel)).mono ?_); rintro e w20 ⟨rfl, V0⟩; (have K8 : Hid (KN (w.heap.size + 1) w.heap.size w20) := K7.out.up V0.out); (have U8 : Hid (Up w w20) := U7.out.trans V0.out); (have Q8 : Hid (SO _ w20 (.slice q6 4 c6) [(0, 3, 4621256167635550208), (0, 6, 4613937818241073152), (1, 3, 4621256167635550208), (1, 6, 4613937818241073152)]) := Q7.out.up V0.out); clear K7 U7 V0 Q7)
    | (go_at_call 27; (with_reducible refine (t27 K8.out.at_ K8.out.sv (by decide) (by decide) z1 y1 (by decide +kernel)).mono ?_); rintro e w21 ⟨rfl, V1⟩; (have K9 : Hid (KN (w.heap.size + 1) w.heap.size w21) := K8.out.up V1.out); (have U9 : Hid (Up w w21) := U8.out.trans V1.out); (have Q9 : Hid (SO _ w21 (.slice q6 4 c6) [(0, 3, 4621256167635550208), (0, 6, 4613937818241073152), (1, 3, 4621256167635550208), (1, 6, 4613937818241073152)]) := Q8.out.up V1.out); clear K8 U8 V1 Q8)
    | (go_at_call 27; (with_reducible refine (t27 K9.out.at_ K9.out.sv (by decide) (by decide) z2 y2 (by decide +kernel)).mono ?_); rintro e w22 ⟨rfl, V2⟩; (have K10 : Hid (KN (w.heap.size + 1) w.heap.size w22) := K9.out.up V2.out); (have U10 : Hid (Up w w22) := U9.out.trans V2.out); (have Q10 : Hid (SO _ w22 (.slice q6 4 c6) [(0, 3, 4621256167635550208), (0, 6, 4613937818241073152), (1, 3, 4621256167635550208), (1, 6, 4613937818241073152)]) := Q9.out.up V2.out); clear K9 U9 V2 Q9)
    | (go_at_call 27; (with_reducible refine (t27 K10.out.at_ K10.out.sv (by decide) (by decide) z3 y3 (by decide +kernel)).mono ?_); rintro e w23 ⟨rfl, V3⟩; (have K11 : Hid (KN (w.heap.size + 1) w.heap.size w23) := K10.out.up V3.out); (have U11 : Hid (Up w w23) := U10.out.trans V3.out); (have Q11 : Hid (SO _ w23 (.slice q6 4 c6) [(0, 3, 4621256167635550208), (0, 6, 4613937818241073152), (1, 3, 4621256167635550208), (1, 6, 4613937818241073152)]) := Q10.out.up V3.out); clear K10 U10 V3 Q10)
    | (go_at_call 27; (with_reducible refine (t27 K11.out.at_ K11.out.sv (by decide) (by decide) z4 y4 (by decide +kernel)).mono ?_); rintro e w24 ⟨rfl, V4⟩; (have K12 : Hid (KN (w.heap.size + 1) w.heap.size w24) := K11.out.up V4.out); (have U12 : Hid (Up w w24) := U11.out.trans V4.out); (have Q12 : Hid (SO _ w24 (.slice q6 4 c6) [(0, 3, 4621256167635550208), (0, 6, 4613937818241073152), (1, 3, 4621256167635550208), (1, 6, 4613937818241073152)]) := Q11.out.up V4.out); clear K11 U11 V4 Q11)
    | (go_at_call 27; (with_reducible refine (t27 K12.out.at_ K12.out.sv (by decide) (by decide) z5 y5 (by decide +kernel)).mono ?_); rintro e w25 ⟨rfl, V5⟩; (have K13 : Hid (KN (w.heap.size + 1) w.heap.size w25) := K12.out.up V5.out); (have U13 : Hid (Up w w25) := U12.out.trans V5.out); (have Q13 : Hid (SO _ w25 (.slice q6 4 c6) [(0, 3, 4621256167635550208), (0, 6, 4613937818241073152), (1, 3, 4621256167635550208), (1, 6, 4613937818241073152)]) := Q12.out.up V5.out); clear K12 U12 V5 Q12)
    | (go_at_call 27; (with_reducible refine (t27 K13.out.at_ K13.out.sv (by decide) (by decide) z6 y6 (by decide +kernel)).mono ?_); rintro e w26 ⟨rfl, V6⟩; (have K14 : Hid (KN (w.heap.size + 1) w.heap.size w26) := K13.out.up V6.out); (have U14 : Hid (Up w w26) := U13.out.trans V6.out); (have Q14 : Hid (SO _ w26 (.slice q6 4 c6) [(0, 3, 4621256167635550208), (0, 6, 4613937818241073152), (1, 3, 4621256167635550208), (1, 6, 4613937818241073152)]) := Q13.out.up V6.out); clear K13 U13 V6 Q13)
    | (go_at_call 29; (with_reducible refine (t29i _).mono ?_); rintro e w' ⟨rfl, hw⟩; subst w'; (obtain ⟨g6, hq6, hc6⟩ := so_cells (by decide) Q14.out); subst hq6; (have a6 : w26.cell? ⟨g6, 6, none⟩ = some (.int .i64 1) := hc6 6 (by decide)); (have a7 : w26.cell? ⟨g6, 7, none⟩ = some (.int .i64 3) := hc6 7 (by decide)); (have a8 : w26.cell? ⟨g6, 8, none⟩ = some (.float .f64 4621256167635550208) := hc6 8 (by decide)); clear hc6 Q14)
    | (go_at_call 9; (with_reducible refine (t9 _).mono ?_); rintro e w30 ⟨rfl, HU30⟩))
  go_ret
  exact ⟨rfl, U14.out.trans HU30.out⟩
end Go.Proofs.Ytfggdaebahdnfaa
