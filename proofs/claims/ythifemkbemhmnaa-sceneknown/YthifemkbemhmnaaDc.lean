/- SceneKnown: its closed calls. -/
import Derived.Test.YthifemkbemhmnaaDb
namespace Go.Proofs.Ythifemkbemhmnaa
open Go.ChangeShapes Go.WideShapes Go.ChangeAt Go.RowKit Go.Fl Ieee
attribute [local go_sem] run_store_float run_store_c isSome_set call69 call32 run_neg fold_eq fold_ne fold_lt fold_gt abs_eq

def kx : List (Nat × Nat) := [(0, 0), (0, 0), (0, 0), (0, 0), (0, 0), (0, 0), (0, 0), (4607182418800017408, 0), (4607182418800017408, 0), (0, 0), (0, 0), (0, 0), (0, 0), (0, 0), (0, 0), (4607182418800017408, 0)]
def ky : List (Nat × Nat) := [(0, 0), (0, 0), (0, 0), (0, 0), (0, 0), (0, 0), (0, 0), (0, 0), (0, 0), (4607182418800017408, 0), (4607182418800017408, 0), (0, 0), (0, 0), (0, 0), (0, 0), (0, 0)]
def kz : List (Nat × Nat) := [(0, 0), (0, 0), (0, 0), (0, 0), (0, 0), (0, 0), (0, 0), (0, 0), (0, 0), (0, 0), (0, 0), (0, 0), (0, 0), (0, 0), (0, 0), (0, 0)]
def kq : List (Nat × Nat) := [(0, 0), (0, 0), (0, 0), (0, 4607182418800017408), (0, 4607182418800017408), (0, 0), (0, 0), (0, 0), (0, 0), (0, 0), (0, 0), (0, 4607182418800017408), (0, 4607182418800017408), (0, 0), (0, 0), (0, 0)]
def km : List (Nat × Nat) := [(0, 0), (0, 0), (0, 0), (4607182418800017408, 0), (4607182418800017408, 0), (0, 0), (0, 0), (0, 0), (0, 0), (0, 0), (0, 0), (0, 0), (4607182418800017408, 0), (4607182418800017408, 0), (0, 0), (0, 0)]
/-- The beat, the pulse, and the tables that are known by now. -/
structure KS (w W : World) (g gp : Nat) (L : List (Nat × Nat × List (Nat × Nat))) : Prop where
  bc : BC W g 4621819117588971520 4602678819172646912 4652007308841189376 8 2
  rp : RP W gp
  up : Up w W
  tb : ∀ t ∈ L, TB W t.1 2 (fun i => some ⟨t.2.1, i * 8, none⟩) (fun _ => 8) (fun _ => 8) ∧ RD W t.2.1 0 16 (fun j => t.2.2[j]!)
theorem KS.grow {w W W' : World} {g gp : Nat} {L : List (Nat × Nat × List (Nat × Nat))} (h : KS w W g gp L) (u : Up W W') : KS w W' g gp L :=
  ⟨h.bc.up u, h.rp.up u, h.up.trans u, fun t ht => ⟨(h.tb t ht).1.up u, (h.tb t ht).2.up u⟩⟩
def SK (w : World) (g gp : Nat) (L : List (Nat × Nat × List (Nat × Nat))) (K : List (Nat × Nat)) (e : Ending) (W : World) : Prop := ∃ A B, e = .returned (.tuple #[.slice (some ⟨A, 0, none⟩) 2 2, .int .i64 0]) ∧ Hid (KS w W g gp ((A, B, K) :: L))
def SE (w W0 : World) (g gp : Nat) (L : List (Nat × Nat × List (Nat × Nat))) (z : Int) (e : Ending) (W : World) : Prop := e = .returned (.tuple #[.slice none 0 0, .int .i64 z]) ∧ Hid (KS w W g gp L) ∧ Hid (Up W0 W)
theorem KS.kt {w W W' : World} {g gp : Nat} {L : List (Nat × Nat × List (Nat × Nat))} {K : List (Nat × Nat)} {e : Ending} (h : KS w W g gp L) (k : KT W 2 8 K e W') : SK w g gp L K e W' := by
  obtain ⟨A, B, he, h1, h2, h3⟩ := k
  refine ⟨A, B, he, ?_⟩
  have q := h.grow h3.out
  exact ⟨q.bc, q.rp, q.up, fun t ht => by
    rcases List.mem_cons.1 ht with rfl | ht
    · exact ⟨h1.out, h2.out⟩
    · exact q.tb t ht⟩
theorem KS.er {w W W' : World} {g gp : Nat} {L : List (Nat × Nat × List (Nat × Nat))} {z : Int} {e : Ending} (h : KS w W g gp L) (k : ER z W e W') : SE w W g gp L z e W' := ⟨k.1, h.grow k.2.out, k.2⟩
section
variable {w W : World} {g gp : Nat} {L : List (Nat × Nat × List (Nat × Nat))}
theorem ex (h : KS w W g gp L) : Calls Try.prog 7 #[.agg #[.float .f64 4621819117588971520, .float .f64 4602678819172646912, .float .f64 4652007308841189376, .int .i64 8, .int .i64 2], .slice (some ⟨gp, 0, none⟩) 2 2, .agg #[.float .f64 4634626229029306368, .float .f64 0, .float .f64 4607182418800017408, .float .f64 0, .float .f64 0], .float .f64 0] W (SK w g gp L kx) :=
  (ke 4634626229029306368 0 4607182418800017408 0 0 kx h.rp (by decide +kernel) (by decide +kernel)).mono fun _ _ k => h.kt k
theorem ey (h : KS w W g gp L) : Calls Try.prog 7 #[.agg #[.float .f64 4621819117588971520, .float .f64 4602678819172646912, .float .f64 4652007308841189376, .int .i64 8, .int .i64 2], .slice (some ⟨gp, 0, none⟩) 2 2, .agg #[.float .f64 4636033603912859648, .float .f64 0, .float .f64 4607182418800017408, .float .f64 0, .float .f64 0], .float .f64 0] W (SK w g gp L ky) :=
  (ke 4636033603912859648 0 4607182418800017408 0 0 ky h.rp (by decide +kernel) (by decide +kernel)).mono fun _ _ k => h.kt k
theorem ez (h : KS w W g gp L) : Calls Try.prog 7 #[.agg #[.float .f64 4621819117588971520, .float .f64 4602678819172646912, .float .f64 4652007308841189376, .int .i64 8, .int .i64 2], .slice (some ⟨gp, 0, none⟩) 2 2, .agg #[.float .f64 13845191154443747328, .float .f64 0, .float .f64 4607182418800017408, .float .f64 0, .float .f64 0], .float .f64 0] W (SK w g gp L kz) :=
  (ke 13845191154443747328 0 4607182418800017408 0 0 kz h.rp (by decide +kernel) (by decide +kernel)).mono fun _ _ k => h.kt k
theorem ew (h : KS w W g gp L) : Calls Try.prog 7 #[.agg #[.float .f64 4621819117588971520, .float .f64 4602678819172646912, .float .f64 4652007308841189376, .int .i64 8, .int .i64 2], .slice (some ⟨gp, 0, none⟩) 2 2, .agg #[.float .f64 9094988921128908188, .float .f64 0, .float .f64 4607182418800017408, .float .f64 0, .float .f64 0], .float .f64 0] W (SK w g gp L kz) :=
  (ke 9094988921128908188 0 4607182418800017408 0 0 kz h.rp (by decide +kernel) (by decide +kernel)).mono fun _ _ k => h.kt k
theorem eqe (h : KS w W g gp L) : Calls Try.prog 7 #[.agg #[.float .f64 4621819117588971520, .float .f64 4602678819172646912, .float .f64 4652007308841189376, .int .i64 8, .int .i64 2], .slice (some ⟨gp, 0, none⟩) 2 2, .agg #[.float .f64 4629137466983448576, .float .f64 0, .float .f64 4607182418800017408, .float .f64 4598175219545276416, .float .f64 9221120237041090561], .float .f64 0] W (SK w g gp L kq) :=
  (ke 4629137466983448576 0 4607182418800017408 4598175219545276416 9221120237041090561 kq h.rp (by decide +kernel) (by decide +kernel)).mono fun _ _ k => h.kt k
theorem em (h : KS w W g gp L) : Calls Try.prog 7 #[.agg #[.float .f64 4621819117588971520, .float .f64 4602678819172646912, .float .f64 4652007308841189376, .int .i64 8, .int .i64 2], .slice (some ⟨gp, 0, none⟩) 2 2, .agg #[.float .f64 4629137466983448576, .float .f64 4653212373585231872, .float .f64 4607182418800017408, .float .f64 0, .float .f64 0], .float .f64 0] W (SK w g gp L km) :=
  (ke 4629137466983448576 4653212373585231872 4607182418800017408 0 0 km h.rp (by decide +kernel) (by decide +kernel)).mono fun _ _ k => h.kt k
theorem r1 (h : KS w W g gp L) : Calls Try.prog 7 #[.agg #[.float .f64 4621819117588971520, .float .f64 4602678819172646912, .float .f64 4652007308841189376, .int .i64 8, .int .i64 2], .slice none 0 0, .agg #[.float .f64 0, .float .f64 0, .float .f64 0, .float .f64 0, .float .f64 0], .float .f64 0] W (SE w W g gp L 2) :=
  (ech_err (cc := 4621819117588971520) (vv := 4602678819172646912) (rr := 4652007308841189376) (R := 2) (E := 8) (n := 0) (b3 := true) (b5 := true) rfl (by omega) (by decide +kernel) (by decide +kernel) (by decide +kernel) (by decide)).mono fun _ _ k => h.er k
theorem r2 (h : KS w W g gp L) : Calls Try.prog 7 #[.agg #[.float .f64 4621819117588971520, .float .f64 4602678819172646912, .float .f64 4652007308841189376, .int .i64 8, .int .i64 2], .slice (some ⟨gp, 0, none⟩) 2 2, .agg #[.float .f64 9221120237041090561, .float .f64 0, .float .f64 0, .float .f64 0, .float .f64 0], .float .f64 0] W (SE w W g gp L 6) :=
  (ech_err (cc := 4621819117588971520) (vv := 4602678819172646912) (rr := 4652007308841189376) (R := 2) (E := 8) (n := 2) (b3 := true) (b5 := false) rfl (by omega) (by decide +kernel) (by decide +kernel) (by decide +kernel) (by decide)).mono fun _ _ k => h.er k
theorem r5 (h : KS w W g gp L) : Calls Try.prog 7 #[.agg #[.float .f64 0, .float .f64 0, .float .f64 0, .int .i64 0, .int .i64 0], .slice (some ⟨gp, 0, none⟩) 2 2, .agg #[.float .f64 0, .float .f64 0, .float .f64 0, .float .f64 0, .float .f64 0], .float .f64 0] W (SE w W g gp L 80) :=
  (ech_err (cc := 0) (vv := 0) (rr := 0) (R := 0) (E := 0) (n := 2) (b3 := true) (b5 := true) rfl (by omega) (by decide +kernel) (by decide +kernel) (by decide +kernel) (by decide)).mono fun _ _ k => h.er k
theorem r6 (h : KS w W g gp L) {gq : Nat} : Calls Try.prog 7 #[.agg #[.float .f64 4621819117588971520, .float .f64 4602678819172646912, .float .f64 4652007308841189376, .int .i64 8, .int .i64 2], .slice (some ⟨gq, 0, none⟩) 16385 16385, .agg #[.float .f64 0, .float .f64 0, .float .f64 0, .float .f64 0, .float .f64 0], .float .f64 0] W (SE w W g gp L 3) :=
  (ech_err (cc := 4621819117588971520) (vv := 4602678819172646912) (rr := 4652007308841189376) (R := 2) (E := 8) (n := 16385) (b3 := true) (b5 := true) rfl (by omega) (by decide +kernel) (by decide +kernel) (by decide +kernel) (by decide)).mono fun _ _ k => h.er k
theorem n1 (h : KS w W g gp L) : Calls Try.prog 7 #[.agg #[.float .f64 4621819117588971520, .float .f64 4602678819172646912, .float .f64 4652007308841189376, .int .i64 8, .int .i64 2], .slice (some ⟨gp, 0, none⟩) 2 2, .agg #[.float .f64 0, .float .f64 9221120237041090561, .float .f64 0, .float .f64 0, .float .f64 0], .float .f64 0] W (SE w W g gp L 6) :=
  (ech_err (cc := 4621819117588971520) (vv := 4602678819172646912) (rr := 4652007308841189376) (R := 2) (E := 8) (n := 2) (b3 := true) (b5 := false) rfl (by omega) (by decide +kernel) (by decide +kernel) (by decide +kernel) (by decide)).mono fun _ _ k => h.er k
theorem n2 (h : KS w W g gp L) : Calls Try.prog 7 #[.agg #[.float .f64 4621819117588971520, .float .f64 4602678819172646912, .float .f64 4652007308841189376, .int .i64 8, .int .i64 2], .slice (some ⟨gp, 0, none⟩) 2 2, .agg #[.float .f64 0, .float .f64 0, .float .f64 9221120237041090561, .float .f64 0, .float .f64 0], .float .f64 0] W (SE w W g gp L 6) :=
  (ech_err (cc := 4621819117588971520) (vv := 4602678819172646912) (rr := 4652007308841189376) (R := 2) (E := 8) (n := 2) (b3 := true) (b5 := false) rfl (by omega) (by decide +kernel) (by decide +kernel) (by decide +kernel) (by decide)).mono fun _ _ k => h.er k
theorem n3 (h : KS w W g gp L) : Calls Try.prog 7 #[.agg #[.float .f64 4621819117588971520, .float .f64 4602678819172646912, .float .f64 4652007308841189376, .int .i64 8, .int .i64 2], .slice (some ⟨gp, 0, none⟩) 2 2, .agg #[.float .f64 0, .float .f64 0, .float .f64 0, .float .f64 9221120237041090561, .float .f64 0], .float .f64 0] W (SE w W g gp L 6) :=
  (ech_err (cc := 4621819117588971520) (vv := 4602678819172646912) (rr := 4652007308841189376) (R := 2) (E := 8) (n := 2) (b3 := true) (b5 := false) rfl (by omega) (by decide +kernel) (by decide +kernel) (by decide +kernel) (by decide)).mono fun _ _ k => h.er k
theorem r3 (h : KS w W g gp L) : Calls Try.prog 16 #[.agg #[.float .f64 4621819117588971520, .float .f64 4602678819172646912, .float .f64 4652007308841189376, .int .i64 8, .int .i64 2], .slice (some ⟨gp, 0, none⟩) 2 2, .slice none 0 0, .float .f64 0, .float .f64 13830554455654793216, .int .u64 0] W (SE w W g gp L 6) :=
  (row_err (cc := 4621819117588971520) (vv := 4602678819172646912) (rr := 4652007308841189376) (R := 2) (E := 8) (n := 2) (T := 0) (b3 := true) (b4 := true) (b5 := true) rfl (by omega) (by omega) (by decide +kernel) (by decide +kernel) (fun _ w' _ => t58z _ _ _) (by decide +kernel) (by decide)).mono fun _ _ k => h.er k
theorem r4 (h : KS w W g gp L) {gq : Nat} : Calls Try.prog 16 #[.agg #[.float .f64 4621819117588971520, .float .f64 4602678819172646912, .float .f64 4652007308841189376, .int .i64 8, .int .i64 2], .slice (some ⟨gp, 0, none⟩) 2 2, .slice (some ⟨gq, 0, none⟩) 257 257, .float .f64 0, .float .f64 0, .int .u64 0] W (SE w W g gp L 3) :=
  (row_err (cc := 4621819117588971520) (vv := 4602678819172646912) (rr := 4652007308841189376) (R := 2) (E := 8) (n := 2) (T := 257) (b3 := true) (b4 := false) (b5 := true) rfl (by omega) (by omega) (by decide +kernel) (by decide +kernel) (fun hm => absurd hm (by decide)) (by decide +kernel) (by decide)).mono fun _ _ k => h.er k
theorem r7 (h : KS w W g gp L) : Calls Try.prog 16 #[.agg #[.float .f64 4621819117588971520, .float .f64 4602678819172646912, .float .f64 4652007308841189376, .int .i64 8, .int .i64 2], .slice (some ⟨gp, 0, none⟩) 2 2, .slice none 0 0, .float .f64 9218868437227405312, .float .f64 0, .int .u64 0] W (SE w W g gp L 6) :=
  (row_err (cc := 4621819117588971520) (vv := 4602678819172646912) (rr := 4652007308841189376) (R := 2) (E := 8) (n := 2) (T := 0) (b3 := false) (b4 := false) (b5 := true) rfl (by omega) (by omega) (by decide +kernel) (by decide +kernel) (fun _ w' _ => t58z _ _ _) (by decide +kernel) (by decide)).mono fun _ _ k => h.er k
/-- Two targets, the second of which is no number. -/
theorem rn (h : KS w W g gp L) {W2 : World} {gq r s a t : Nat} (hb : finT ⟨r, s, a, t, 0⟩ = false) (hg : gq = W.heap.size) (hw : W2 = W.alloc (.cells #[.float .f64 0, .float .f64 0, .float .f64 4607182418800017408, .float .f64 0, .float .f64 0, .float .f64 r, .float .f64 s, .float .f64 a, .float .f64 t, .float .f64 0] 34)) :
    Calls Try.prog 16 #[.agg #[.float .f64 4621819117588971520, .float .f64 4602678819172646912, .float .f64 4652007308841189376, .int .i64 8, .int .i64 2], .slice (some ⟨gp, 0, none⟩) 2 2, .slice (some ⟨gq, 0, none⟩) 2 2, .float .f64 0, .float .f64 0, .int .u64 1] W2 (SE w W2 g gp L 6) := by
  subst hg hw
  exact (row_err (cc := 4621819117588971520) (vv := 4602678819172646912) (rr := 4652007308841189376) (R := 2) (E := 8) (n := 2) (T := 2) (b3 := true) (b4 := false) (b5 := false) rfl (by omega) (by omega) (by decide +kernel) (by decide +kernel) (fun _ w' hu => one_bad (k := 1) (tl_two W 0 0 4607182418800017408 0 0 r s a t 0) (by omega) (by omega) (fun i hi => by
    obtain rfl : i = 0 := by omega
    show finT ⟨0, 0, 4607182418800017408, 0, 0⟩ = true
    decide +kernel) hb w' hu) (by decide +kernel) (by decide)).mono fun _ _ k => (h.grow (Up.alloc _ _)).er k
end
set_option maxRecDepth 20000 in
theorem t33 (x y x' y' : Nat) (w : World) : Calls Try.prog 33 #[.agg #[.float .f64 x, .float .f64 y], .agg #[.float .f64 x', .float .f64 y']] w fun e w' => e = .returned (.bool (ab x == ab x' && ab y == ab y')) ∧ Up w w' := by
  go_enter Try.func33, Try.ntmps33
  go_wp2_with (go_at_call 54; refine (t54 _ _ _).mono ?_; rintro e w' ⟨rfl, rfl⟩)
  all_goals (go_ret; go_tidy; refine ⟨?_, ((Below.refl _ _).alloc (Nat.le_refl _) _).alloc (by simp) _⟩)
  all_goals simp_all
theorem t33z (w : World) : Calls Try.prog 33 #[.agg #[.float .f64 0, .float .f64 0], .agg #[.float .f64 0, .float .f64 0]] w (BU true w) :=
  (t33 0 0 0 0 w).mono fun e w' ⟨he, hu⟩ => ⟨by rw [he]; simp, hu⟩
set_option maxRecDepth 20000 in
theorem t34 (x y : Nat) (w : World) : Calls Try.prog 34 #[.complex .f64 x y] w fun e w' => e = .returned (.agg #[.float .f64 x, .float .f64 y]) ∧ Hid (Up w w') := by
  go_enter Try.func34, Try.ntmps34
  go_wp2
  exact bodyPost_ret (results_cell_row Try.results34 _ _ _ 71 #[.float .f64 x, .float .f64 y] (0, 0) _ rfl (heap_alloc_last _ _) Try.underlying71 rfl (by kernel_rfl)) rfl ⟨rfl, Up.alloc _ _⟩
theorem kz_at (j : Nat) (hj : j < 16) : kz[j]! = (0, 0) := by
  have : ∀ j, j < 16 → kz[j]! = (0, 0) := by decide
  exact this j hj
set_option maxRecDepth 20000 in
set_option maxHeartbeats 2000000 in
/-- nought -/
theorem t15 {w : World} {A B : Nat} (h1 : TB w A 2 (fun i => some ⟨B, i * 8, none⟩) (fun _ => 8) (fun _ => 8)) (h2 : RD w B 0 16 (fun j => kz[j]!)) : Calls Try.prog 15 #[.slice (some ⟨A, 0, none⟩) 2 2, .int .i64 2, .int .i64 8] w (BU true w) := by
  have H1 : Hid (TB w A 2 (fun i => some ⟨B, i * 8, none⟩) (fun _ => 8) (fun _ => 8)) := h1
  have H2 : Hid (RD w B 0 16 (fun j => kz[j]!)) := h2
  clear h1 h2
  go_enter Try.func15, Try.ntmps15
  go_wp2
  go_loopw [7, 8] (fun vi _ wr => ∃ i : Nat, i ≤ 2 ∧ vi = .int .i64 i ∧ Hid (Up w wr)) (fun vi _ _ => 2 - (intOf vi).toNat)
  case atStart => exact ⟨0, by omega, rfl, Up.refl _⟩
  case round =>
    obtain ⟨i, hi, rfl, HU⟩ := hrel
    by_cases hlt : i < 2
    · have z1 : (i : Int) < 2 := by omega
      have z2 : (0 : Int) ≤ (i : Int) := by omega
      go_wp2
      go_loopw [8] (fun vk wr => ∃ k : Nat, k ≤ 8 ∧ vk = .int .i64 k ∧ Hid (Up w wr)) (fun vk _ => 8 - (intOf vk).toNat)
      case atStart => exact ⟨0, by omega, rfl, HU⟩
      case round =>
        clear HU
        obtain ⟨k, hk, rfl, HU⟩ := hrel
        have c1 := (H1.out.up HU.out) i hlt
        by_cases hlk : k < 8
        · have y1 : (k : Int) < 8 := by omega
          have y2 : (0 : Int) ≤ (k : Int) := by omega
          have c2 : wr.cell? ⟨B, i * 8 + k, none⟩ = some (.complex .f64 0 0) := by
            have q := (H2.out.up HU.out) (i * 8 + k) (by omega)
            simp only [kz_at _ (show i * 8 + k < 16 by omega), Nat.zero_add] at q
            exact q
          go_wp2_with (first
            | (go_at_call 34; (with_reducible refine (t34 _ _ _).mono ?_); rintro e w2 ⟨rfl, u2⟩)
            | (go_at_call 33; (with_reducible refine (t33z _).mono ?_); rintro e w3 ⟨rfl, u3⟩))
          go_roundw
          case rel => exact ⟨k + 1, by omega, by go_num, (HU.out.trans u2.out).trans u3.out⟩
          case measure => simp [intOf]; omega
        · obtain rfl : k = 8 := by omega
          go_wp2
          go_roundw
          case rel => exact ⟨i + 1, by omega, by go_num, HU⟩
          case measure => simp [intOf]; omega
    · obtain rfl : i = 2 := by omega
      go_wp2
      go_ret
      exact ⟨rfl, HU⟩
theorem t15k {w W : World} {g gp : Nat} {L : List (Nat × Nat × List (Nat × Nat))} {A B : Nat} (h : KS w W g gp L) (hm : (A, B, kz) ∈ L) : Calls Try.prog 15 #[.slice (some ⟨A, 0, none⟩) 2 2, .int .i64 2, .int .i64 8] W (fun e W' => e = .returned (.bool true) ∧ Hid (KS w W' g gp L)) :=
  (t15 (h.tb _ hm).1 (h.tb _ hm).2).mono fun _ _ k => ⟨k.1, h.grow k.2.out⟩
set_option maxRecDepth 20000 in
theorem t17 (w : World) : Calls Try.prog 17 #[.int .i64 1] w fun e w' => e = .returned (.float .f64 9218868437227405312) ∧ w' = w := by
  go_enter Try.func17, Try.ntmps17
  go_wp2
  go_ret
  exact ⟨rfl, rfl⟩
theorem info34 : (Try.prog.info? 34).map (fun i => (i.zero, i.size, i.bytes)) = some (some (.agg #[.float .f64 0, .float .f64 0, .float .f64 0, .float .f64 0, .float .f64 0]), 5, 40) := by kernel_rfl
set_option maxRecDepth 20000 in
theorem upon_makeT {o : Oper} {a : Act} {next : Act → World → Prop} {Q : Exit → Act → World → Prop} {w : World} {F : Value → World → Result Next}
    (hk : ∀ g w', Hid (Up w w') → o.upon Try.prog a next Q (F (.slice (some ⟨g, 0, none⟩) 257 257) w')) :
    o.upon Try.prog a next Q (((Instr.makeSlice 51 (.int .i64 257) (.int .i64 257)).run Try.prog w).andThen F) := by
  obtain ⟨i0, hi, hz0, hz1, hz2⟩ := info_parts info34
  obtain ⟨w', e, h1, h2⟩ := run_make_full (P := Try.prog) w w.heap.size 51 34 i0 (.agg #[.float .f64 0, .float .f64 0, .float .f64 0, .float .f64 0, .float .f64 0]) 5 Try.underlying51 hi hz0 hz1 .i64 .i64 257 (by rw [hz2]; omega) (by unfold maxLen; omega) (Nat.le_refl _)
  have e' : (Instr.makeSlice 51 (.int .i64 257) (.int .i64 257)).run Try.prog w = _ := e
  rw [e']
  exact hk _ _ (Below.grown (Below.refl _ _) h2 (Nat.le_refl _) (fun j hj => by cases hj))
/-- Four floats, one of which is written anew. -/
abbrev odd (W : World) (n : Nat) : World := (W.alloc (.cells #[.float .f64 0, .float .f64 0, .float .f64 0, .float .f64 0] 53)).setCell ⟨W.heap.size, n, none⟩ (.float .f64 9221120237041090561)
theorem odd_up (W : World) (n : Nat) : Up W (odd W n) ∧ ∀ j, j < 4 → (odd W n).cell? ⟨W.heap.size, j, none⟩ = some (.float .f64 (if j = n then 9221120237041090561 else 0)) := by
  have c : ∀ j, j < 4 → (W.alloc (.cells #[.float .f64 0, .float .f64 0, .float .f64 0, .float .f64 0] 53)).cell? ⟨W.heap.size, j, none⟩ = some (.float .f64 0) := by
    intro j hj
    refine new_cell _ _ _ _ _ ?_
    obtain rfl | rfl | rfl | rfl : j = 0 ∨ j = 1 ∨ j = 2 ∨ j = 3 := by omega
    all_goals rfl
  refine ⟨?_, fun j hj => ?_⟩
  · have hb : But W.heap.size (W.alloc (.cells #[.float .f64 0, .float .f64 0, .float .f64 0, .float .f64 0] 53)) (odd W n) := ⟨rfl, rfl, rfl, by simp, fun k _ hk => heap_setCell_other _ ⟨W.heap.size, n, none⟩ k _ (fun e => hk (by rw [e]))⟩
    exact hb.up (Up.alloc _ _) (Nat.le_refl _)
  · by_cases e : j = n
    · subst e
      rw [if_pos rfl]
      exact World.cell?_setCell_same' _ ⟨W.heap.size, j, none⟩ _ (by rw [c j hj]; rfl)
    · rw [if_neg e, World.cell?_setCell_other _ _ _ _ (by intro q; injection q with _ q2; exact e q2.symm)]
      exact c j hj
end Go.Proofs.Ythifemkbemhmnaa
