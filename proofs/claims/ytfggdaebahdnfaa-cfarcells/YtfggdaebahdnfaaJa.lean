/- What each statement asks first: works. -/
import Derived.Test.YtfggdaebahdnfaaIc
namespace Go.Proofs.Ytfggdaebahdnfaa
open Go.ChangeShapes Go.WideShapes Go.ChangeAt Go.RowKit Go.Fl Go.Sort
attribute [local go_sem] run_store_float run_store_func call35 call46 run_neg fold_eq fold_ne fold_lt fold_gt abs_eq

def TU (w : World) (e : Ending) (w' : World) : Prop := e = .returned (.bool true) ∧ Hid (Up w w')
/-- The list of the chapter. -/
def dk : Array Nat := #[4607182418800017408, 4607182418800017408, 4607182418800017408, 4621256167635550208, 4607182418800017408, 4607182418800017408, 4613937818241073152]
theorem dk_fit : Fit dk := by
  intro i hi
  have : ∀ i, i < 7 → dk[i]! < 2 ^ 64 := by decide +kernel
  exact this i hi
theorem sv_new (w : World) (d : Array Nat) (hF : Fit d) (n : Nat) (hn : d.size = n) (k : Nat) : SV ((w.alloc (.cells (d.map fe) 24)).drewN k) (some ⟨w.heap.size, 0, none⟩) n n d := by
  subst hn
  refine ⟨rfl, Nat.le_refl _, hF, fun _ => ⟨w.heap.size, 0, rfl, fun j hj => ?_⟩⟩
  have : ((w.alloc (.cells (d.map fe) 24)).drewN k).cell? ⟨w.heap.size, 0 + j, none⟩ = (d.map fe)[0 + j]? := World.cell?_alloc_at _ _ _ _ rfl
  rw [this, Nat.zero_add]
  simp [getElem!_pos d j hj, Array.getElem?_eq_getElem hj]
theorem sv_dk (w : World) : SV (w.alloc (.cells #[.float .f64 4607182418800017408, .float .f64 4607182418800017408, .float .f64 4607182418800017408, .float .f64 4621256167635550208, .float .f64 4607182418800017408, .float .f64 4607182418800017408, .float .f64 4613937818241073152] 24)) (some ⟨w.heap.size, 0, none⟩) 7 7 dk := by
  have h := sv_new w dk dk_fit 7 rfl 0
  rw [show dk.map fe = #[.float .f64 4607182418800017408, .float .f64 4607182418800017408, .float .f64 4607182418800017408, .float .f64 4621256167635550208, .float .f64 4607182418800017408, .float .f64 4607182418800017408, .float .f64 4613937818241073152] by simp [dk]] at h
  exact h
/-- A level, a line that are known. -/
theorem lev_known {w : World} {p : Option Addr} {n cap : Nat} {d : Array Nat} {way g t m k c : Int} {v : Nat} (h : SV w p n cap d) (h1 : -128 ≤ way) (h2 : way ≤ 127) (hv : levR way g t m k d = some v) (hc : levE d.size g t m k = c) :
    Calls Try.prog 11 #[.slice p n cap, .int .i64 k, .int .i8 way, .int .i64 g, .int .i64 t, .int .i64 m] w fun e w' => e = .returned (.tuple #[.float .f64 v, .int .i64 c]) ∧ Hid (Up w w') :=
  (t11 g t m k h1 h2 h).mono fun _ _ ⟨r, he, hr, hu⟩ => by
    have e1 := of_ab (hr.out.trans hv)
    subst e1
    rw [hc] at he
    exact ⟨he, hu⟩
theorem lin_known {w : World} {p : Option Addr} {n cap x : Nat} {d : Array Nat} {way g t m c : Int} {l : List Bool} (h : SV w p n cap d) (h1 : -128 ≤ way) (h2 : way ≤ 127) (hv : linD way g t m x d = l) (hc : linE d.size g t m x = c) :
    Calls Try.prog 15 #[.slice p n cap, .int .i8 way, .int .i64 g, .int .i64 t, .int .i64 m, .float .f64 x] w fun e w' => ∃ q c2, e = .returned (.tuple #[.slice q l.length c2, .int .i64 c]) ∧ Hid (BR w.heap.size w' (.slice q l.length c2) l) ∧ Hid (Up w w') :=
  (t15 g t m h1 h2 h).mono fun _ _ ⟨q, c2, he, hr, hu⟩ => by
    rw [hv, hc] at he
    rw [hv] at hr
    exact ⟨q, c2, he, hr, hu⟩
theorem kth_known {d : Array Nat} {n : Nat} (d' : Array Nat) (hp : d'.toList.Perm d.toList) (hs : d'.toList.Pairwise fun x y => key x ≤ key y) (hn : n < d.size) (hb : d'[n]! < 2 ^ 64) : nthD d n = ab d'[n]! := by
  unfold nthD
  rw [← kth_list hp hs hn, unk_key hb]
set_option maxRecDepth 20000 in
theorem k1 : levR 1 1 2 0 3 dk = some 4611686018427387904 := by decide +kernel
theorem k1e : levE dk.size 1 2 0 3 = 0 := by decide +kernel
set_option maxRecDepth 20000 in
theorem k3 : linD 0 0 2 0 4611686018427387904 dk = [false, false, false, true, false, false, true] := by decide +kernel
theorem k3e : linE dk.size 0 2 0 4611686018427387904 = 0 := by decide +kernel
theorem k2e : levE dk.size 0 3 5 3 = 0 := by decide +kernel
theorem k2 : levR 3 0 3 5 3 dk = some 4613937818241073152 := by
  have e : levR 3 0 3 5 3 dk = nthD #[4607182418800017408, 4607182418800017408, 4607182418800017408, 4607182418800017408, 4607182418800017408, 4613937818241073152] 5 := by
    unfold levR
    rw [if_pos (by decide +kernel)]
    unfold lvD levD
    rw [if_neg (by decide +kernel), if_pos rfl]
    congr 1
  rw [e, kth_known #[4607182418800017408, 4607182418800017408, 4607182418800017408, 4607182418800017408, 4607182418800017408, 4613937818241073152] (List.Perm.refl _) (by decide +kernel) (by decide) (by decide +kernel)]
  decide +kernel
theorem br_cells {b : Nat} {w : World} {q : Option Addr} {c : Nat} {l : List Bool} (hl : 0 < l.length) (h : BR b w (.slice q l.length c) l) : ∃ g, q = some ⟨g, 0, none⟩ ∧ ∀ i, i < l.length → w.cell? ⟨g, i, none⟩ = some (.bool l[i]!) := by
  obtain ⟨p', c', e, hp⟩ := OR.form h
  obtain ⟨g, hg⟩ := hp hl
  simp only [Value.slice.injEq] at e
  refine ⟨g, e.1.trans hg, fun i hi => ?_⟩
  have h2 := h
  rw [e.1, hg] at h2
  exact OR.cell h2 hi
theorem eq_self1 : eqF (ab 4611686018427387904) (ab 4611686018427387904) = true := by decide +kernel
theorem eq_self2 : eqF (ab 4613937818241073152) (ab 4613937818241073152) = true := by decide +kernel
set_option maxRecDepth 20000 in
set_option maxHeartbeats 1000000 in
theorem t9 (w : World) : Calls Try.prog 9 #[] w (TU w) := by
  have e1 := eq_self1
  have e2 := eq_self2
  go_enter Try.func9, Try.ntmps9
  go_wp2_with (first
    | (go_at_call 11; (with_reducible refine (lev_known (sv_dk w) (by decide) (by decide) k1 k1e).mono ?_); rintro e w1 ⟨rfl, HU1⟩)
    | (go_at_call 11; (with_reducible refine (lev_known ((sv_dk w).up HU1.out) (by decide) (by decide) k2 k2e).mono ?_); rintro e w2 ⟨rfl, HU2⟩)
    | (go_at_call 15; (with_reducible refine (lin_known (((sv_dk w).up HU1.out).up HU2.out) (by decide) (by decide) k3 k3e).mono ?_); rintro e w3 ⟨q, c, rfl, HB, HU3⟩; obtain ⟨g, hq, hc⟩ := br_cells (by decide) HB.out; subst hq; (have c0 := hc 0 (by decide)); (have c2 := hc 2 (by decide)); (have c3 := hc 3 (by decide)); (have c6 := hc 6 (by decide)); clear hc HB))
  go_ret
  exact ⟨rfl, (((Up.alloc _ _).trans HU1.out).trans HU2.out).trans HU3.out⟩
end Go.Proofs.Ytfggdaebahdnfaa
