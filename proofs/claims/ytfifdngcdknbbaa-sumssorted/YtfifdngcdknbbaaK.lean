/- Closed calls: what is known of each. -/
import Derived.Test.YtfifdngcdknbbaaJ
namespace Go.Proofs.Ytfifdngcdknbbaa
open Go.ChangeShapes Go.WideShapes Go.ChangeAt Go.RowKit Go.Fl Go.Sort

/-- A value that is known. -/
def KV (W : World) (v : Value) (e : Ending) (w' : World) : Prop := e = .returned v ∧ Hid (Up W w')
theorem KV.below {W0 W w' : World} {v : Value} {e : Ending} (h : KV W v e w') (hu : Up W0 W) : KV W0 v e w' := ⟨h.1, hu.trans h.2.out⟩
theorem CU.known {w w' : World} {u v : Option Nat} {e : Ending} {a b : Nat} (h : CU w u v e w') (hu : u = some a) (hv : v = some b) : KV w (.complex .f64 a b) e w' := by
  obtain ⟨r, i, rfl, hr, hi, hb⟩ := h
  obtain rfl := of_ab (hr.out.trans hu)
  obtain rfl := of_ab (hi.out.trans hv)
  exact ⟨rfl, hb⟩
theorem CR.known {w w' : World} {u v : Option Nat} {e : Ending} {a b : Nat} (h : CR w u v e w') (hu : u = some a) (hv : v = some b) : KV w (.complex .f64 a b) e w' := by
  obtain ⟨r, i, n, rfl, rfl, hr, hi⟩ := h
  obtain rfl := of_ab (hr.out.trans hu)
  obtain rfl := of_ab (hi.out.trans hv)
  exact ⟨rfl, Up.drewN _ _⟩
theorem FU.known {w w' : World} {u : Option Nat} {e : Ending} {a : Nat} (h : FU w u e w') (hu : u = some a) : KV w (.float .f64 a) e w' := by
  obtain ⟨r, rfl, hr, hb⟩ := h
  obtain rfl := of_ab (hr.out.trans hu)
  exact ⟨rfl, hb⟩
theorem NR.known {w w' : World} {d : Array Nat} {k : Nat} {e : Ending} {a : Nat} (h : NR w d k e w') (ha : a < 2 ^ 64) (hk : kth d k = key a) (hN : isN a = false) : KV w (.tuple #[.float .f64 a, .int .i64 0]) e w' := by
  obtain ⟨x, rfl, hx, hu⟩ := h
  have := key_inj hx.out.1 ha (hx.out.2.trans hk)
  rw [ab_some hN] at this
  obtain rfl := of_ab this
  exact ⟨rfl, hu⟩
theorem new2 (W : World) (d : Array (Nat × Nat)) (t : TypeId) {cs : Array Value} (h : cs = d.map ce) : Reads2 (W.alloc (.cells cs t)) W.heap.size 0 d := by
  subst h
  intro j hj
  rw [cell_of_row _ _ _ _ _ _ (heap_alloc_last _ _)]
  simp [getElem!_pos d j hj, Array.getElem?_eq_getElem hj]
theorem new1 (W : World) (d : Array Nat) (t : TypeId) {cs : Array Value} (h : cs = d.map fe) : Reads (W.alloc (.cells cs t)) W.heap.size 0 d := by
  subst h
  intro j hj
  rw [cell_of_row _ _ _ _ _ _ (heap_alloc_last _ _)]
  simp [getElem!_pos d j hj, Array.getElem?_eq_getElem hj]

def L4 : Array (Nat × Nat) := #[(4607182418800017408, 0), (4368491638549381120, 0), (4368491638549381120, 0), (13830554455654793216, 0)]
theorem fit3 : Fit #[4613937818241073152, 4607182418800017408, 4611686018427387904] := by
  intro i hi
  match i, hi with
  | 0, _ => decide
  | 1, _ => decide
  | 2, _ => decide
theorem w9 {W : World} {g : Nat} (hg : g = W.heap.size) : Calls Try.prog 9 #[.slice (some ⟨g, 0, none⟩) 3 3, .int .i64 1] (W.alloc (.cells #[.float .f64 4613937818241073152, .float .f64 4607182418800017408, .float .f64 4611686018427387904] 23)) (KV W (.tuple #[.float .f64 4611686018427387904, .int .i64 0])) := by
  subst hg
  refine (t9 W.heap.size 0 3 1 #[4613937818241073152, 4607182418800017408, 4611686018427387904] _ (new1 W _ 23 (by simp)) fit3 (by decide) (by decide)).mono fun e w' h => (NR.known h (by decide) ?_ (by decide +kernel)).below (Up.alloc _ _)
  rw [← kth_list (d' := #[4607182418800017408, 4611686018427387904, 4613937818241073152]) (by decide) (by decide +kernel) (by decide)]
  rfl
theorem w19 {W : World} {g : Nat} (HL : Hid (Reads2 W g 0 L4)) : Calls Try.prog 19 #[.slice (some ⟨g, 0, none⟩) 4 4] W (KV W (.complex .f64 0 0)) :=
  (t19 g 0 4 L4 W HL.out (by decide)).mono fun _ _ h => h.known (by decide +kernel) (by decide +kernel)
theorem w20 {W : World} {g : Nat} (HL : Hid (Reads2 W g 0 L4)) : Calls Try.prog 20 #[.slice (some ⟨g, 0, none⟩) 4 4] W (KV W (.complex .f64 4368491638549381120 0)) :=
  (t20 g 0 4 L4 W HL.out (by decide) (by decide) (by decide)).mono fun _ _ h => h.known (by decide +kernel) (by decide +kernel)
theorem w17 {W : World} {g : Nat} (HL : Hid (Reads2 W g 0 L4)) : Calls Try.prog 17 #[.slice (some ⟨g, 0, none⟩) 4 4] W (KV W (.complex .f64 4372995238176751616 0)) :=
  (t17 g 0 4 L4 W HL.out (by decide)).mono fun _ _ h => h.known (by decide +kernel) (by decide +kernel)
theorem w21 {W : World} {g h : Nat} (hg : g = W.heap.size) (hh : h = W.heap.size + 1) : Calls Try.prog 21 #[.slice (some ⟨g, 0, none⟩) 1 1, .slice (some ⟨h, 0, none⟩) 1 1] ((W.alloc (.cells #[.complex .f64 4607182418800017408 4611686018427387904] 38)).alloc (.cells #[.complex .f64 4613937818241073152 4616189618054758400] 38)) (KV W (.complex .f64 4622382067542392832 4611686018427387904)) := by
  subst hg
  have e : h = (W.alloc (.cells #[.complex .f64 4607182418800017408 4611686018427387904] 38)).heap.size := by rw [hh]; simp
  subst e
  exact (t21 W.heap.size 0 1 _ 0 1 1 #[(4607182418800017408, 4611686018427387904)] #[(4613937818241073152, 4616189618054758400)] _ rfl rfl ((new2 W _ 38 (by simp [ce])).up (Up.alloc _ _)) (new2 _ _ 38 (by simp [ce])) (by decide)).mono fun _ _ h => (h.known (by decide +kernel) (by decide +kernel)).below ((Up.alloc _ _).trans (Up.alloc _ _))
theorem w31 {W : World} {g : Nat} (hg : g = W.heap.size) : Calls Try.prog 31 #[.slice (some ⟨g, 0, none⟩) 2 2] (W.alloc (.cells #[.complex .f64 4613937818241073152 4616189618054758400, .complex .f64 4607182418800017408 0] 38)) (KV W (.float .f64 4628011567076605952)) := by
  subst hg
  exact (t31 W.heap.size 0 2 #[(4613937818241073152, 4616189618054758400), (4607182418800017408, 0)] _ (new2 W _ 38 (by simp [ce])) (by decide)).mono fun _ _ h => (h.known (by decide +kernel)).below (Up.alloc _ _)
theorem w23 {W : World} {g : Nat} (hg : g = W.heap.size) : Calls Try.prog 23 #[.slice (some ⟨g, 0, none⟩) 4 4] (W.alloc (.cells #[.complex .f64 4607182418800017408 0, .complex .f64 0 4611686018427387904, .complex .f64 13835058055282163712 0, .complex .f64 4607182418800017408 0] 38)) (KV W (.int .i64 1)) := by
  subst hg
  refine (t23 W.heap.size 0 4 #[(4607182418800017408, 0), (0, 4611686018427387904), (13835058055282163712, 0), (4607182418800017408, 0)] _ (new2 W _ 38 (by simp [ce])) (by decide)).mono fun _ _ ⟨he, k, hk⟩ => ⟨?_, ?_⟩
  · have hp : (pk (pwF #[(4607182418800017408, 0), (0, 4611686018427387904), (13835058055282163712, 0), (4607182418800017408, 0)]) 4).1 = 1 := by decide +kernel
    rw [he]
    exact congrArg (fun z => Ending.returned (Value.int .i64 z)) hp
  · rw [hk]; exact (Up.alloc _ _).trans (Up.drewN _ _)
theorem w7 {W : World} {g : Nat} (hg : g = W.heap.size) : Calls Try.prog 7 #[.slice (some ⟨g, 0, none⟩) 2 2] (W.alloc (.cells #[.float .f64 4607182418800017408, .float .f64 4611686018427387904] 23)) (KV W (.float .f64 4613937818241073152)) := by
  subst hg
  exact (t7 W.heap.size 0 2 #[4607182418800017408, 4611686018427387904] _ (new1 W _ 23 (by simp)) (by decide)).mono fun _ _ h => (h.known (by decide +kernel)).below (Up.alloc _ _)

theorem ke1 : eqF (ab 0) (ab 0) = true := by decide +kernel
theorem ke2 : eqF (ab 4368491638549381120) (ab 4368491638549381120) = true := by decide +kernel
theorem ke3 : eqF (ab 4372995238176751616) (ab 4372995238176751616) = true := by decide +kernel
theorem ke4 : eqF (ab 4622382067542392832) (ab 4622382067542392832) = true := by decide +kernel
theorem ke5 : eqF (ab 4611686018427387904) (ab 4611686018427387904) = true := by decide +kernel
theorem ke6 : eqF (ab 4628011567076605952) (ab 4628011567076605952) = true := by decide +kernel
theorem ke7 : eqF (ab 4613937818241073152) (ab 4613937818241073152) = true := by decide +kernel
theorem ke8 : eqF (ab 4607182418800017408) (ab 4607182418800017408) = true := by decide +kernel
attribute [local go_sem] run_store_float run_store_complex call12 call32 run_neg fold_eq fold_ne fold_lt fold_gt abs_eq ke1 ke2 ke3 ke4 ke5 ke6 ke7 ke8
set_option maxHeartbeats 4000000 in
theorem t13 (w : World) : Calls Try.prog 13 #[] w (KV w (.bool true)) := by
  have hup : Hid (Up w (w.alloc (.cells #[.complex .f64 4607182418800017408 0, .complex .f64 4368491638549381120 0, .complex .f64 4368491638549381120 0, .complex .f64 13830554455654793216 0] 38))) := Up.alloc _ _
  have HL : Hid (Reads2 (w.alloc (.cells #[.complex .f64 4607182418800017408 0, .complex .f64 4368491638549381120 0, .complex .f64 4368491638549381120 0, .complex .f64 13830554455654793216 0] 38)) w.heap.size 0 L4) := new2 w L4 38 (by simp [ce, L4])
  go_enter Try.func13, Try.ntmps13
  go_wp2_with (first
    | (go_at_call 9; (with_reducible refine (w9 (by simp)).mono ?_); rintro e w1 ⟨rfl, hu⟩; replace HL : Hid (Reads2 w1 w.heap.size 0 L4) := HL.out.up hu.out; replace hup : Hid (Up w w1) := hup.out.trans hu.out; clear hu)
    | (go_at_call 19; (with_reducible refine (w19 HL).mono ?_); rintro e w1 ⟨rfl, hu⟩; replace HL : Hid (Reads2 w1 w.heap.size 0 L4) := HL.out.up hu.out; replace hup : Hid (Up w w1) := hup.out.trans hu.out; clear hu)
    | (go_at_call 20; (with_reducible refine (w20 HL).mono ?_); rintro e w1 ⟨rfl, hu⟩; replace HL : Hid (Reads2 w1 w.heap.size 0 L4) := HL.out.up hu.out; replace hup : Hid (Up w w1) := hup.out.trans hu.out; clear hu)
    | (go_at_call 17; (with_reducible refine (w17 HL).mono ?_); rintro e w1 ⟨rfl, hu⟩; replace HL : Hid (Reads2 w1 w.heap.size 0 L4) := HL.out.up hu.out; replace hup : Hid (Up w w1) := hup.out.trans hu.out; clear hu)
    | (go_at_call 21; (with_reducible refine (w21 (by simp) (by simp)).mono ?_); rintro e w1 ⟨rfl, hu⟩; replace hup : Hid (Up w w1) := hup.out.trans hu.out; clear hu)
    | (go_at_call 31; (with_reducible refine (w31 (by simp)).mono ?_); rintro e w1 ⟨rfl, hu⟩; replace hup : Hid (Up w w1) := hup.out.trans hu.out; clear hu)
    | (go_at_call 23; (with_reducible refine (w23 (by simp)).mono ?_); rintro e w1 ⟨rfl, hu⟩; replace hup : Hid (Up w w1) := hup.out.trans hu.out; clear hu)
    | (go_at_call 7; (with_reducible refine (w7 (by simp)).mono ?_); rintro e w1 ⟨rfl, hu⟩; replace hup : Hid (Up w w1) := hup.out.trans hu.out; clear hu))
  go_ret
  exact ⟨rfl, hup⟩
end Go.Proofs.Ytfifdngcdknbbaa
