/- The statement of examples, walked. -/
import Derived.Test.YtfifdngcdknbbaaKb
namespace Go.Proofs.Ytfifdngcdknbbaa
open Go.ChangeShapes Go.WideShapes Go.ChangeAt Go.RowKit Go.Fl Go.Sort
attribute [local go_sem] run_store_float run_store_complex call12 call32 run_neg fold_eq fold_ne fold_lt fold_gt abs_eq neg_inf ke1 ke5 ke8 kf0 kf1 kf2

theorem kvs {f : FuncId} {args : Array Value} {w : World} {v : Value} (h : Calls Try.prog f args w fun e w' => e = .returned v ∧ w' = w) : Calls Try.prog f args w (KV w v) := h.mono fun _ _ ⟨he, hw⟩ => ⟨he, by rw [hw]; exact Up.refl _⟩
theorem readsU {W W' : World} {g : Nat} {d : Array Nat} (h : Hid (Reads W g 0 d)) (hu : Hid (Up W W')) : Hid (Reads W' g 0 d) := h.out.up hu.out
theorem k12n {W : World} {g : Nat} (hg : g = W.heap.size) : Calls Try.prog 9 #[.slice (some ⟨g, 0, none⟩) 5 5, .int .i64 0] (W.alloc (.cells #[.float .f64 4613937818241073152, .float .f64 9221120237041090561, .float .f64 9223372036854775808, .float .f64 0, .float .f64 4607182418800017408] 23)) fun e w' => e = .returned (.tuple #[.float .f64 9223372036854775808, .int .i64 0]) ∧ Hid (Up W w') ∧ Hid (Reads w' g 0 L5) := by
  subst hg
  have hR : Reads (W.alloc (.cells #[.float .f64 4613937818241073152, .float .f64 9221120237041090561, .float .f64 9223372036854775808, .float .f64 0, .float .f64 4607182418800017408] 23)) W.heap.size 0 L5 := new1 W L5 23 (by simp [L5])
  exact (k12 hR).mono fun _ _ ⟨he, hu⟩ => ⟨he, (Up.alloc _ _).trans hu.out, hR.up hu.out⟩
theorem k9n {W : World} {g : Nat} : Calls Try.prog 21 #[.slice (some ⟨g, 0, none⟩) 1 1, .slice none 0 0] (W.alloc (.cells #[.complex .f64 4607182418800017408 0] 38)) (KV W (.complex .f64 0 0)) := k9.mono fun _ _ h => h.below (Up.alloc _ _)
set_option maxHeartbeats 8000000 in
set_option maxRecDepth 100000 in
theorem t5 (w : World) : Calls Try.prog 5 #[] w (KV w (.bool true)) := by
  have hup : Hid (Up w w) := Up.refl w
  go_enter Try.func5, Try.ntmps5
  go_wp2_with (first
    | (go_at_call 15; (with_reducible refine (kvs (t15 _)).mono ?_); rintro e w1 ⟨rfl, hu⟩; replace hup : Hid (Up w w1) := hup.out.trans hu.out; clear hu)
    | (go_at_call 16; (with_reducible refine (kvs (t16 _)).mono ?_); rintro e w1 ⟨rfl, hu⟩; replace hup : Hid (Up w w1) := hup.out.trans hu.out; clear hu)
    | (go_at_call 22; (with_reducible refine (kvs (t22 _)).mono ?_); rintro e w1 ⟨rfl, hu⟩; replace hup : Hid (Up w w1) := hup.out.trans hu.out; clear hu)
    | (go_at_call 17; (with_reducible refine (k1 (by simp)).mono ?_); rintro e w1 ⟨r, rfl, hr, hu⟩; have hne := nan_ne hr.out; replace hup : Hid (Up w w1) := hup.out.trans hu.out; clear hu)
    | (go_at_call 17; (with_reducible refine (k2 (by simp)).mono ?_); rintro e w1 ⟨rfl, hu⟩; replace hup : Hid (Up w w1) := hup.out.trans hu.out; clear hu)
    | (go_at_call 17; (with_reducible refine (k6 (by simp)).mono ?_); rintro e w1 ⟨rfl, hu⟩; replace hup : Hid (Up w w1) := hup.out.trans hu.out; clear hu)
    | (go_at_call 17; (with_reducible refine (k7 (by simp)).mono ?_); rintro e w1 ⟨rfl, hu⟩; replace hup : Hid (Up w w1) := hup.out.trans hu.out; clear hu)
    | (go_at_call 17; (with_reducible refine (k8 (by simp)).mono ?_); rintro e w1 ⟨rfl, hu⟩; replace hup : Hid (Up w w1) := hup.out.trans hu.out; clear hu)
    | (go_at_call 19; (with_reducible refine (k0 _).mono ?_); rintro e w1 ⟨rfl, hu⟩; replace hup : Hid (Up w w1) := hup.out.trans hu.out; clear hu)
    | (go_at_call 19; (with_reducible refine (k3 (by simp)).mono ?_); rintro e w1 ⟨rfl, hu⟩; replace hup : Hid (Up w w1) := hup.out.trans hu.out; clear hu)
    | (go_at_call 19; (with_reducible refine (k4 (by simp)).mono ?_); rintro e w1 ⟨rfl, hu⟩; replace hup : Hid (Up w w1) := hup.out.trans hu.out; clear hu)
    | (go_at_call 20; (with_reducible refine (k5 (by simp)).mono ?_); rintro e w1 ⟨rfl, hu⟩; replace hup : Hid (Up w w1) := hup.out.trans hu.out; clear hu)
    | (go_at_call 21; (with_reducible refine (k9n ).mono ?_); rintro e w1 ⟨rfl, hu⟩; replace hup : Hid (Up w w1) := hup.out.trans hu.out; clear hu)
    | (go_at_call 23; (with_reducible refine (k10 (by simp)).mono ?_); rintro e w1 ⟨rfl, hu⟩; replace hup : Hid (Up w w1) := hup.out.trans hu.out; clear hu)
    | (go_at_call 23; (with_reducible refine (k11 (by simp)).mono ?_); rintro e w1 ⟨rfl, hu⟩; replace hup : Hid (Up w w1) := hup.out.trans hu.out; clear hu)
    | (go_at_call 23; (with_reducible refine (kvs (t23e _ _ _)).mono ?_); rintro e w1 ⟨rfl, hu⟩; replace hup : Hid (Up w w1) := hup.out.trans hu.out; clear hu)
    | (go_at_call 18; (with_reducible refine (t18 _ _ _ _ _ rfl rfl).mono ?_); rintro e w1 ⟨rfl, hu⟩; replace hup : Hid (Up w w1) := hup.out.trans hu.out; clear hu)
    | (go_at_call 9; (with_reducible refine (k12n (by simp)).mono ?_); rintro e w1 ⟨rfl, hu, HL⟩; replace hup : Hid (Up w w1) := hup.out.trans hu.out; clear hu)
    | (go_at_call 9; (with_reducible refine (k13 HL).mono ?_); rintro e w1 ⟨rfl, hu⟩; replace HL := readsU HL hu; replace hup : Hid (Up w w1) := hup.out.trans hu.out; clear hu)
    | (go_at_call 9; (with_reducible refine (k14 HL).mono ?_); rintro e w1 ⟨r2, rfl, hr2, hu⟩; have hne2 := nan_ne hr2.out; replace HL := readsU HL hu; replace hup : Hid (Up w w1) := hup.out.trans hu.out; clear hu)
    | (go_at_call 9; (with_reducible refine k15.mono ?_); rintro e w1 ⟨rfl, hu⟩; replace hup : Hid (Up w w1) := hup.out.trans hu.out; clear hu)
    | (go_at_call 9; (with_reducible refine k16.mono ?_); rintro e w1 ⟨rfl, hu⟩; replace hup : Hid (Up w w1) := hup.out.trans hu.out; clear hu)
    | (go_at_call 24; (with_reducible refine (kvs (k17 _)).mono ?_); rintro e w1 ⟨rfl, hu⟩; replace hup : Hid (Up w w1) := hup.out.trans hu.out; clear hu)
    | (go_at_call 24; (with_reducible refine (kvs (k18 _)).mono ?_); rintro e w1 ⟨rfl, hu⟩; replace hup : Hid (Up w w1) := hup.out.trans hu.out; clear hu)
    | (go_at_call 13; (with_reducible refine (t13 _).mono ?_); rintro e w1 ⟨rfl, hu⟩; replace hup : Hid (Up w w1) := hup.out.trans hu.out; clear hu))
  go_ret
  exact ⟨rfl, hup⟩
end Go.Proofs.Ytfifdngcdknbbaa
