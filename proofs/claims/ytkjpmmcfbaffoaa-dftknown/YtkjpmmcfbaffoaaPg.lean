/- The walk of the statement. -/
import Derived.Test.YtkjpmmcfbaffoaaPf
namespace Go.Proofs.Ytkjpmmcfbaffoaa
open Go.ChangeShapes Go.WideShapes Go.ChangeAt Go.RowKit Go.Fl Ieee
attribute [local go_sem] run_store_float run_store_complex call35 call34 run_neg fold_eq fold_ne fold_lt fold_gt abs_eq

/-- Nothing, and a code. -/
def E0 (w : World) (c : Int) (e : Ending) (w' : World) : Prop := ∃ p cap, e = .returned (.tuple #[.slice p 0 cap, .int .i64 c]) ∧ Hid (Up w w')
theorem PL.empty {w0 w w' : World} {c : Int} {e : Ending} (h : PL w [] c e w') (hu : Up w0 w) : E0 w0 c e w' := by
  obtain ⟨v, d, rfl, h1, h2, h3⟩ := h
  have hd : d = [] := List.map_eq_nil_iff.1 h3.out
  subst hd
  obtain ⟨p, cap, rfl, _⟩ := own_form h1.out
  exact ⟨p, cap, rfl, hu.trans h2.out⟩
theorem pow3 : powB 3 = false := by decide
theorem pow0 : powB 0 = false := by decide
abbrev new3 (w : World) : World := w.alloc (.cells #[.complex .f64 4607182418800017408 0, .complex .f64 4611686018427387904 0, .complex .f64 4613937818241073152 0] 26)
theorem w4d (w : World) : Calls Try.prog 4 #[.slice (some ⟨w.heap.size, 0, none⟩) 3 3, .bool false] (new3 w) (E0 w 50) := (t4pow _ 3 3 false _ (by omega) pow3).mono fun _ _ h => h.empty (Up.alloc _ _)
theorem w4e (w : World) : Calls Try.prog 4 #[.slice none 0 0, .bool false] w (E0 w 50) := (t4pow none 0 0 false w (by omega) pow0).mono fun _ _ h => h.empty (Up.refl _)
theorem w5e (w : World) : Calls Try.prog 5 #[.slice none 0 0, .bool true] w (E0 w 0) := (t5e none 0 w).mono fun _ _ h => h.empty (Up.refl _)
def l5 : List (Nat × Nat) := [(0, 0), (4607182418800017408, 0), (4611686018427387904, 0), (4613937818241073152, 0), (4616189618054758400, 0)]
def n5 : List (Nat × Nat) := [(4613937818241073152, 0), (4616189618054758400, 0), (0, 0), (4607182418800017408, 0), (4611686018427387904, 0)]
abbrev new5 (w : World) : World := w.alloc (.cells #[.complex .f64 0 0, .complex .f64 4607182418800017408 0, .complex .f64 4611686018427387904 0, .complex .f64 4613937818241073152 0, .complex .f64 4616189618054758400 0] 26)
def KO (b : Nat) (w : World) (n : Nat) (d : List (Nat × Nat)) (e : Ending) (w' : World) : Prop := ∃ g cap, e = .returned (.slice (some ⟨g, 0, none⟩) n cap) ∧ Hid (KR b w' g n cap d) ∧ Hid (Up w w')
theorem w6 (w : World) : Calls Try.prog 6 #[.slice (some ⟨w.heap.size, 0, none⟩) 5 5] (new5 w) (KO (new5 w).heap.size w 5 n5) :=
  (t6 w.heap.size 0 5 5 (fun i => l5[i]!) (new5 w) (by omega) (by omega) (by omega) (rd_new w 26 l5 rfl rfl)).mono fun e w' ⟨v, he, h1, h2⟩ => by
    obtain ⟨g, cap, hv, hk⟩ := row_kr (n := 5) h1.out rfl (by omega)
    subst hv
    exact ⟨g, cap, he, hk, (Up.alloc _ _).trans h2.out⟩
def KV (W : World) (v : Value) (e : Ending) (w' : World) : Prop := e = .returned v ∧ Hid (Up W w')
theorem fr_known {w0 w w' : World} {u : Option Nat} {e : Ending} {a : Nat} (h : FR w u e w') (h0 : Up w0 w) (hu : u = some a) : KV w0 (.float .f64 a) e w' := by
  obtain ⟨r, n, rfl, rfl, hr⟩ := h
  obtain rfl := of_ab (hr.out.trans hu)
  exact ⟨rfl, h0.trans (Up.drewN _ _)⟩
def a2 : List (Nat × Nat) := [(4607182418800017408, 0), (0, 4607182418800017408)]
def b2 : List (Nat × Nat) := [(4607182418800017408, 0), (0, 0)]
abbrev newa (w : World) : World := w.alloc (.cells #[.complex .f64 4607182418800017408 0, .complex .f64 0 4607182418800017408] 26)
abbrev newb (w : World) : World := w.alloc (.cells #[.complex .f64 4607182418800017408 0, .complex .f64 0 0] 26)
theorem near_ab : nearG (fun i => offF a2[i]! b2[i]!) 2 0 (ab 0) = some 4607182418800017408 := by decide +kernel
theorem w8 (w : World) : Calls Try.prog 8 #[.slice (some ⟨w.heap.size, 0, none⟩) 2 2, .slice (some ⟨w.heap.size + 1, 0, none⟩) 2 2] (newb (newa w)) (KV w (.float .f64 4607182418800017408)) := by
  have e : w.heap.size + 1 = (newa w).heap.size := by simp
  rw [e]
  exact (t8 w.heap.size 0 (newa w).heap.size 0 2 2 2 (fun i => a2[i]!) (fun i => b2[i]!) _ (by omega) ((rd_new w 26 a2 rfl rfl).up (Up.alloc _ _)) (rd_new (newa w) 26 b2 rfl rfl)).mono fun _ _ h => fr_known h ((Up.alloc _ _).trans (Up.alloc _ _)) near_ab
theorem w8e (w : World) : Calls Try.prog 8 #[.slice (some ⟨w.heap.size, 0, none⟩) 1 1, .slice none 0 0] (w.alloc (.cells #[.complex .f64 4607182418800017408 0] 26)) (KV w (.float .f64 0)) :=
  (t8e _ none 1 1 0 _).mono fun _ _ h => fr_known h (Up.alloc _ _) (by decide +kernel)
set_option maxRecDepth 100000 in
set_option maxHeartbeats 8000000 in
theorem t3 (w : World) : Calls Try.prog 3 #[] w (TU w) := by
  have q1 : eqF (ab 4607182418800017408) (ab 4607182418800017408) = true := by decide +kernel
  have q2 : eqF (ab 0) (ab 0) = true := by decide +kernel
  have q3 : eqF (ab 4616189618054758400) (ab 4616189618054758400) = true := by decide +kernel
  have q5 : eqF (ab 4613937818241073152) (ab 4613937818241073152) = true := by decide +kernel
  go_enter Try.func3, Try.ntmps3
  go_wp2_with (first
    | (go_at_call 4; (with_reducible refine (w4b _).mono ?_); rintro e w1 ⟨g1, c1, rfl, k1, u1⟩)
    | (go_at_call 4; (with_reducible refine (w4d _).mono ?_); rintro e w2 ⟨p2, c2, rfl, u2⟩)
    | (go_at_call 4; (with_reducible refine (w4e _).mono ?_); rintro e w3 ⟨p3, c3, rfl, u3⟩)
    | (go_at_call 5; (with_reducible refine (w5e _).mono ?_); rintro e w4 ⟨p4, c4, rfl, u4⟩)
    | (go_at_call 6; (with_reducible refine (w6 _).mono ?_); rintro e w5 ⟨g5, c5, rfl, k5, u5⟩)
    | (go_at_call 7; (with_reducible refine (t7eight _).mono ?_); rintro e w6 ⟨g6, rfl, k6⟩
       have u6 : Up w5 w6 := k6.out.2.2
       have U16 : Up w1 w6 := (((u2.out.trans u3.out).trans u4.out).trans u5.out).trans u6
       have b0 := (k1.out.up U16).cell (i := 0) (by omega) rfl
       have b3 := (k1.out.up U16).cell (i := 3) (by omega) rfl
       have m0 := (k5.out.up u6).cell (i := 0) (by omega) rfl
       have m2 := (k5.out.up u6).cell (i := 2) (by omega) rfl
       have t1 : w6.cell? ⟨g6, 1, none⟩ = some (.int .i64 4) := k6.out.2.1.cell (i := 1) (by decide)
       have t6 : w6.cell? ⟨g6, 6, none⟩ = some (.int .i64 3) := k6.out.2.1.cell (i := 6) (by decide)
       have U : Hid (Up w w6) := u1.out.trans U16
       clear k1 k5 k6 u1 u2 u3 u4 u5 u6 U16)
    | (go_at_call 7; (with_reducible refine (t7six _).mono ?_); rintro e w7 ⟨rfl, rfl⟩)
    | (go_at_call 8; (with_reducible refine (w8 _).mono ?_); rintro e w8 ⟨rfl, u8⟩)
    | (go_at_call 8; (with_reducible refine (w8e _).mono ?_); rintro e w9 ⟨rfl, u9⟩)
    | (go_at_call 9; (with_reducible refine (t9 _).mono ?_); rintro e w10 ⟨rfl, u10⟩))
  go_ret
  exact ⟨rfl, ((U.out.trans u8.out).trans u9.out).trans u10.out⟩
end Go.Proofs.Ytkjpmmcfbaffoaa
