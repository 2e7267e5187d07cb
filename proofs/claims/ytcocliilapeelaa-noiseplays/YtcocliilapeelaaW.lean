/- A step that asks for a Pair. -/
import Derived.Test.YtcocliilapeelaaV
namespace Go.Proofs.Ytcocliilapeelaa
open Go.ChangeShapes Go.WideShapes Go.ChangeAt Go.RowKit Go.Fl Ieee
attribute [local go_sem] run_store_float run_store_complex call38 call37 run_neg fold_eq fold_ne fold_lt fold_gt abs_eq

theorem ST.drew {w W : World} {a x : Nat} {s r K N S : Int} {X : Nat} (h : ST w W a x s r K N S X) : ST w W.drew a x s r K N S X := h.up (Up.drewN W 1)
theorem pair_eq {x y x' y' : Nat} {v : Option Nat × Option Nat} (h : ab2 (x, y) = v) (k : ab2 (x', y') = v) : ab x = ab x' ∧ ab y = ab y' := by
  have e := h.trans k.symm
  simpa [ab2] using e
set_option maxHeartbeats 1000000 in
theorem s3 {w : World} {a x : Nat} {s : Int} (ha : SC w a s) (hx : SC w x s) (ne : a ≠ x) (N S : Int) (X : Nat) : Calls Try.prog 10 #[.pointer (some ⟨a, 0, none⟩), .pointer (some ⟨x, 0, none⟩), .agg #[.int .i64 3, .int .i64 N, .int .u64 S, .float .f64 X]] w (SD w a x) := by
  have H := ST.new ha hx ne 3 N S X
  obtain ⟨c0, c1, c2, c3⟩ := H.cells
  have HS : Hid (ST w (w.alloc (.cells #[.int .i64 3, .int .i64 N, .int .u64 S, .float .f64 X] 30)) a x s s 3 N S X) := H
  have ga : w.heap.size ≠ a := Nat.ne_of_gt H.la
  have gx : w.heap.size ≠ x := Nat.ne_of_gt H.lx
  clear ha hx H ne
  go_enter Try.func10, Try.ntmps10
  go_wp2_with fail
  generalize w.alloc (.cells #[.int .i64 3, .int .i64 N, .int .u64 S, .float .f64 X] 30) = w0 at *
  generalize eg : w.heap.size = g at *
  go_region_held3 (fun w' => w'.cell? ⟨g, 3, none⟩ = some (.float .f64 X))
    (first
      | go_keep
      | exact hb1.out.cell ga (by assumption)
      | exact cell_up (by assumption) u2.out
      | exact hb3.out.cell gx (by assumption)
      | exact cell_up (by assumption) u4.out)
    (first
      | (go_at_call 22; (with_reducible refine (t22 HS.out.drew.sa X).mono ?_); rintro e w1 ⟨x1, y1, rfl, hr1, h1, hb1⟩; have H1 : Hid (ST w w1 a x (it s 24) s 3 N S X) := HS.out.drew.a h1.out hb1.out; clear h1)
      | (go_at_call 28; (with_reducible refine (t28 x1 y1 w1).mono ?_); rintro e w2 ⟨rfl, u2⟩; have H2 : Hid (ST w w2 a x (it s 24) s 3 N S X) := H1.out.up u2.out)
      | (go_at_call 29; (with_reducible refine (t29 (w := w2) H2.out.sx X).mono ?_); rintro e w3 ⟨x3, y3, rfl, hr3, h3, hb3⟩; have H3 : Hid (ST w w3 a x (it s 24) (it s 24) 3 N S X) := H2.out.x h3.out hb3.out)
      | (go_at_call 27; (with_reducible refine (t27t w3 (pair_eq hr1.out hr3.out).1 (pair_eq hr1.out hr3.out).2).mono ?_); rintro e w4 ⟨rfl, u4⟩; have H4 : Hid (ST w w4 a x (it s 24) (it s 24) 3 N S X) := H3.out.up u4.out))
  all_goals (try go_wp2)
  all_goals (go_ret; exact H4.out.done)
end Go.Proofs.Ytcocliilapeelaa
