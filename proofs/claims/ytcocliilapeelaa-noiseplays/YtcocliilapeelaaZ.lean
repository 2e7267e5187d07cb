/- A step that asks for a Row that may not be; steps of sources that are not there; all steps. -/
import Derived.Test.YtcocliilapeelaaY
namespace Go.Proofs.Ytcocliilapeelaa
open Go.ChangeShapes Go.WideShapes Go.ChangeAt Go.RowKit Go.Fl Ieee
attribute [local go_sem] run_store_float run_store_complex call38 call37 run_neg fold_eq fold_ne fold_lt fold_gt abs_eq

theorem t31z (w : World) : Calls Try.prog 31 #[.slice none 0 0] w (OfR w []) := t31 (b := 0) (World.ownsRow_nil _ _ _ _) (by decide)
theorem t30z {b : Nat} {v : Value} {w : World} (h : SRow b w v []) : Calls Try.prog 30 #[v, .slice none 0 0] w (TU w) := t30 (b' := 0) (d' := []) h (World.ownsRow_nil _ _ _ _) rfl (by decide)
set_option maxHeartbeats 2000000 in
theorem s4b {w : World} {a x : Nat} {s : Int} (ha : SC w a s) (hx : SC w x s) (ne : a ≠ x) (N S : Int) (X : Nat) (hn : N < 0 ∨ 16384 < N) : Calls Try.prog 10 #[.pointer (some ⟨a, 0, none⟩), .pointer (some ⟨x, 0, none⟩), .agg #[.int .i64 4, .int .i64 N, .int .u64 S, .float .f64 X]] w (SD w a x) := by
  have H := ST.new ha hx ne 4 N S X
  obtain ⟨c0, c1, c2, c3⟩ := H.cells
  have HS : Hid (ST w (w.alloc (.cells #[.int .i64 4, .int .i64 N, .int .u64 S, .float .f64 X] 30)) a x s s 4 N S X) := H
  have HN : Hid (N < 0 ∨ 16384 < N) := hn
  clear ha hx H ne hn
  go_enter Try.func10, Try.ntmps10
  go_wp2_with (go_at_call 16; (with_reducible refine (t16r a N X _ HN.out).mono ?_); rintro e w' ⟨rfl, hw⟩; subst w')
  generalize w.alloc (.cells #[.int .i64 4, .int .i64 N, .int .u64 S, .float .f64 X] 30) = w1 at *
  generalize eg : w.heap.size = g at *
  go_region_held3 (fun w' => w'.cell? ⟨g, 1, none⟩ = some (.int .i64 N) ∧ w'.cell? ⟨g, 3, none⟩ = some (.float .f64 X))
    (first
      | go_keep
      | (go_split_ands; refine ⟨cell_up ?_ u2.out, cell_up ?_ u2.out⟩ <;> assumption)
      | (go_split_ands; refine ⟨cell_up ?_ u4.out, cell_up ?_ u4.out⟩ <;> assumption))
    (first
      | (go_at_call 31; (with_reducible refine (t31z w1.drew).mono ?_); rintro e w2 ⟨v1, rfl, r1, u2⟩; have H2 : Hid (ST w w2 a x s s 4 N S X) := HS.out.drew.up u2.out)
      | (go_at_call 32; (with_reducible refine (t32r x N X w2 HN.out).mono ?_); rintro e w' ⟨rfl, hw⟩; subst w')
      | (go_at_call 30; (with_reducible refine (t30z r1.out).mono ?_); rintro e w4 ⟨rfl, u4⟩; have H4 : Hid (ST w w4 a x s s 4 N S X) := H2.out.up u4.out))
  all_goals (try go_wp2)
  all_goals
    go_loopw [9, 64] (fun _ i wr => i = .int .i64 0 ∧ Hid (ST w wr a x s s 4 N S X)) (fun _ i _ => 0)
    case atStart => exact ⟨rfl, H4⟩
    case round =>
      clear H4
      obtain ⟨rfl, HT⟩ := hrel
      go_wp2
      go_ret
      exact HT.out.done
/-- One step of two sources. -/
theorem t10 {w : World} {a x : Nat} {s : Int} (ha : SC w a s) (hx : SC w x s) (ne : a ≠ x) (K N S : Int) (X : Nat) : Calls Try.prog 10 #[.pointer (some ⟨a, 0, none⟩), .pointer (some ⟨x, 0, none⟩), .agg #[.int .i64 K, .int .i64 N, .int .u64 S, .float .f64 X]] w (SD w a x) := by
  by_cases h0 : K = 0
  · subst h0; exact s0 ha hx ne N S X
  by_cases h1 : K = 1
  · subst h1; exact s1 ha hx ne N S X
  by_cases h2 : K = 2
  · subst h2; exact s2 ha hx ne N S X
  by_cases h3 : K = 3
  · subst h3; exact s3 ha hx ne N S X
  by_cases h4 : K = 4
  · subst h4
    by_cases hn : N < 0 ∨ 16384 < N
    · exact s4b ha hx ne N S X hn
    · obtain ⟨n, rfl⟩ := Int.eq_ofNat_of_zero_le (show 0 ≤ N by omega)
      exact s4a ha hx ne n S X (by omega)
  by_cases h5 : K = 5
  · subst h5; exact s5 ha hx ne N S X
  exact s6 ha hx ne K N S X (by simpa using h0) (by simpa using h1) (by simpa using h2) (by simpa using h3) (by simpa using h4) (by simpa using h5)
end Go.Proofs.Ytcocliilapeelaa
