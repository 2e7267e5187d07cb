/- The rows that are refused; the walk of NoiseKnown. -/
import Derived.Test.YtcocliilapeelaaQ
namespace Go.Proofs.Ytcocliilapeelaa
open Go.ChangeShapes Go.WideShapes Go.ChangeAt Go.RowKit Go.Fl Ieee
attribute [local go_sem] run_store_float run_store_complex call38 call37 run_neg fold_eq fold_ne fold_lt fold_gt abs_eq

theorem t16n (n : Int) (x : Nat) (w : World) : Calls Try.prog 16 #[.pointer none, .int .i64 n, .float .f64 x] w fun e w' => e = .returned (.slice none 0 0) ∧ w' = w := by
  go_enter Try.func16, Try.ntmps16
  go_wp2
  go_ret
  exact ⟨rfl, rfl⟩
theorem t32n (n : Int) (x : Nat) (w : World) : Calls Try.prog 32 #[.pointer none, .int .i64 n, .float .f64 x] w fun e w' => e = .returned (.slice none 0 0) ∧ w' = w := by
  go_enter Try.func32, Try.ntmps32
  go_wp2
  go_ret
  exact ⟨rfl, rfl⟩
theorem t16r (b : Nat) (n : Int) (x : Nat) (w : World) (h : n < 0 ∨ 16384 < n) : Calls Try.prog 16 #[.pointer (some ⟨b, 0, none⟩), .int .i64 n, .float .f64 x] w fun e w' => e = .returned (.slice none 0 0) ∧ w' = w := by
  by_cases hn : n < 0
  · clear h
    go_enter Try.func16, Try.ntmps16
    go_wp2
    go_ret
    exact ⟨rfl, rfl⟩
  · have hg : 16384 < n := by omega
    clear h
    go_enter Try.func16, Try.ntmps16
    go_wp2
    go_ret
    exact ⟨rfl, rfl⟩
theorem t32r (b : Nat) (n : Int) (x : Nat) (w : World) (h : n < 0 ∨ 16384 < n) : Calls Try.prog 32 #[.pointer (some ⟨b, 0, none⟩), .int .i64 n, .float .f64 x] w fun e w' => e = .returned (.slice none 0 0) ∧ w' = w := by
  by_cases hn : n < 0
  · clear h
    go_enter Try.func32, Try.ntmps32
    go_wp2
    go_ret
    exact ⟨rfl, rfl⟩
  · have hg : 16384 < n := by omega
    clear h
    go_enter Try.func32, Try.ntmps32
    go_wp2
    go_ret
    exact ⟨rfl, rfl⟩
theorem n4 : stir (adv (adv 0 2) 1) = 487617019471545679 := by decide +kernel
theorem n5 : adv 7 1 = 11400714819323198492 := by decide +kernel
theorem x3 : eqF (ab 4606131375998723001) (ab 4606131375998723001) = true := by decide +kernel
theorem x4 : eqF (ab 0) (ab 0) = true := by decide +kernel
attribute [local go_sem] x1 x2 x3 x4
theorem k11 {b : Nat} {s v : Int} {w : World} (h : SC w b s) (e : s = v) : Calls Try.prog 11 #[.pointer (some ⟨b, 0, none⟩)] w fun e w' => e = .returned (.int .u64 v) ∧ w' = w := by rw [← e]; exact t11 h
set_option maxRecDepth 100000 in
theorem t6 (w : World) : Calls Try.prog 6 #[] w (TU w) := by
  go_enter Try.func6, Try.ntmps6
  go_wp2_with (first
    | (go_at_call 7; (with_reducible refine (t7 0 w).mono ?_); rintro e w1 ⟨rfl, h1, u1⟩; obtain ⟨b1, eb, hl⟩ : ∃ b, w.heap.size = b ∧ Hid (w.heap.size ≤ b) := ⟨_, rfl, Nat.le_refl _⟩; rw [eb] at h1 ⊢; clear eb)
    | (go_at_call 14; (with_reducible refine (t14 (w := w1) h1.out 2).mono ?_); rintro e w2 ⟨rfl, h2, u2⟩; have a2 : Hid (Up w w2) := u2.out.up u1.out hl.out; clear u1 u2 h1)
    | (go_at_call 7; (with_reducible refine (t7 7 w2).mono ?_); rintro e w3 ⟨rfl, h3, u3⟩; have hn : Hid (b1 ≠ w2.heap.size) := Nat.ne_of_lt h2.out.lt; have h3' : Hid (SC w3 b1 (adv 0 2)) := h2.out.up u3.out; obtain ⟨b2, eb, hl2⟩ : ∃ b, w2.heap.size = b ∧ Hid (w.heap.size ≤ b) := ⟨_, rfl, a2.out.size⟩; rw [eb] at h3 hn ⊢; clear eb; have a3 : Hid (Up w w3) := a2.out.trans u3.out; clear u3 a2 h2)
    | (go_at_call 11; (with_reducible refine (t11 (w := w3) h3.out).mono ?_); rintro e w' ⟨rfl, hw⟩; subst w')
    | (go_at_call 13; (with_reducible refine (t13 (w := w3) h3.out).mono ?_); rintro e w4 ⟨rfl, h4, u4⟩; have h4' : Hid (SC w4 b1 (adv 0 2)) := h3'.out.but u4.out hn.out; have a4 : Hid (Up w w4) := u4.out.up a3.out hl2.out; clear u4 a3 h3 h3')
    | (go_at_call 14; (with_reducible refine (t14n 3 _).mono ?_); rintro e w' ⟨rfl, hw⟩; subst w')
    | (go_at_call 13; (with_reducible refine (k13 (w := w4) h4'.out n4).mono ?_); rintro e w5 ⟨rfl, h5', u5⟩; have h5 : Hid (SC w5 b2 (adv 7 1)) := h4.out.but u5.out (Ne.symm hn.out); have a5 : Hid (Up w w5) := u5.out.up a4.out hl.out; clear u5 a4 h4 h4')
    | (go_at_call 11; (with_reducible refine (k11 (w := w5) h5.out n5).mono ?_); rintro e w' ⟨rfl, hw⟩; subst w')
    | (go_at_call 7; (with_reducible refine (t7 0 w5).mono ?_); rintro e w6 ⟨rfl, h6, u6⟩; obtain ⟨b3, eb, hl3⟩ : ∃ b, w5.heap.size = b ∧ Hid (w.heap.size ≤ b) := ⟨_, rfl, a5.out.size⟩; rw [eb] at h6 ⊢; clear eb; have a6 : Hid (Up w w6) := a5.out.trans u6.out; clear u6 a5 h5 h5')
    | (go_at_call 18; (with_reducible refine (k18 (w := w6) h6.out f1).mono ?_); rintro e w7 ⟨rfl, h7, u7⟩; have a7 : Hid (Up w w7) := u7.out.up a6.out hl3.out; clear u7 a6 h6)
    | (go_at_call 16; (with_reducible refine (t16r _ _ _ _ (by omega)).mono ?_); rintro e w' ⟨rfl, hw⟩; subst w')
    | (go_at_call 16; (with_reducible refine (t16n _ _ _).mono ?_); rintro e w' ⟨rfl, hw⟩; subst w')
    | (go_at_call 13; (with_reducible refine (t13n _).mono ?_); rintro e w' ⟨rfl, hw⟩; subst w')
    | (go_at_call 15; (with_reducible refine (t15n _).mono ?_); rintro e w' ⟨rfl, hw⟩; subst w')
    | (go_at_call 11; (with_reducible refine (t11n _).mono ?_); rintro e w' ⟨rfl, hw⟩; subst w')
    | (go_at_call 22; (with_reducible refine (t22n _ _).mono ?_); rintro e w' ⟨rfl, hw⟩; subst w')
    | (go_at_call 9; (with_reducible refine (t9 _).mono ?_); rintro e w8 ⟨rfl, u8⟩))
  go_ret
  exact ⟨rfl, a7.out.trans u8.out⟩
end Go.Proofs.Ytcocliilapeelaa
