/- Works; the rows that are refused. -/
import Derived.Test.YtcocliilapeelaaP
namespace Go.Proofs.Ytcocliilapeelaa
open Go.ChangeShapes Go.WideShapes Go.ChangeAt Go.RowKit Go.Fl Ieee
attribute [local go_sem] run_store_float run_store_complex call38 call37 run_neg fold_eq fold_ne fold_lt fold_gt abs_eq

theorem n1 : stir (adv 0 1) = 16294208416658607535 := by decide +kernel
theorem n2 : stir (adv (adv 0 1) 1) = 7960286522194355700 := by decide +kernel
theorem n3 : stir (adv (adv (adv 0 1) 1) 1) = 487617019471545679 := by decide +kernel
theorem f1 : fltF 0 = some 4606131375998723001 := by decide +kernel
theorem x1 : gtF (ab 4606131375998723001) (ab 4606131278646989134) = true := by decide +kernel
theorem x2 : ltF (ab 4606131375998723001) (ab 4606132179366914608) = true := by decide +kernel
theorem k13 {b : Nat} {s v : Int} {w : World} (h : SC w b s) (e : stir (adv s 1) = v) : Calls Try.prog 13 #[.pointer (some ⟨b, 0, none⟩)] w (NX w b (adv s 1) (.int .u64 v)) := by rw [← e]; exact t13 h
theorem k18 {b : Nat} {s : Int} {v : Nat} {w : World} (h : SC w b s) (e : fltF s = some v) : Calls Try.prog 18 #[.pointer (some ⟨b, 0, none⟩)] w (NX w b (adv s 1) (.float .f64 v)) :=
  (t18 h).mono fun _ _ ⟨_, he, hr, h1, h2⟩ => ⟨by rw [he, of_ab (hr.out.trans e)], h1, h2⟩
attribute [local go_sem] x1 x2
theorem t9 (w : World) : Calls Try.prog 9 #[] w (TU w) := by
  go_enter Try.func9, Try.ntmps9
  go_wp2_with (first
    | (go_at_call 7; (with_reducible refine (t7 0 w).mono ?_); rintro e w1 ⟨rfl, h1, u1⟩; obtain ⟨b1, eb, hl⟩ : ∃ b, w.heap.size = b ∧ Hid (w.heap.size ≤ b) := ⟨_, rfl, Nat.le_refl _⟩; rw [eb] at h1 ⊢; clear eb)
    | (go_at_call 13; (with_reducible refine (k13 (w := w1) h1.out n1).mono ?_); rintro e w2 ⟨rfl, h2, u2⟩)
    | (go_at_call 13; (with_reducible refine (k13 (w := w2) h2.out n2).mono ?_); rintro e w3 ⟨rfl, h3, u3⟩)
    | (go_at_call 7; (with_reducible refine (t7 0 w3).mono ?_); rintro e w4 ⟨rfl, h4, u4⟩; have hb4 : Hid (b1 ≠ w3.heap.size) := Nat.ne_of_lt h3.out.lt; have h3' : Hid (SC w4 b1 (adv (adv 0 1) 1)) := h3.out.up u4.out; obtain ⟨b4, eb, hg4⟩ : ∃ b, w3.heap.size = b ∧ Hid (w3.heap.size ≤ b) := ⟨_, rfl, Nat.le_refl _⟩; rw [eb] at h4 hb4 ⊢; clear eb)
    | (go_at_call 18; (with_reducible refine (k18 (w := w4) h4.out f1).mono ?_); rintro e w5 ⟨rfl, h5, u5⟩; have h6 : Hid (SC w5 b1 (adv (adv 0 1) 1)) := h3'.out.but u5.out hb4.out)
    | (go_at_call 13; (with_reducible refine (k13 (w := w5) h6.out n3).mono ?_); rintro e w6 ⟨rfl, h7, u7⟩))
  go_ret
  have a1 : Up w w3 := (u3.out.up (u2.out.up u1.out hl.out) hl.out)
  exact ⟨rfl, u7.out.up (Up.trans a1 (u5.out.up u4.out hg4.out)) hl.out⟩
end Go.Proofs.Ytcocliilapeelaa
