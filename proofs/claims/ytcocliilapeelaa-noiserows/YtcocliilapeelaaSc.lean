/- NoiseRows, where a row may be too long. -/
import Derived.Test.YtcocliilapeelaaT
import Derived.Test.YtcocliilapeelaaSb
namespace Go.Proofs.Ytcocliilapeelaa
open Go.ChangeShapes Go.WideShapes Go.ChangeAt Go.RowKit Go.Fl Ieee
attribute [local go_sem] run_store_float run_store_complex call38 call37 run_neg fold_eq fold_ne fold_lt fold_gt abs_eq

theorem newQ (s : Int) {w W : World} (h : Up w W) : Calls Try.prog 7 #[.int .u64 s] W fun e W' => ∃ b, e = .returned (.pointer (some ⟨b, 0, none⟩)) ∧ Hid (SC W' b s) ∧ Hid (Up W W') ∧ Hid (w.heap.size ≤ b) ∧ Hid (W.heap.size ≤ b) :=
  (t7 s W).mono fun _ _ ⟨e, s, u⟩ => ⟨_, e, s, u, h.size, Nat.le_refl _⟩
/-- The condition under which the row is asked alone. -/
def Out (n m : Int) : Prop := n < 0 ∨ (0 ≤ n ∧ m < 0) ∨ (0 ≤ n ∧ 0 ≤ m ∧ 2000 < n) ∨ (0 ≤ n ∧ 0 ≤ m ∧ n ≤ 2000 ∧ 2000 < m)
theorem len_rowsC {b : Nat} {W : World} {v : Value} {d : List (Nat × Nat)} {s : Int} {X n : Nat} (h : CRow b W v d) (hd : d.map ab2 = rowF s X n) : ∃ p cap, v = .slice p n cap ∧ (0 < n → ∃ g, p = some ⟨g, 0, none⟩) := by
  have : d.length = n := by have := congrArg List.length hd; simpa [rowF] using this
  subst this
  exact own_form h
set_option maxRecDepth 100000 in
set_option maxHeartbeats 2000000 in
theorem t5r (S n m : Int) (X : Nat) (k : Int) (w : World) (ho : Out n m) (hr : n < 0 ∨ 16384 < n) : Calls Try.prog 5 #[.int .u64 S, .int .i64 n, .int .i64 m, .float .f64 X, .int .i64 k] w (TU w) := by
  have HR : Hid (n < 0 ∨ 16384 < n) := hr
  have HO : Hid (Out n m) := ho
  clear hr ho
  by_cases hn : n < 0
  · go_enter Try.func5, Try.ntmps5
    go_wp2_with (first
      | (go_at_call 9; (with_reducible refine (t9 w).mono ?_); rintro e w1 ⟨rfl, u1⟩)
      | (go_at_call 7; (with_reducible refine (newQ S u1.out).mono ?_); rintro e w2 ⟨b, rfl, s2, v2, l2, k2⟩; have u2 : Hid (Up w w2) := u1.out.trans v2.out)
      | (go_at_call 16; (with_reducible refine (t16r b n X _ HR.out).mono ?_); rintro e w' ⟨rfl, hw⟩; subst w')
      | (go_at_call 11; (with_reducible refine (t11 s2.out).mono ?_); rintro e w' ⟨rfl, hw⟩; subst w'))
    go_ret
    exact ⟨by simp, u2⟩
  · have hg : 16384 < n := by have := HR.out; omega
    have hg2 : 2000 < n := by omega
    by_cases hm : m < 0
    · go_enter Try.func5, Try.ntmps5
      go_wp2_with (first
        | (go_at_call 9; (with_reducible refine (t9 w).mono ?_); rintro e w1 ⟨rfl, u1⟩)
        | (go_at_call 7; (with_reducible refine (newQ S u1.out).mono ?_); rintro e w2 ⟨b, rfl, s2, v2, l2, k2⟩; have u2 : Hid (Up w w2) := u1.out.trans v2.out)
        | (go_at_call 16; (with_reducible refine (t16r b n X _ HR.out).mono ?_); rintro e w' ⟨rfl, hw⟩; subst w')
        | (go_at_call 11; (with_reducible refine (t11 s2.out).mono ?_); rintro e w' ⟨rfl, hw⟩; subst w'))
      go_ret
      exact ⟨by simp, u2⟩
    · go_enter Try.func5, Try.ntmps5
      go_wp2_with (first
        | (go_at_call 9; (with_reducible refine (t9 w).mono ?_); rintro e w1 ⟨rfl, u1⟩)
        | (go_at_call 7; (with_reducible refine (newQ S u1.out).mono ?_); rintro e w2 ⟨b, rfl, s2, v2, l2, k2⟩; have u2 : Hid (Up w w2) := u1.out.trans v2.out)
        | (go_at_call 16; (with_reducible refine (t16r b n X _ HR.out).mono ?_); rintro e w' ⟨rfl, hw⟩; subst w')
        | (go_at_call 11; (with_reducible refine (t11 s2.out).mono ?_); rintro e w' ⟨rfl, hw⟩; subst w'))
      go_ret
      exact ⟨by simp, u2⟩
set_option maxRecDepth 100000 in
set_option maxHeartbeats 2000000 in
theorem t5o (S : Int) (n : Nat) (m : Int) (X : Nat) (k : Int) (w : World) (ho : m < 0 ∨ (0 ≤ m ∧ 2000 < n) ∨ (0 ≤ m ∧ n ≤ 2000 ∧ 2000 < m)) (hn : n ≤ 16384) : Calls Try.prog 5 #[.int .u64 S, .int .i64 n, .int .i64 m, .float .f64 X, .int .i64 k] w (TU w) := by
  have hn0 : ¬ ((n : Int) < 0) := by omega
  have hn1 : (n : Int) ≤ 16384 := by omega
  rcases ho with hm | ⟨hm, hg⟩ | ⟨hm, hg, hq⟩
  · go_enter Try.func5, Try.ntmps5
    go_wp2_with (first
      | (go_at_call 9; (with_reducible refine (t9 w).mono ?_); rintro e w1 ⟨rfl, u1⟩)
      | (go_at_call 7; (with_reducible refine (newQ S u1.out).mono ?_); rintro e w2 ⟨b, rfl, s2, v2, l2, k2⟩; have u2 : Hid (Up w w2) := u1.out.trans v2.out)
      | (go_at_call 16; (with_reducible refine (t16 s2.out n X hn).mono ?_); rintro e w3 ⟨v, d, rfl, r0, h1, hb1, hd⟩; have u3 : Hid (Up w w3) := hb1.out.up u2.out l2.out; obtain ⟨p, cap, hv, _⟩ := len_rowsC r0.out hd.out; subst hv))
    go_ret
    exact ⟨by simp, u3⟩
  · have hg' : (2000 : Int) < (n : Int) := by omega
    go_enter Try.func5, Try.ntmps5
    go_wp2_with (first
      | (go_at_call 9; (with_reducible refine (t9 w).mono ?_); rintro e w1 ⟨rfl, u1⟩)
      | (go_at_call 7; (with_reducible refine (newQ S u1.out).mono ?_); rintro e w2 ⟨b, rfl, s2, v2, l2, k2⟩; have u2 : Hid (Up w w2) := u1.out.trans v2.out)
      | (go_at_call 16; (with_reducible refine (t16 s2.out n X hn).mono ?_); rintro e w3 ⟨v, d, rfl, r0, h1, hb1, hd⟩; have u3 : Hid (Up w w3) := hb1.out.up u2.out l2.out; obtain ⟨p, cap, hv, _⟩ := len_rowsC r0.out hd.out; subst hv))
    go_ret
    exact ⟨by simp, u3⟩
  · have hg' : (n : Int) ≤ 2000 := by omega
    go_enter Try.func5, Try.ntmps5
    go_wp2_with (first
      | (go_at_call 9; (with_reducible refine (t9 w).mono ?_); rintro e w1 ⟨rfl, u1⟩)
      | (go_at_call 7; (with_reducible refine (newQ S u1.out).mono ?_); rintro e w2 ⟨b, rfl, s2, v2, l2, k2⟩; have u2 : Hid (Up w w2) := u1.out.trans v2.out)
      | (go_at_call 16; (with_reducible refine (t16 s2.out n X hn).mono ?_); rintro e w3 ⟨v, d, rfl, r0, h1, hb1, hd⟩; have u3 : Hid (Up w w3) := hb1.out.up u2.out l2.out; obtain ⟨p, cap, hv, _⟩ := len_rowsC r0.out hd.out; subst hv))
    go_ret
    exact ⟨by simp, u3⟩
theorem t5x (S n m : Int) (X : Nat) (k : Int) (w : World) (ho : Out n m) : Calls Try.prog 5 #[.int .u64 S, .int .i64 n, .int .i64 m, .float .f64 X, .int .i64 k] w (TU w) := by
  by_cases hr : n < 0 ∨ 16384 < n
  · exact t5r S n m X k w ho hr
  · obtain ⟨N, rfl⟩ := Int.eq_ofNat_of_zero_le (show 0 ≤ n by omega)
    refine t5o S N m X k w ?_ (by omega)
    unfold Out at ho
    omega
end Go.Proofs.Ytcocliilapeelaa
