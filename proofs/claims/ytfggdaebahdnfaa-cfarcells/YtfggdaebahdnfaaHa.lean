/- The numbers that a list is looked through with: which may be. -/
import Derived.Test.YtfggdaebahdnfaaF
namespace Go.Proofs.Ytfggdaebahdnfaa
open Go.ChangeShapes Go.WideShapes Go.ChangeAt Go.RowKit Go.Fl Go.Sort
attribute [local go_sem] run_store_float call35 call46 run_neg fold_eq fold_ne fold_lt fold_gt abs_eq

def mayF (g t n : Int) : Bool := decide (0 ≤ g) && decide (g ≤ 16384) && (decide (1 ≤ t) && decide (t ≤ 16384)) && (decide (0 ≤ n) && decide (n ≤ 32768))
theorem t48 (a b c : Int) (w : World) : Calls Try.prog 48 #[.int .i64 a, .int .i64 b, .int .i64 c] w fun e w' => e = .returned (.bool (decide (b ≤ a) && decide (a ≤ c))) ∧ w' = w := by
  go_enter Try.func48, Try.ntmps48
  go_wp2
  all_goals (go_ret; go_tidy; simp_all; try omega)
theorem t33 (g t n : Int) (w : World) : Calls Try.prog 33 #[.int .i64 g, .int .i64 t, .int .i64 n] w fun e w' => e = .returned (.bool (mayF g t n)) ∧ w' = w := by
  go_enter Try.func33, Try.ntmps33
  go_wp2
  all_goals (go_ret; go_tidy; simp_all [mayF]; try omega)
theorem t31 (f : Value) (g t n : Int) (w : World) : Calls Try.prog 31 #[.agg #[f, .int .i64 g, .int .i64 t, .int .i64 n]] w fun e w' => e = .returned (.bool (mayF g t n)) ∧ Hid (Up w w') := by
  go_enter Try.func31, Try.ntmps31
  go_wp2
  all_goals (go_ret; go_tidy; refine ⟨?_, Up.alloc _ _⟩; simp_all [mayF]; try omega)
/-- The first error of the numbers that a list is looked through with. -/
def refE (g t n : Int) (x : Nat) : Int := if mayF g t n = false then 2 else if fin (ab x) = true then 0 else 6
theorem fin_is (x : Nat) : (eqF (ab x) (ab x) && (ltF (ab x) (ab 9218868437227405311) || eqF (ab x) (ab 9218868437227405311)) && (gtF (ab x) (ab 18442240474082181119) || eqF (ab x) (ab 18442240474082181119))) = fin (ab x) := by
  cases hN : isN x with
  | true => simp [fin, ab_none hN, eqF, ord]
  | false =>
    have hA : isN (abs x) = false := by rw [isN_abs]; exact hN
    have e1 : ord (ab x) (ab 9218868437227405311) = some (compare (lin x) (lin 9218868437227405311)) := by
      rw [← order_ab]; exact order_lin hN (by decide +kernel)
    have e2 : ord (ab x) (ab 18442240474082181119) = some (compare (lin x) (lin 18442240474082181119)) := by
      rw [← order_ab]; exact order_lin hN (by decide +kernel)
    have e3 : ord ((ab x).map abs) (ab 9218868437227405311) = some (compare (lin (abs x)) (lin 9218868437227405311)) := by
      rw [← ab_abs, ← order_ab]; exact order_lin hA (by decide +kernel)
    have l1 : lin 9218868437227405311 = 9218868437227405311 := by decide +kernel
    have l2 : lin 18442240474082181119 = -9218868437227405311 := by decide +kernel
    have l3 : lin (abs x) = ((x % 2 ^ 63 : Nat) : Int) := by
      have : abs x < 2 ^ 63 := Nat.mod_lt _ (by decide)
      rw [lin_low this]; rfl
    have l4 : lin x = ((x % 2 ^ 63 : Nat) : Int) ∨ lin x = -((x % 2 ^ 63 : Nat) : Int) := by
      unfold lin sgn; split <;> simp
    unfold fin
    rw [eqF_self, hN]
    unfold ltF eqF gtF
    rw [e1, e2, e3, l1, l2, l3]
    generalize x % 2 ^ 63 = m at *
    rw [Bool.eq_iff_iff]
    rcases l4 with l4 | l4 <;> rw [l4] <;> simp only [Int.compare_eq_ite_lt, Bool.not_false, Bool.true_and, Bool.and_eq_true, Bool.or_eq_true, Bool.not_eq_true', beq_iff_eq, Option.some.injEq] <;> (repeat' split) <;> simp <;> omega
theorem t39 (x : Nat) (w : World) : Calls Try.prog 39 #[.float .f64 x] w fun e w' => e = .returned (.bool (fin (ab x))) ∧ w' = w := by
  go_enter Try.func39, Try.ntmps39
  go_wp2
  all_goals (go_ret; go_tidy; refine ⟨?_, rfl⟩; rw [← fin_is])
  all_goals simp_all
theorem t37 (f : Value) (g t n : Int) (x : Nat) (w : World) : Calls Try.prog 37 #[.agg #[f, .int .i64 g, .int .i64 t, .int .i64 n], .float .f64 x] w fun e w' => e = .returned (.int .i64 (refE g t n x)) ∧ Hid (Up w w') := by
  obtain ⟨m, hm⟩ : ∃ m, mayF g t n = m := ⟨_, rfl⟩
  have H31 : Hid (∀ W, Calls Try.prog 31 #[.agg #[f, .int .i64 g, .int .i64 t, .int .i64 n]] W fun e w' => e = .returned (.bool m) ∧ Hid (Up W w')) := fun W => hm ▸ t31 f g t n W
  have HM : Hid _ := hm
  clear hm
  cases m
  · go_enter Try.func37, Try.ntmps37
    go_wp2_with (go_at_call 31; (with_reducible refine (H31.out _).mono ?_); rintro e w1 ⟨rfl, HU⟩)
    go_ret
    refine ⟨?_, (Up.alloc _ _).trans HU.out⟩
    unfold refE; rw [if_pos HM.out]; rfl
  · go_enter Try.func37, Try.ntmps37
    go_wp2_with (first
      | (go_at_call 31; (with_reducible refine (H31.out _).mono ?_); rintro e w1 ⟨rfl, HU⟩)
      | (go_at_call 54; (with_reducible refine (t54 _ _).mono ?_); rintro e w' ⟨rfl, hw⟩; subst w')
      | (go_at_call 29; (with_reducible refine (t29 _ _).mono ?_); rintro e w' ⟨rfl, hw⟩; subst w'))
    all_goals
      go_ret
      go_tidy
      refine ⟨?_, (Up.alloc _ _).trans HU.out⟩
      unfold refE; rw [HM.out]
      simp_all [fin, eqF_self]
theorem t50 (w : World) : Calls Try.prog 50 #[.int .i64 1] w fun e w' => e = .returned (.float .f64 9218868437227405312) ∧ w' = w := by
  go_enter Try.func50, Try.ntmps50
  go_wp2
  all_goals (go_ret)
  all_goals exact ⟨rfl, rfl⟩
/-- A slice that holds these floats. -/
structure SV (w : World) (p : Option Addr) (n cap : Nat) (d : Array Nat) : Prop where
  len : d.size = n
  cap : n ≤ cap
  fit : Fit d
  rd : 0 < n → ∃ b o, p = some ⟨b, o, none⟩ ∧ Reads w b o d
theorem SV.up {w w' : World} {p : Option Addr} {n cap : Nat} {d : Array Nat} (h : SV w p n cap d) (hu : Up w w') : SV w' p n cap d :=
  ⟨h.len, h.cap, h.fit, fun hp => by obtain ⟨b, o, e, r⟩ := h.rd hp; exact ⟨b, o, e, r.up hu⟩⟩
abbrev wholeF (n : Nat) : Nat := floatOfInt FloatKind.f64 (n : Int)
/-- The mean of a row. -/
def meanD (d : Array Nat) : Option Nat := bin .quo (sumD d) (ab (wholeF d.size))
theorem sum74 {w : World} {p : Option Addr} {n cap : Nat} {d : Array Nat} (h : SV w p n cap d) (hp : 0 < n) (hn : n ≤ 1000000) : Calls Try.prog 74 #[.slice p n cap] w (FU w (sumD d)) := by
  obtain ⟨b, o, rfl, r⟩ := h.rd hp
  have := t74 b o cap d w r (by rw [h.len]; omega)
  rwa [h.len] at this
theorem sum65 {w : World} {p : Option Addr} {n cap : Nat} {d : Array Nat} (h : SV w p n cap d) (hp : 0 < n) (hn : n ≤ 1000000) : Calls Try.prog 65 #[.slice p n cap] w (FR w (sumD d)) := by
  obtain ⟨b, o, rfl, r⟩ := h.rd hp
  have := t65 b o cap d w r (by rw [h.len]; exact hp) (by rw [h.len]; omega)
  rwa [h.len] at this
theorem t67 {w : World} {p : Option Addr} {n cap : Nat} {d : Array Nat} (h : SV w p n cap d) (hp : 0 < n) (hn : n ≤ 1000000) : Calls Try.prog 67 #[.slice p n cap] w (FU w (meanD d)) := by
  have H : Hid (SV w p n cap d) := h
  clear h
  go_enter Try.func67, Try.ntmps67
  go_wp2_with (first
    | ((with_reducible refine upon_fl (by simp) ?_); intro r3 k3 hr3)
    | (go_at_call 74; (with_reducible refine (sum74 H.out hp hn).mono ?_); rintro e w1 ⟨r, rfl, hr, HU⟩))
  go_ret
  refine FU.mk ?_ (HU.out.trans (Up.drewN _ _))
  rw [hr3.out, hr.out, ← H.out.len]; rfl
theorem t53 {w : World} {p : Option Addr} {n cap : Nat} {d : Array Nat} (h : SV w p n cap d) (hp : 0 < n) (hn : n ≤ 1000000) : Calls Try.prog 53 #[.slice p n cap] w (FU w (meanD d)) := by
  have H : Hid (SV w p n cap d) := h
  clear h
  go_enter Try.func53, Try.ntmps53
  go_wp2_with (first
    | ((with_reducible refine upon_fl (by simp) ?_); intro r3 k3 hr3)
    | (go_at_call 65; (with_reducible refine (sum65 H.out hp hn).mono ?_); rintro e w1 ⟨r, k, rfl, rfl, hr⟩))
  go_ret
  refine FU.mk ?_ (Up.drewN _ _)
  rw [hr3.out, hr.out, ← H.out.len]; rfl
end Go.Proofs.Ytfggdaebahdnfaa
