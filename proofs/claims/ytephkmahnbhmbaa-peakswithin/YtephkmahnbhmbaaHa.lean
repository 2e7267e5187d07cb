/- The numbers that a list is looked through with: which may be. -/
import Derived.Test.YtephkmahnbhmbaaF
namespace Go.Proofs.Ytephkmahnbhmbaa
open Go.ChangeShapes Go.WideShapes Go.ChangeAt Go.RowKit Go.Fl Go.Sort
attribute [local go_sem] run_store_float call52 run_neg fold_eq fold_ne fold_lt fold_gt abs_eq

def mayF (g t n : Int) : Bool := decide (0 ≤ g) && decide (g ≤ 16384) && (decide (1 ≤ t) && decide (t ≤ 16384)) && (decide (0 ≤ n) && decide (n ≤ 32768))
/-- The first error of the numbers that a list is looked through with. -/
def refE (g t n : Int) (x : Nat) : Int := if mayF g t n = false then 2 else if fin (ab x) = true then 0 else 6
theorem fin_is (x : Nat) : (eqF (ab x) (ab x) && (ltF (ab x) (ab 9218868437227405311) || eqF (ab x) (ab 9218868437227405311)) && (gtF (ab x) (ab 18442240474082181119) || eqF (ab x) (ab 18442240474082181119))) = fin (ab x) := by
  cases hN : isN x with
  | true => simp [fin, ab_none hN, eqF, ord]
  | false =>
    have hA : isN (abs x) = false := by rw [isN_abs]; exact hN
    have e1 : ord (ab x) (ab 9218868437227405311) = some (compare (lin x) (lin 9218868437227405311)) := by
      rw [← order_ab]; exact order_lin hN (by decide +kernel)
    have e2 : ord (ab x) (ab 18442240474082181119) = some (compare (lin x) (lin 18442240474082181119)) := by
      rw [← order_ab]; exact order_lin hN (by decide +kernel)
    have e3 : ord ((ab x).map abs) (ab 9218868437227405311) = some (compare (lin (abs x)) (lin 9218868437227405311)) := by
      rw [← ab_abs, ← order_ab]; exact order_lin hA (by decide +kernel)
    have l1 : lin 9218868437227405311 = 9218868437227405311 := by decide +kernel
    have l2 : lin 18442240474082181119 = -9218868437227405311 := by decide +kernel
    have l3 : lin (abs x) = ((x % 2 ^ 63 : Nat) : Int) := by
      have : abs x < 2 ^ 63 := Nat.mod_lt _ (by decide)
      rw [lin_low this]; rfl
    have l4 : lin x = ((x % 2 ^ 63 : Nat) : Int) ∨ lin x = -((x % 2 ^ 63 : Nat) : Int) := by
      unfold lin sgn; split <;> simp
    unfold fin
    rw [eqF_self, hN]
    unfold ltF eqF gtF
    rw [e1, e2, e3, l1, l2, l3]
    generalize x % 2 ^ 63 = m at *
    rw [Bool.eq_iff_iff]
    rcases l4 with l4 | l4 <;> rw [l4] <;> simp only [Int.compare_eq_ite_lt, Bool.not_false, Bool.true_and, Bool.and_eq_true, Bool.or_eq_true, Bool.not_eq_true', beq_iff_eq, Option.some.injEq] <;> (repeat' split) <;> simp <;> omega
theorem t50 (x : Nat) (w : World) : Calls Try.prog 50 #[.float .f64 x] w fun e w' => e = .returned (.bool (fin (ab x))) ∧ w' = w := by
  go_enter Try.func50, Try.ntmps50
  go_wp2
  all_goals (go_ret; go_tidy; refine ⟨?_, rfl⟩; rw [← fin_is])
  all_goals simp_all
/-- A slice that holds these floats. -/
structure SV (w : World) (p : Option Addr) (n cap : Nat) (d : Array Nat) : Prop where
  len : d.size = n
  cap : n ≤ cap
  fit : Fit d
  rd : 0 < n → ∃ b o, p = some ⟨b, o, none⟩ ∧ Reads w b o d
theorem SV.up {w w' : World} {p : Option Addr} {n cap : Nat} {d : Array Nat} (h : SV w p n cap d) (hu : Up w w') : SV w' p n cap d :=
  ⟨h.len, h.cap, h.fit, fun hp => by obtain ⟨b, o, e, r⟩ := h.rd hp; exact ⟨b, o, e, r.up hu⟩⟩
abbrev wholeF (n : Nat) : Nat := floatOfInt FloatKind.f64 (n : Int)
/-- The mean of a row. -/
def meanD (d : Array Nat) : Option Nat := bin .quo (sumD d) (ab (wholeF d.size))
theorem sum65 {w : World} {p : Option Addr} {n cap : Nat} {d : Array Nat} (h : SV w p n cap d) (hp : 0 < n) (hn : n ≤ 1000000) : Calls Try.prog 49 #[.slice p n cap] w (FR w (sumD d)) := by
  obtain ⟨b, o, rfl, r⟩ := h.rd hp
  have := t49 b o cap d w r (by rw [h.len]; exact hp) (by rw [h.len]; omega)
  rwa [h.len] at this
end Go.Proofs.Ytephkmahnbhmbaa
