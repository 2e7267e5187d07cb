/- Load: one task more. -/
import Derived.Test.YtjklaemhfhakhaaEb
namespace Go.Proofs.Ytjklaemhfhakhaa
open Go.ChangeShapes Go.WideShapes Go.ChangeAt Go.RowKit

def loadS (n d e l : Nat) : Option (Nat × Nat) :=
  let g := Nat.gcd d e
  let N := n * (e / g) + l * (d / g)
  let D := d / g * e
  if 4611686018427387904 < N ∨ 4611686018427387904 < D then none else some (N / Nat.gcd N D, D / Nat.gcd N D)
/-- The load of k tasks; none: its numbers run too high. -/
def loadN (E L : Nat → Nat) : Nat → Option (Nat × Nat)
  | 0 => some (0, 1)
  | k + 1 => match loadN E L k with
    | none => none
    | some (n, d) => loadS n d (E k) (L k)
/-- What a round of Load does, in letters. -/
structure LF (n d e l : Nat) (g q1 q2 a1 a2 b1 b2 s1 s2 d1 d2 : Int) (up dn : Bool) : Prop where
  cg : ∀ w, Calls Try.prog 31 #[.int .u64 d, .int .u64 e] w (VU w (.int .u64 g))
  g0 : 0 < g
  x1 : IntKind.u64.wrap ((e : Int).tdiv g) = q1
  x2 : IntKind.u64.wrap ((d : Int).tdiv g) = q2
  c1 : ∀ w, Calls Try.prog 32 #[.int .u64 n, .int .u64 q1] w (VU w (.agg #[.int .u64 a1, .int .u64 a2]))
  c2 : ∀ w, Calls Try.prog 32 #[.int .u64 l, .int .u64 q2] w (VU w (.agg #[.int .u64 b1, .int .u64 b2]))
  c3 : ∀ w, Calls Try.prog 33 #[.agg #[.int .u64 a1, .int .u64 a2], .agg #[.int .u64 b1, .int .u64 b2]] w (VU w (.agg #[.int .u64 s1, .int .u64 s2]))
  c4 : ∀ w, Calls Try.prog 32 #[.int .u64 q2, .int .u64 e] w (VU w (.agg #[.int .u64 d1, .int .u64 d2]))
  c5 : ∀ w, Calls Try.prog 34 #[.agg #[.int .u64 s1, .int .u64 s2]] w (VU w (.bool up))
  c6 : ∀ w, Calls Try.prog 34 #[.agg #[.int .u64 d1, .int .u64 d2]] w (VU w (.bool dn))
  bad : up = true ∨ dn = true → loadS n d e l = none
  ok : up = false → dn = false → ∃ n' d' : Nat, ∃ h : Int, loadS n d e l = some (n', d') ∧ n' ≤ 4611686018427387904 ∧ 1 ≤ d' ∧ d' ≤ 4611686018427387904 ∧ 0 < h ∧ (∀ w, Calls Try.prog 31 #[.int .u64 s2, .int .u64 d2] w (VU w (.int .u64 h))) ∧ IntKind.u64.wrap (s2.tdiv h) = (n' : Int) ∧ IntKind.u64.wrap (d2.tdiv h) = (d' : Int)
theorem tdiv_nat {a b : Nat} (ha : a < 18446744073709551616) : IntKind.u64.wrap ((a : Int).tdiv (b : Int)) = ((a / b : Nat) : Int) := by
  have h := Nat.div_le_self a b
  rw [Int.tdiv_eq_ediv_of_nonneg (by omega), ← Int.natCast_ediv, IntKind.wrap_u64]
  generalize a / b = q at *
  omega
theorem load_facts {n d e l : Nat} (hn : n ≤ 4611686018427387904) (hd0 : 1 ≤ d) (hd : d ≤ 4611686018427387904) (he0 : 1 ≤ e) (he : e ≤ 1099511627776) (hl : l ≤ 1099511627776) :
    ∃ g q1 q2 a1 a2 b1 b2 s1 s2 d1 d2 up dn, LF n d e l g q1 q2 a1 a2 b1 b2 s1 s2 d1 d2 up dn := by
  have g0 : 0 < Nat.gcd d e := Nat.gcd_pos_of_pos_left _ hd0
  have p1 := Nat.div_le_self e (Nat.gcd d e)
  have p2 := Nat.div_le_self d (Nat.gcd d e)
  have r1 : 0 < d / Nat.gcd d e := Nat.div_pos (Nat.le_of_dvd hd0 (Nat.gcd_dvd_left _ _)) g0
  generalize hg : Nat.gcd d e = g at *
  generalize hq1 : e / g = q1 at *
  generalize hq2 : d / g = q2 at *
  have m1 : n * q1 ≤ 4611686018427387904 * 1099511627776 := Nat.mul_le_mul hn (by omega)
  have m2 : l * q2 ≤ 1099511627776 * 4611686018427387904 := Nat.mul_le_mul hl (by omega)
  have m3 : q2 * e ≤ 4611686018427387904 * 1099511627776 := Nat.mul_le_mul (by omega) he
  have hS : loadS n d e l = if 4611686018427387904 < n * q1 + l * q2 ∨ 4611686018427387904 < q2 * e then none else some ((n * q1 + l * q2) / Nat.gcd (n * q1 + l * q2) (q2 * e), q2 * e / Nat.gcd (n * q1 + l * q2) (q2 * e)) := by
    unfold loadS
    simp only [hg, hq1, hq2]
  have mD : 0 < q2 * e := Nat.mul_pos r1 he0
  generalize hN : n * q1 + l * q2 = N at *
  generalize hD : q2 * e = D at *
  refine ⟨g, q1, q2, (n * q1 / 18446744073709551616 : Nat), (n * q1 % 18446744073709551616 : Nat), (l * q2 / 18446744073709551616 : Nat), (l * q2 % 18446744073709551616 : Nat), (N / 18446744073709551616 : Nat), (N % 18446744073709551616 : Nat), (D / 18446744073709551616 : Nat), (D % 18446744073709551616 : Nat), decide (4611686018427387904 < N), decide (4611686018427387904 < D), ?_⟩
  refine ⟨fun w => ?_, by omega, ?_, ?_, fun w => t32 n q1 (by omega) (by omega) w, fun w => t32 l q2 (by omega) (by omega) w, fun w => ?_, fun w => ?_, fun w => t34 N w, fun w => t34 D w, fun q => ?_, fun q1' q2' => ?_⟩
  · rw [← hg]; exact t31 d e (by omega) (by omega) w
  · rw [← hq1]; exact tdiv_nat (by omega)
  · rw [← hq2]; exact tdiv_nat (by omega)
  · have := t33 (n * q1) (l * q2) (by omega) w
    rw [hN] at this
    exact this
  · have := t32 q2 e (by omega) (by omega) w
    rw [hD] at this
    exact this
  · rw [hS, if_pos (by simpa using q)]
  · simp only [decide_eq_false_iff_not] at q1' q2'
    have k1 : N % 18446744073709551616 = N := Nat.mod_eq_of_lt (by omega)
    have k2 : D % 18446744073709551616 = D := Nat.mod_eq_of_lt (by omega)
    have h0 : 0 < Nat.gcd N D := Nat.gcd_pos_of_pos_right _ mD
    rw [k1, k2]
    refine ⟨N / Nat.gcd N D, D / Nat.gcd N D, (Nat.gcd N D : Nat), ?_, ?_, ?_, ?_, by omega, fun w => t31 N D (by omega) (by omega) w, tdiv_nat (by omega), tdiv_nat (by omega)⟩
    · rw [hS, if_neg (by omega)]
    · have := Nat.div_le_self N (Nat.gcd N D); omega
    · exact Nat.div_pos (Nat.le_of_dvd mD (Nat.gcd_dvd_right _ _)) h0
    · have := Nat.div_le_self D (Nat.gcd N D); omega
end Go.Proofs.Ytjklaemhfhakhaa
