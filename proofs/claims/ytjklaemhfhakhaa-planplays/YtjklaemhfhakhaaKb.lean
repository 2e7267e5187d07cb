/- after: the first release above a tick. -/
import Derived.Test.YtjklaemhfhakhaaBa
namespace Go.Proofs.Ytjklaemhfhakhaa
open Go.ChangeShapes Go.WideShapes Go.ChangeAt Go.RowKit

/-- The first release above a tick. -/
def aft (nx e now : Int) : Int := nx + ((now - nx) / e + 1) * e
theorem aft_bd {nx e now : Int} (h1 : nx ≤ now) (he : 1 ≤ e) : now < aft nx e now ∧ aft nx e now ≤ now + e ∧ 0 ≤ (now - nx) / e ∧ ((now - nx) / e + 1) * e = aft nx e now - nx ∧ (now - nx) / e ≤ now - nx := by
  have h2 := Int.mul_ediv_add_emod (now - nx) e
  have h3 := Int.emod_nonneg (now - nx) (show e ≠ 0 by omega)
  have h4 := Int.emod_lt_of_pos (now - nx) (show 0 < e by omega)
  have h5 : ((now - nx) / e + 1) * e = e * ((now - nx) / e) + e := by grind
  unfold aft
  refine ⟨by omega, by omega, Int.ediv_nonneg (by omega) (by omega), by omega, Int.ediv_le_self _ (by omega)⟩
set_option maxHeartbeats 1000000 in
theorem t52 {nx e : Int} (l r : Int) {now : Int} (h0 : 0 ≤ nx) (h1 : nx ≤ now) (h2 : now ≤ 1152921504606846976) (he : 1 ≤ e) (he2 : e ≤ 1099511627776) (w : World) : Calls Try.prog 52 #[.agg #[.int .i64 nx, .int .i64 e, .int .i64 l, .int .i64 r], .int .i64 now] w (VU w (.int .i64 (aft nx e now))) := by
  obtain ⟨b1, b2, b3, b4, b5⟩ := aft_bd h1 he
  have q0 : Int.tdiv (now - nx) e = (now - nx) / e := Int.tdiv_eq_ediv_of_nonneg (by omega)
  generalize hD : (now - nx) / e = D at *
  generalize hA : aft nx e now = A at *
  have d1 : IntKind.i64.wrap (now - nx) = now - nx := by rw [IntKind.wrap_i64]; omega
  have d2 : IntKind.i64.wrap D = D := by rw [IntKind.wrap_i64]; omega
  have d3 : IntKind.i64.wrap (D + 1) = D + 1 := by rw [IntKind.wrap_i64]; omega
  have d4 : IntKind.i64.wrap ((D + 1) * e) = A - nx := by rw [b4, IntKind.wrap_i64]; omega
  have d5 : IntKind.i64.wrap (nx + (A - nx)) = A := by rw [IntKind.wrap_i64]; omega
  have d6 : ¬ e = 0 := by omega
  clear hD hA b4
  go_enter Try.func52, Try.ntmps52
  go_wp2_with fail
  go_region
  go_wp2
  go_ret
  exact ⟨rfl, (Up.alloc _ _).trans (Up.drew _)⟩
end Go.Proofs.Ytjklaemhfhakhaa
