/- Now; Next. -/
import Derived.Test.YtjklaemhfhakhabCc
namespace Go.Proofs.Ytjklaemhfhakhab
open Go.ChangeShapes Go.WideShapes Go.ChangeAt Go.RowKit

theorem t7 {w : World} {L : Ly} {n : Nat} {p : Pl} (h : PW w L n p) : Calls Try.prog 7 #[.pointer (some ⟨L.bp, 0, none⟩)] w fun e w' => e = .returned (.int .i64 p.now) ∧ w' = w := by
  have h0 := h.p0
  clear h
  go_enter Try.func7, Try.ntmps7
  go_wp2
  go_ret
  exact ⟨rfl, rfl⟩
theorem t7n (w : World) : Calls Try.prog 7 #[.pointer none] w fun e w' => e = .returned (.int .i64 0) ∧ w' = w := by
  go_enter Try.func7, Try.ntmps7
  go_wp2
  go_ret
  exact ⟨rfl, rfl⟩
end Go.Proofs.Ytjklaemhfhakhab
