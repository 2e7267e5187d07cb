/- Pairs of ints; whole. -/
import Derived.Test.YtjnggbpifclpcabMa
import Derived.Test.YtjnggbpifclpcabMb
import Derived.Laws.BitsLemmas
namespace Go.Proofs.Ytjnggbpifclpcab
open Go.ChangeShapes Go.WideShapes Go.ChangeAt Go.RowKit Go.Fl Ieee

attribute [local go_sem] run_store_float run_store_complex call20 call19 run_neg fold_eq fold_ne fold_lt fold_gt abs_eq

/-- A list of pairs of ints that can be read. -/
def PI (w : World) (p : Option Addr) (n : Nat) (f : Nat → Int × Int) : Prop := 0 < n → ∃ b o, p = some ⟨b, o, none⟩ ∧ ∀ i, i < n → w.cell? ⟨b, o + i * 2, none⟩ = some (.int .i64 (f i).1) ∧ w.cell? ⟨b, o + i * 2 + 1, none⟩ = some (.int .i64 (f i).2)
theorem PI.up {w w' : World} {p : Option Addr} {n : Nat} {f : Nat → Int × Int} (h : PI w p n f) (hu : Up w w') : PI w' p n f := fun hn => by
  obtain ⟨b, o, e, hr⟩ := h hn
  exact ⟨b, o, e, fun i hi => ⟨cell_up (hr i hi).1 hu, cell_up (hr i hi).2 hu⟩⟩
/-- What is left of a division by 2^19. -/
def rm (a : Int) : Int := a.tmod 524288
theorem rm_bd (a : Int) : -524288 < rm a ∧ rm a < 524288 := by
  unfold rm
  have h1 := Int.tmod_lt_of_pos a (show (0 : Int) < 524288 by omega)
  have h2 : -524288 < a.tmod 524288 := by
    rcases Int.lt_or_le a 0 with h | h
    · have := Int.tmod_lt_of_pos (-a) (show (0 : Int) < 524288 by omega)
      rw [Int.neg_tmod] at this
      omega
    · have := Int.tmod_nonneg 524288 h
      omega
  exact ⟨h2, h1⟩
def wf (a : Int) : Nat := floatOfInt .f64 (rm a)
theorem wf_wh (a : Int) : WH (ab (wf a)) (rm a) := by
  have := rm_bd a
  exact WH.int (by unfold P53; omega) (by unfold P53; omega)
theorem i64_id' {z : Int} (h : -9223372036854775808 ≤ z ∧ z ≤ 9223372036854775807) : IntKind.i64.wrap z = z := by
  rw [IntKind.wrap_i64]; omega
set_option maxHeartbeats 2000000 in
set_option maxRecDepth 20000 in
theorem t7 (a b : Int) (w : World) : Calls Try.prog 7 #[.agg #[.int .i64 a, .int .i64 b]] w fun e w' => e = .returned (.complex .f64 (wf a) (wf b)) ∧ Hid (Up w w') := by
  have h1 := rm_bd a
  have h2 := rm_bd b
  unfold wf
  have e1 : IntKind.i64.wrap (a.tmod 524288) = rm a := i64_id' (by unfold rm at h1; omega)
  have e2 : IntKind.i64.wrap (b.tmod 524288) = rm b := i64_id' (by unfold rm at h2; omega)
  go_enter Try.func7, Try.ntmps7
  go_wp2
  go_ret
  exact ⟨rfl, Up.alloc _ _⟩
end Go.Proofs.Ytjnggbpifclpcab
