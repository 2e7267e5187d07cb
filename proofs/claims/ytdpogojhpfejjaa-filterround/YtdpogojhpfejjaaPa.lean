/- Slow of none; Middle. -/
import Derived.Test.YtdpogojhpfejjaaZ
namespace Go.Proofs.Ytdpogojhpfejjaa
open Go.ChangeShapes Go.WideShapes Go.ChangeAt Go.RowKit Go.Fl Ieee
attribute [local go_sem] run_store_float run_store_c isSome_set call32 call31 run_neg fold_eq fold_ne fold_lt fold_gt abs_eq

theorem up_make0 {o : Oper} {a : Act} {next : Act → World → Prop} {Q : Exit → Act → World → Prop} {w : World} {F : Value → World → Result Next}
    (hk : ∀ g w', Hid (Made 0 g w w') → o.upon Try.prog a next Q (F (.slice (some ⟨g, 0, none⟩) 0 0) w')) :
    o.upon Try.prog a next Q (((Instr.makeSlice 27 (.int .i64 0) (.int .i64 0)).run Try.prog w).andThen F) := upon_make (n := 0) (by omega) hk
theorem nil_of {b g : Nat} {w : World} {d : List (Nat × Nat)} (h : CRow b w (.slice (some ⟨g, 0, none⟩) 0 0) d) : d.map ab2 = [] := by
  have := h.len
  rw [List.length_eq_zero_iff.1 this]; rfl
end Go.Proofs.Ytdpogojhpfejjaa
