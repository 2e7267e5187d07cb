/- Slow of none; Middle. -/
import Derived.Test.YtfimolhndbfpgaaZ
namespace Go.Proofs.Ytfimolhndbfpgaa
open Go.ChangeShapes Go.WideShapes Go.ChangeAt Go.RowKit Go.Fl Ieee
attribute [local go_sem] run_store_float run_store_c isSome_set call29 call28 run_neg fold_eq fold_ne fold_lt fold_gt abs_eq

theorem up_make0 {o : Oper} {a : Act} {next : Act → World → Prop} {Q : Exit → Act → World → Prop} {w : World} {F : Value → World → Result Next}
    (hk : ∀ g w', Hid (Made 0 g w w') → o.upon Try.prog a next Q (F (.slice (some ⟨g, 0, none⟩) 0 0) w')) :
    o.upon Try.prog a next Q (((Instr.makeSlice 27 (.int .i64 0) (.int .i64 0)).run Try.prog w).andThen F) := upon_make (n := 0) (by omega) hk
theorem t44z (w : World) : Calls Try.prog 44 #[.int .i64 0, .int .i64 0, .bool true] w (UR w true 0 0) := t44 true 0 0 w (by omega) (by omega)
theorem t45z {b g : Nat} {w : World} {d : List (Nat × Nat)} (h : Hid (CRow b w (.slice (some ⟨g, 0, none⟩) 0 0) d)) : Calls Try.prog 45 #[.slice (some ⟨g, 0, none⟩) 0 0] w (WR b g 0 0 ((d.map ab2).map (divF 0)) w) := t45 h.out h.out.len (by omega)
theorem nil_of {b g : Nat} {w : World} {d : List (Nat × Nat)} (h : CRow b w (.slice (some ⟨g, 0, none⟩) 0 0) d) : d.map ab2 = [] := by
  have := h.len
  rw [List.length_eq_zero_iff.1 this]; rfl
end Go.Proofs.Ytfimolhndbfpgaa
