/- Slow of none; Middle. -/
import Derived.Test.YtkjpmmcfbaffoaaZ
namespace Go.Proofs.Ytkjpmmcfbaffoaa
open Go.ChangeShapes Go.WideShapes Go.ChangeAt Go.RowKit Go.Fl Ieee
attribute [local go_sem] run_store_float run_store_c isSome_set call35 call34 run_neg fold_eq fold_ne fold_lt fold_gt abs_eq

theorem up_make0 {o : Oper} {a : Act} {next : Act → World → Prop} {Q : Exit → Act → World → Prop} {w : World} {F : Value → World → Result Next}
    (hk : ∀ g w', Hid (Made 0 g w w') → o.upon Try.prog a next Q (F (.slice (some ⟨g, 0, none⟩) 0 0) w')) :
    o.upon Try.prog a next Q (((Instr.makeSlice 22 (.int .i64 0) (.int .i64 0)).run Try.prog w).andThen F) := upon_make (n := 0) (by omega) hk
theorem t12z (w : World) : Calls Try.prog 12 #[.int .i64 0, .int .i64 0, .bool true] w (UR w true 0 0) := t12 true 0 0 w (by omega) (by omega)
theorem t13z {b g : Nat} {w : World} {d : List (Nat × Nat)} (h : Hid (CRow b w (.slice (some ⟨g, 0, none⟩) 0 0) d)) : Calls Try.prog 13 #[.slice (some ⟨g, 0, none⟩) 0 0] w (WR b g 0 0 ((d.map ab2).map (divF 0)) w) := t13 h.out h.out.len (by omega)
theorem nil_of {b g : Nat} {w : World} {d : List (Nat × Nat)} (h : CRow b w (.slice (some ⟨g, 0, none⟩) 0 0) d) : d.map ab2 = [] := by
  have := h.len
  rw [List.length_eq_zero_iff.1 this]; rfl
theorem t5e (p : Option Addr) (cap : Nat) (w : World) : Calls Try.prog 5 #[.slice p 0 cap, .bool true] w (PL w [] 0) := by
  go_enter Try.func5, Try.ntmps5
  go_wp2_with (go_at_call 12; (with_reducible refine (t12z _).mono ?_); rintro e w2 ⟨bp, bm, q, fu, rfl, HU, HB, HP, HF⟩)
  go_region_held3 (fun _ => True) (exact True.intro) (((with_reducible refine up_make0 ?_); intro _ _ _))
  rename_i A wa HA T w1 HT _
  have HS : Hid (SI w w1 A T bp bm q 0 fu (List.replicate 0 (0, 0)) (List.replicate 0 (0, 0))) := (SI.start (k := 1) HA.out HT.out HU.out HB.out HP.out).1
  clear HA HT HU HB HP
  rotate_left
  rename_i T wa HT A w1 HA _
  have HS : Hid (SI w w1 A T bp bm q 0 fu (List.replicate 0 (0, 0)) (List.replicate 0 (0, 0))) := (SI.start (k := 1) HT.out HA.out HU.out HB.out HP.out).2
  clear HA HT HU HB HP
  all_goals
    have HC : Hid (CRow w.heap.size w1 (.slice (some ⟨A, 0, none⟩) 0 0) (List.replicate 0 (0, 0))) := HS.out.ans
    go_wp2
    go_loopw [26] (fun vi wr => vi = .int .i64 0 ∧ wr = w1) (fun _ _ => 0)
    case atStart => exact ⟨rfl, rfl⟩
    case round =>
      obtain ⟨rfl, rfl⟩ := hrel
      go_wp2_with (go_at_call 13; (with_reducible refine (t13z HC).mono ?_); rintro e w4 ⟨d4, rfl, HC4, HB4, HE4⟩)
      go_ret2
      exact ⟨_, d4, rfl, HC4.out, HB4.out.up HS.out.up HS.out.loA, nil_of HC4.out⟩
end Go.Proofs.Ytkjpmmcfbaffoaa
