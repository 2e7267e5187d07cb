/- The copy of a row of floats. -/
import Derived.Test.YtfggdaebahdnfaaZ
import Derived.Test.YtfggdaebahdnfaaUa
namespace Go.Proofs.Ytfggdaebahdnfaa
open Go.ChangeShapes Go.WideShapes Go.ChangeAt Go.RowKit Go.Fl Go.Sort
attribute [local go_sem] run_store_float call35 call46 run_neg fold_eq fold_ne fold_lt fold_gt abs_eq eql_nil
set_option maxHeartbeats 1000000 in
theorem t76 (blk off cap : Nat) (d : Array Nat) (w : World) (hR : Reads w blk off d) (hp : 0 < d.size) (hb : d.size * 8 ≤ 140737488355328) :
    Calls Try.prog 76 #[.slice (some ⟨blk, off, none⟩) d.size cap] w fun e w' => ∃ v, e = .returned v ∧ Hid (Own w.heap.size w' v d) ∧ Hid (Up w w') := by
  obtain ⟨i0, hi, hz0, hz1, hz2⟩ := info_parts info23
  have HR : Hid (Reads w blk off d) := hR
  clear hR
  have hown : (w.alloc (.cells #[] 24)).ownsRow w.heap.size 24 1 (.slice (some ⟨w.heap.size, 0, none⟩) 0 0) 0 [] := own_empty w
  go_enter Try.func76, Try.ntmps76
  go_wp2_with (at_builtin; refine wpList_append_own _ rfl _ _ 22 rfl w.heap.size 24 i0 (.float .f64 0) 1 8 Try.underlying22 hi hz0 hz1 hz2 rfl (by decide) _ _ _ rfl hown ⟨blk, off, none⟩ d.size cap (d.toList.map fe) rfl (by simp) (reads_news (HR.out.up (Up.alloc _ _))) (one_cells _) (by unfold maxLen; omega) (by omega) (by simp) ?_)
  intro v' w1 hown' hgrow _
  have O : Hid (Own w.heap.size w1 v' d) := own_of hp (by simpa using hown')
  have U : Hid (Up w w1) := RowKit.Below.grown ((Below.refl _ _).alloc (Nat.le_refl _) _) hgrow (by simp) (fun k hk => by simp [Value.ownBlock] at hk; omega)
  clear hown' hgrow hown
  go_wp2
  go_ret
  exact ⟨_, rfl, O, U⟩
end Go.Proofs.Ytfggdaebahdnfaa
