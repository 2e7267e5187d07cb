/- lookoutlaw03.SumsSorted returns true for every list of floats: all places, one behind the other, are the list's first 300 floats sorted. No condition. -/
import Derived.Test.YtfifdngcdknbbaaR
namespace Go.Proofs.Ytfifdngcdknbbaa
namespace sumsSorted
open Go.ChangeShapes Go.WideShapes Go.ChangeAt Go.RowKit Go.Fl

set_option maxRecDepth 100000 in
theorem lifted (os : Os) (started : os.Started) (H : Type) (enc : TypeId × Value → H) :
    ReturnsInHanded {} Try.checked os 4 .any (Rows.sumsSortedSpec.pre6 enc Try.prog Try.f4 Rows.sumsSortedRow.domain false) (Rows.sumsSortedSpec.post enc Try.prog Try.f4 false true false false) := by
  refine returnsInHanded_of_change_sized (C := Try.checked) own started (by kernel_rfl) Try.func4
    (ChangeSpec.witness6 (enc := enc) (C := Try.checked) false ⟨#[], #[.slice none 0 0], []⟩ 8 (by kernel_rfl) (by kernel_rfl) (by kernel_rfl) (by kernel_rfl)) ?_
  intro W base args ds gs before hval0 hW _ _ _
  have hval : ∀ (j : Nat) t v, Try.f4.params[j]? = some t → args[j]? = some v → Value.okWide Try.prog W .any base t v := hval0
  have hW' := hW
  obtain ⟨p, q, hA0, hV, rfl, _, _⟩ := hW
  have hA : DataW.TrodAll enc Try.prog W 0 (fun _ => true) true Try.f4.params.toList args.toList ds p := hA0
  rw [Try.params4] at hA hval
  obtain ⟨v0, vs0, d0, ds0, p0, q0, hargs, rfl, rfl, h0, r0⟩ := trodAll_cons hA
  obtain ⟨rfl, rfl, rfl⟩ := trodAll_nil r0
  obtain rfl : args = #[v0] := by cases args; simp_all
  obtain ⟨rfl, rfl⟩ := trodVars_none hV
  obtain ⟨a0, len, cap, rfl⟩ := okWide_slice Try.underlying22 (hval 0 22 v0 rfl rfl)
  have h0k := h0
  obtain ⟨fuel, hf⟩ := h0
  clear hA0 hval0
  simp only [List.append_nil] at hW'
  have hlt : ∀ x ∈ p0, x.block < W.heap.size := fun x hx => hW'.lt x (by simpa using hx)
  have fin : ∀ e W', KV W (.bool true) e W' → ∃ v, e = Ending.returned v ∧ Rows.sumsSortedSpec.post enc Try.checked.prog Try.f4 false true false false W #[.slice a0 len cap] v W' := by
    intro e W' ⟨he, hu⟩
    subst he
    have hn : RowKit.Below W.heap.size W W' := hu.out
    refine ⟨_, rfl, _, _, _, [], p0, [], hW', ?_, ?_, rfl, hn.frame _, fun h => by cases h⟩
    · exact trodAll_cons_mk (shut_bool Try.underlying4 _) trodAll_mk0
    · have ht := Below.trod laidOut (by kernel_rfl) (of_decide_eq_true (by kernel_rfl)) h0k hn hlt
      have h3 := trodAll_cons_mk ht trodAll_mk0
      simp only [List.append_nil] at h3
      exact h3
  rcases open_floats hf with ⟨hcs, hx⟩ | ⟨a, len', cap', es, rs, d, hcs, hl, hx, hel, hd, hF, hR⟩
  · simp [Value.cells] at hcs
    obtain ⟨rfl, rfl, rfl⟩ := hcs
    exact (t4e none 0 W (fun _ => rfl)).mono fun e W' h => fin e W' h
  · simp [Value.cells] at hcs
    obtain ⟨rfl, rfl, rfl⟩ := hcs
    rcases Nat.eq_zero_or_pos len with h0 | hp
    · subst h0
      exact (t4e (some a) cap W (fun h => by cases h)).mono fun e W' h => fin e W' h
    · obtain ⟨blk, off, rfl, hr⟩ := hR hp
      rcases Nat.lt_or_ge 300 len with hbig | hsmall
      · have hr2 := reads_sub hr 0 300 (by omega)
        rw [Nat.add_zero] at hr2
        exact (t4b blk off cap len (d.extract 0 300) W hr2 (fit_sub hF 0 300 (by omega)) (by simp; omega) hbig hl).mono fun e W' h => fin e W' h
      · exact (t4s blk off cap len d W hr hF hd hsmall hp hl).mono fun e W' h => fin e W' h

theorem over : Rows.sumsSortedRow.holds Try.pinned (OpenSpec.ofChange Rows.sumsSortedSpec) :=
  OpenClaim.holds_of_wide 4 Try.f4 rfl rfl rfl rfl rfl rfl rfl ⟨rfl, rfl, rfl, rfl, rfl⟩ rfl rfl rfl rfl rfl (by kernel_rfl) Try.func4 (by kernel_rfl)
    (of_decide_eq_true (by kernel_rfl)) (by unfold Func.isWrapper; first | (rw [if_pos (by decide +kernel)]; kernel_rfl) | (rw [if_neg (by decide +kernel)]; exact ⟨rfl, rfl⟩))
    (fun os started H enc _ => lifted os started H enc)
end sumsSorted

theorem sumsSorted_holds : Rows.SumsSortedSaid := sumsSorted.over
#print axioms sumsSorted_holds
end Go.Proofs.Ytfifdngcdknbbaa
