/- StillSettles (P13.7): whatever the share and the floats are, the law returns true: a map that is fed one row again and again tells noughts, and a level stays between what came, but for what is let through. No condition. -/
import Derived.Test.YtgalgnopjcpocaaHc
import Derived.Test.YtgalgnopjcpocaaN1
namespace Go.Proofs.Ytgalgnopjcpocaa
namespace stillSettles
open Go.ChangeShapes Go.WideShapes Go.ChangeAt Go.RowKit Go.Fl

set_option maxRecDepth 100000 in
theorem lifted (os : Os) (started : os.Started) (H : Type) (enc : TypeId × Value → H) :
    ReturnsInHanded {} Try.checked os 7 .any (Rows.stillSettlesSpec.pre6 enc Try.prog Try.f7 Rows.stillSettlesRow.domain false) (Rows.stillSettlesSpec.post enc Try.prog Try.f7 false true false false) := by
  refine returnsInHanded_of_change_sized (C := Try.checked) ownK started (by kernel_rfl) Try.func7
    (ChangeSpec.witness6 (enc := enc) (C := Try.checked) false ⟨#[], #[.float .f64 0, .slice none 0 0], []⟩ 8 (by kernel_rfl) (by kernel_rfl) (by kernel_rfl) (by kernel_rfl)) ?_
  intro W base args ds gs before hval0 hW _ hsz0 _
  have hsz : (DataW.weightsEach Try.prog (Try.f7.params.toList ++ Rows.stillSettlesSpec.plain.varTypes Try.prog) (ds ++ gs)).all (· ≤ reachBytes) = true := hsz0
  clear hsz0
  have hval : ∀ (j : Nat) t v, Try.f7.params[j]? = some t → args[j]? = some v → Value.okWide Try.prog W .any base t v := hval0
  have hW' := hW
  obtain ⟨p, q, hA0, hV, rfl, _, _⟩ := hW
  have hA : DataW.TrodAll enc Try.prog W 0 (fun _ => true) true Try.f7.params.toList args.toList ds p := hA0
  rw [Try.params7] at hA hval hsz
  obtain ⟨v0, vs0, d0, ds0, p0, q0, hargs, rfl, rfl, h0, r0⟩ := trodAll_cons hA
  obtain ⟨v1, vs1, d1, ds1, p1, q1, rfl, rfl, rfl, h1, r1⟩ := trodAll_cons r0
  obtain ⟨rfl, rfl, rfl⟩ := trodAll_nil r1
  obtain rfl : args = #[v0, v1] := by cases args; simp_all
  obtain ⟨rfl, rfl⟩ := trodVars_none hV
  obtain ⟨s, rfl, rfl, rfl, w0⟩ := open_float Try.underlying26 (hval 0 26 v0 rfl rfl) h0
  obtain ⟨a1, len, cap, rfl⟩ := okWide_slice Try.underlying28 (hval 1 28 v1 rfl rfl)
  have h1k := h1
  obtain ⟨fuel, hf⟩ := h1
  clear hA0 hval0
  simp only [List.append_nil, List.nil_append] at hW'
  have hlt : ∀ x ∈ p1, x.block < W.heap.size := fun x hx => hW'.lt x (by simpa using hx)
  have fin : ∀ e W', YS W e W' → ∃ v, e = Ending.returned v ∧ Rows.stillSettlesSpec.post enc Try.checked.prog Try.f7 false true false false W #[.float .f64 s, .slice a1 len cap] v W' := by
    intro e W' ⟨he, hu⟩
    subst he
    have hn : RowKit.Below W.heap.size W W' := hu.out
    refine ⟨_, rfl, _, _, _, [], p1, [], hW', ?_, ?_, rfl, hn.frame _, fun h => by cases h⟩
    · exact trodAll_cons_mk (shut_bool Try.underlying4 _) trodAll_mk0
    · have ht := Below.trod laidOut (by kernel_rfl) (of_decide_eq_true (by kernel_rfl)) h1k hn hlt
      have h3 := trodAll_cons_mk (shut_float Try.underlying26 w0) (trodAll_cons_mk ht trodAll_mk0)
      simp only [List.append_nil, List.nil_append] at h3
      exact h3
  rcases open_floats hf with ⟨hcs, hx⟩ | ⟨a, len', cap', es, rs, f, hcs, hl, hx, hel, hrl, _, hR⟩
  · simp [Value.cells] at hcs
    obtain ⟨rfl, rfl, rfl⟩ := hcs
    exact (t7 (f := fun _ => 0) (fun h => by omega) (by omega) (by omega)).mono fun e W' h => fin e W' h
  · simp [Value.cells] at hcs
    obtain ⟨rfl, rfl, rfl⟩ := hcs
    have hd1 : d1 = .slice es rs := hx
    have hw := sized_slice hsz (j := 1) (e := 26) (elems := es) (spare := rs) rfl (by rw [hd1]; rfl) Try.underlying28
    rw [bytes26] at hw
    unfold reachBytes at hw
    exact (t7 (f := f) (fun h => by
      obtain ⟨b, o, e, r⟩ := hR h
      exact ⟨b, o, by rw [e], r⟩) hl (by omega)).mono fun e W' h => fin e W' h

theorem over : Rows.stillSettlesRow.holds Try.pinned (OpenSpec.ofChange Rows.stillSettlesSpec) :=
  OpenClaim.holds_of_wide 7 Try.f7 rfl rfl rfl rfl rfl rfl rfl ⟨rfl, rfl, rfl, rfl, rfl⟩ rfl rfl rfl rfl rfl (by kernel_rfl) Try.func7 (by kernel_rfl)
    (of_decide_eq_true (by kernel_rfl)) (by unfold Func.isWrapper; first | (rw [if_pos (by decide +kernel)]; kernel_rfl) | (rw [if_neg (by decide +kernel)]; exact ⟨rfl, rfl⟩))
    (fun os started H enc _ => lifted os started H enc)
end stillSettles

theorem stillSettles_holds : Rows.StillSettlesSaid := stillSettles.over
#print axioms stillSettles_holds
end Go.Proofs.Ytgalgnopjcpocaa
