/- lookoutlaw03.SumsFloats returns true for every list of floats and every int: the program's Floats and Nth give, by bits (all NaN being one), what the reference's give, and the list stays. No condition. -/
import Derived.Test.YtfifdngcdknbbaaN
namespace Go.Proofs.Ytfifdngcdknbbaa
namespace sumsFloats
open Go.ChangeShapes Go.WideShapes Go.ChangeAt Go.RowKit Go.Fl

set_option maxRecDepth 100000 in
theorem lifted (os : Os) (started : os.Started) (H : Type) (enc : TypeId × Value → H) :
    ReturnsInHanded {} Try.checked os 3 .any (Rows.sumsFloatsSpec.pre6 enc Try.prog Try.f3 Rows.sumsFloatsRow.domain false) (Rows.sumsFloatsSpec.post enc Try.prog Try.f3 false true false false) := by
  refine returnsInHanded_of_change_sized (C := Try.checked) own started (by kernel_rfl) Try.func3
    (ChangeSpec.witness6 (enc := enc) (C := Try.checked) false ⟨#[], #[.slice none 0 0, .int .i64 0], []⟩ 8 (by kernel_rfl) (by kernel_rfl) (by kernel_rfl) (by kernel_rfl)) ?_
  intro W base args ds gs before hval0 hW _ hsz0 _
  have hsz : (DataW.weightsEach Try.prog (Try.f3.params.toList ++ Rows.sumsFloatsSpec.plain.varTypes Try.prog) (ds ++ gs)).all (· ≤ reachBytes) = true := hsz0
  clear hsz0
  have hval : ∀ (j : Nat) t v, Try.f3.params[j]? = some t → args[j]? = some v → Value.okWide Try.prog W .any base t v := hval0
  have hW' := hW
  obtain ⟨p, q, hA0, hV, rfl, _, _⟩ := hW
  have hA : DataW.TrodAll enc Try.prog W 0 (fun _ => true) true Try.f3.params.toList args.toList ds p := hA0
  rw [Try.params3] at hA hval hsz
  obtain ⟨v0, vs0, d0, ds0, p0, q0, hargs, rfl, rfl, h0, r0⟩ := trodAll_cons hA
  obtain ⟨v1, vs1, d1, ds1, p1, q1, rfl, rfl, rfl, h1, r1⟩ := trodAll_cons r0
  obtain ⟨rfl, rfl, rfl⟩ := trodAll_nil r1
  obtain rfl : args = #[v0, v1] := by cases args; simp_all
  obtain ⟨rfl, rfl⟩ := trodVars_none hV
  obtain ⟨a0, len, cap, rfl⟩ := okWide_slice Try.underlying22 (hval 0 22 v0 rfl rfl)
  obtain ⟨n, rfl, rfl, rfl, w1⟩ := open_int Try.underlying3 (hval 1 3 v1 rfl rfl) h1
  have h0k := h0
  obtain ⟨fuel, hf⟩ := h0
  clear hA0 hval0
  simp only [List.append_nil] at hW'
  have hlt : ∀ x ∈ p0, x.block < W.heap.size := fun x hx => hW'.lt x (by simpa using hx)
  have fin : ∀ e W', KV W (.bool true) e W' → ∃ v, e = Ending.returned v ∧ Rows.sumsFloatsSpec.post enc Try.checked.prog Try.f3 false true false false W #[.slice a0 len cap, .int .i64 n] v W' := by
    intro e W' ⟨he, hu⟩
    subst he
    have hn : RowKit.Below W.heap.size W W' := hu.out
    refine ⟨_, rfl, _, _, _, [], p0, [], hW', ?_, ?_, rfl, hn.frame _, fun h => by cases h⟩
    · exact trodAll_cons_mk (shut_bool Try.underlying4 _) trodAll_mk0
    · have ht := Below.trod laidOut (by kernel_rfl) (of_decide_eq_true (by kernel_rfl)) h0k hn hlt
      have h3 := trodAll_cons_mk ht (trodAll_cons_mk (shut_int Try.underlying3 w1) trodAll_mk0)
      simp only [List.append_nil] at h3
      exact h3
  rcases open_floats hf with ⟨hcs, hx⟩ | ⟨a, len', cap', es, rs, d, hcs, hl, hx, hel, hd, hF, hR⟩
  · simp [Value.cells] at hcs
    obtain ⟨rfl, rfl, rfl⟩ := hcs
    exact (t3e none 0 n W (fun _ => rfl)).mono fun e W' h => fin e W' h
  · simp [Value.cells] at hcs
    obtain ⟨rfl, rfl, rfl⟩ := hcs
    rcases Nat.eq_zero_or_pos len with h0 | hp
    · subst h0
      exact (t3e (some a) cap n W (fun h => by cases h)).mono fun e W' h => fin e W' h
    · obtain ⟨blk, off, rfl, hr⟩ := hR hp
      have hd0 : d0 = .slice es rs := hx
      have hw := sized_slice hsz (j := 0) (e := 23) (elems := es) (spare := rs) rfl (by rw [hd0]; rfl) Try.underlying22
      rw [bytes23] at hw
      unfold reachBytes at hw
      subst hd
      exact (t3 blk off cap d n W hr hF hp hl (by omega)).mono fun e W' h => fin e W' h

theorem over : Rows.sumsFloatsRow.holds Try.pinned (OpenSpec.ofChange Rows.sumsFloatsSpec) :=
  OpenClaim.holds_of_wide 3 Try.f3 rfl rfl rfl rfl rfl rfl rfl ⟨rfl, rfl, rfl, rfl, rfl⟩ rfl rfl rfl rfl rfl (by kernel_rfl) Try.func3 (by kernel_rfl)
    (of_decide_eq_true (by kernel_rfl)) (by unfold Func.isWrapper; first | (rw [if_pos (by decide +kernel)]; kernel_rfl) | (rw [if_neg (by decide +kernel)]; exact ⟨rfl, rfl⟩))
    (fun os started H enc _ => lifted os started H enc)
end sumsFloats

theorem sumsFloats_holds : Rows.SumsFloatsSaid := sumsFloats.over
#print axioms sumsFloats_holds
end Go.Proofs.Ytfifdngcdknbbaa
