/- lookoutlaw10.FoldNears returns true for whatever is asked. No condition. -/
import Derived.Test.YtpahjenfkgcdlaaR
import Derived.Test.YtpahjenfkgcdlaaXx
namespace Go.Proofs.Ytpahjenfkgcdlaa
namespace foldNears
open Go.ChangeShapes Go.WideShapes Go.ChangeAt Go.RowKit

theorem ownK : ownKnob Try.prog.godebug = none := by kernel_rfl
theorem cells33 : Try.prog.cellsOf 33 = 4 := by kernel_rfl
theorem cells27 : Try.prog.cellsOf 27 = 1 := by kernel_rfl
theorem four {α : Type} {cs : Array α} (h : cs.size = 4) : ∃ a b c d, cs = #[a, b, c, d] := by
  obtain ⟨l⟩ := cs
  match l, h with
  | [a, b, c, d], _ => exact ⟨a, b, c, d, rfl⟩
theorem four_list {α : Type} {l : List α} (h : l.length = 4) : ∃ a b c d, l = [a, b, c, d] := by
  match l, h with
  | [a, b, c, d], _ => exact ⟨a, b, c, d, rfl⟩
/-- What is asked, opened. -/
theorem opened {H : Type} {enc : TypeId × Value → H} {W : World} {base : Nat} {v : Value} {d : DataW H} {ps : List MemPlace} (hv : Value.okWide Try.prog W .any base 33 v) (h : DataW.Trod enc Try.prog W 0 (fun _ => true) true 33 v d ps) :
    ∃ (r m : List Int) (p q : Option Addr) (c1 c2 : Nat) (off most : Int), v = .agg #[.slice p r.length c1, .slice q m.length c2, .int .i64 off, .int .i64 most] ∧ IR W p r.length (fun i => r[i]!) ∧ (p = none → r.length = 0 ∧ c1 = 0) ∧ IR W q m.length (fun i => m[i]!) ∧ (q = none → m.length = 0 ∧ c2 = 0) ∧ off ≤ 9223372036854775807 := by
  obtain ⟨cs, rfl, hsz⟩ := okWide_struct Try.underlying33 hv
  obtain ⟨c0, c1, c2, c3, rfl⟩ := four (hsz.trans cells33)
  obtain ⟨fuel, hf⟩ := h
  obtain ⟨xs, n, _, _, _, hlen, hall⟩ := DataW.trod_struct Try.underlying33 hf
  obtain ⟨y0, y1, y2, y3, rfl⟩ := four_list (by simpa using hlen)
  have e0 : DataW.trod enc Try.prog W 0 (fun _ => true) true n 27 [c0] = some y0 := by simpa [Value.cells, cells27] using hall 0 _ rfl
  have e1 : DataW.trod enc Try.prog W 0 (fun _ => true) true n 27 [c1] = some y1 := by simpa [Value.cells, cells27] using hall 1 _ rfl
  have e2 : DataW.trod enc Try.prog W 0 (fun _ => true) true n 2 [c2] = some y2 := by simpa [Value.cells, cells2] using hall 2 _ rfl
  have e3 : DataW.trod enc Try.prog W 0 (fun _ => true) true n 2 [c3] = some y3 := by simpa [Value.cells, cells2] using hall 3 _ rfl
  obtain ⟨r, p, cr, rfl, ir, nr⟩ := list_cells e0
  obtain ⟨m, q, cm, rfl, im, nm⟩ := list_cells e1
  obtain ⟨off, k2, _, w2⟩ := DataW.trod_int Try.underlying2 e2
  obtain ⟨most, k3, _, _⟩ := DataW.trod_int Try.underlying2 e3
  simp only [List.cons.injEq, and_true] at k2 k3
  subst k2 k3
  exact ⟨r, m, p, q, cr, cm, off, most, rfl, ir, nr, im, nm, by have h := w2; simp only [Lit.wf, Bool.and_eq_true, decide_eq_true_eq] at h; exact h.2⟩
set_option maxRecDepth 100000 in
theorem lifted (os : Os) (started : os.Started) (H : Type) (enc : TypeId × Value → H) :
    ReturnsInHanded {} Try.checked os 5 .any (Rows.foldNearsSpec.pre6 enc Try.prog Try.f5 Rows.foldNearsRow.domain false) (Rows.foldNearsSpec.post enc Try.prog Try.f5 false true false false) := by
  refine returnsInHanded_of_change (C := Try.checked) ownK started (by kernel_rfl) Try.func5
    (ChangeSpec.witness6 (enc := enc) (C := Try.checked) false ⟨#[], #[.agg #[.slice none 0 0, .slice none 0 0, .int .i64 0, .int .i64 0]], []⟩ 8 (by kernel_rfl) (by kernel_rfl) (by kernel_rfl) (by kernel_rfl)) ?_
  intro W base args ds gs before hval0 hW hcnd _
  have hval : ∀ (j : Nat) t v, Try.f5.params[j]? = some t → args[j]? = some v → Value.okWide Try.prog W .any base t v := hval0
  have hW' := hW
  obtain ⟨p, q, hA0, hV, rfl, hfz, hnd⟩ := hW
  have hA : DataW.TrodAll enc Try.prog W 0 (fun _ => true) true Try.f5.params.toList args.toList ds p := hA0
  rw [Try.params5] at hA hval
  obtain ⟨v0, vs0, d0, ds0, p0, q0, hargs, rfl, rfl, h0, r0⟩ := trodAll_cons hA
  obtain ⟨rfl, rfl, rfl⟩ := trodAll_nil r0
  obtain rfl : args = #[v0] := by cases args; simp_all
  obtain ⟨rfl, rfl⟩ := trodVars_none hV
  have hv := hval 0 33 v0 rfl rfl
  clear hA0 hval0
  simp only [List.append_nil] at hW'
  have hlt : ∀ x ∈ p0, x.block < W.heap.size := fun x hx => hW'.lt x (by simpa using hx)
  obtain ⟨r, m, pr, pm, cr, cm, off, most, rfl, ir, nr, im, nm, ho⟩ := opened hv h0
  refine (t5 r m pr pm cr cm off most W ir nr im nm ho).mono fun e W' ⟨he, hu⟩ => ?_
  subst he
  have hn : RowKit.Below W.heap.size W W' := hu.out
  have ht := Below.trod laidOut (by kernel_rfl) (of_decide_eq_true (by kernel_rfl)) h0 hn hlt
  have h3 := trodAll_cons_mk ht trodAll_mk0
  simp only [List.append_nil] at h3
  refine ⟨_, rfl, _, _, _, [], p0, [], hW', ?_, ?_, rfl, hn.frame _, fun h => by cases h⟩
  · exact trodAll_cons_mk (shut_bool Try.underlying4 _) trodAll_mk0
  · exact h3

theorem over : Rows.foldNearsRow.holds Try.pinned (OpenSpec.ofChange Rows.foldNearsSpec) :=
  OpenClaim.holds_of_wide 5 Try.f5 rfl rfl rfl rfl rfl rfl rfl ⟨rfl, rfl, rfl, rfl, rfl⟩ rfl rfl rfl rfl rfl (by kernel_rfl) Try.func5 (by kernel_rfl)
    (of_decide_eq_true (by kernel_rfl)) (by unfold Func.isWrapper; first | (rw [if_pos (by decide +kernel)]; kernel_rfl) | (rw [if_neg (by decide +kernel)]; exact ⟨rfl, rfl⟩))
    (fun os started H enc _ => lifted os started H enc)
end foldNears

theorem foldNears_holds : Rows.FoldNearsSaid := foldNears.over
#print axioms foldNears_holds
end Go.Proofs.Ytpahjenfkgcdlaa
