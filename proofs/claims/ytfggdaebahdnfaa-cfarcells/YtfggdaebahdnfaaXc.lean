/- lookoutlaw14.CfarCells returns true for every list of floats, every look, every place, every other list and every three whole numbers: the level hangs on the cells alone, Ordered not on where a cell stands; all times a power of two, the level is times that too, and the same is found. No condition. -/
import Derived.Test.YtfggdaebahdnfaaTd
import Derived.Test.YtfggdaebahdnfaaXa
namespace Go.Proofs.Ytfggdaebahdnfaa
namespace cfarCells
open Go.ChangeShapes Go.WideShapes Go.ChangeAt Go.RowKit Go.Fl

set_option maxRecDepth 100000 in
theorem lifted (os : Os) (started : os.Started) (H : Type) (enc : TypeId × Value → H) :
    ReturnsInHanded {} Try.checked os 5 .any (Rows.cfarCellsSpec.pre6 enc Try.prog Try.f5 Rows.cfarCellsRow.domain false) (Rows.cfarCellsSpec.post enc Try.prog Try.f5 false true false false) := by
  refine returnsInHanded_of_change_sized (C := Try.checked) ownK started (by kernel_rfl) Try.func5
    (ChangeSpec.witness6 (enc := enc) (C := Try.checked) false ⟨#[], #[.slice none 0 0, .agg #[.int .i8 0, .int .i64 0, .int .i64 0, .int .i64 0, .float .f64 0], .int .i64 0, .slice none 0 0, .int .i64 0, .int .i64 0, .int .i64 0], []⟩ 8 (by kernel_rfl) (by kernel_rfl) (by kernel_rfl) (by kernel_rfl)) ?_
  intro W base args ds gs before hval0 hW _ hsz0 _
  have hsz : (DataW.weightsEach Try.prog (Try.f5.params.toList ++ Rows.cfarCellsSpec.plain.varTypes Try.prog) (ds ++ gs)).all (· ≤ reachBytes) = true := hsz0
  clear hsz0
  have hval : ∀ (j : Nat) t v, Try.f5.params[j]? = some t → args[j]? = some v → Value.okWide Try.prog W .any base t v := hval0
  have hW' := hW
  obtain ⟨p, q, hA0, hV, rfl, _, _⟩ := hW
  have hA : DataW.TrodAll enc Try.prog W 0 (fun _ => true) true Try.f5.params.toList args.toList ds p := hA0
  rw [Try.params5] at hA hval hsz
  obtain ⟨v0, vs0, d0, ds0, p0, q0, hargs, rfl, rfl, h0, r0⟩ := trodAll_cons hA
  obtain ⟨v1, vs1, d1, ds1, p1, q1, rfl, rfl, rfl, h1, r1⟩ := trodAll_cons r0
  obtain ⟨v2, vs2, d2, ds2, p2, q2, rfl, rfl, rfl, h2, r2⟩ := trodAll_cons r1
  obtain ⟨v3, vs3, d3, ds3, p3, q3, rfl, rfl, rfl, h3, r3⟩ := trodAll_cons r2
  obtain ⟨v4, vs4, d4, ds4, p4, q4, rfl, rfl, rfl, h4, r4⟩ := trodAll_cons r3
  obtain ⟨v5, vs5, d5, ds5, p5, q5, rfl, rfl, rfl, h5, r5⟩ := trodAll_cons r4
  obtain ⟨v6, vs6, d6, ds6, p6, q6, rfl, rfl, rfl, h6, r6⟩ := trodAll_cons r5
  obtain ⟨rfl, rfl, rfl⟩ := trodAll_nil r6
  obtain rfl : args = #[v0, v1, v2, v3, v4, v5, v6] := by cases args; simp_all
  obtain ⟨rfl, rfl⟩ := trodVars_none hV
  obtain ⟨a2, rfl, rfl, rfl, w2⟩ := open_int Try.underlying3 (hval 2 3 v2 rfl rfl) h2
  obtain ⟨a4, rfl, rfl, rfl, w4⟩ := open_int Try.underlying3 (hval 4 3 v4 rfl rfl) h4
  obtain ⟨a5, rfl, rfl, rfl, w5⟩ := open_int Try.underlying3 (hval 5 3 v5 rfl rfl) h5
  obtain ⟨a6, rfl, rfl, rfl, w6⟩ := open_int Try.underlying3 (hval 6 3 v6 rfl rfl) h6
  clear hA0 hval0
  simp only [List.append_nil, List.nil_append] at hW'
  have hlt0 : ∀ x ∈ p0, x.block < W.heap.size := fun x hx => hW'.lt x (by simp [hx])
  have hlt1 : ∀ x ∈ p1, x.block < W.heap.size := fun x hx => hW'.lt x (by simp [hx])
  have hlt3 : ∀ x ∈ p3, x.block < W.heap.size := fun x hx => hW'.lt x (by simp [hx])
  obtain ⟨b0, n0, c0, D0, rfl, s0, z0⟩ := open_sv (hval 0 22 v0 rfl rfl) h0
  have m0 : n0 ≤ 1152921504606846976 := by
    rcases z0 with ⟨_, rfl⟩ | ⟨es, rs, e, rfl⟩
    · omega
    · have hw := sized_slice hsz (j := 0) (e := 24) (elems := es) (spare := rs) rfl (by rw [e]; rfl) Try.underlying22
      rw [bytes24] at hw
      unfold reachBytes at hw
      omega
  obtain ⟨y1, g1, t1, m1, x1, rfl, ⟨l1, u1⟩, f1⟩ := open_look (hval 1 26 v1 rfl rfl) h1
  obtain ⟨b3, n3, c3, D3, rfl, s3, z3⟩ := open_sv (hval 3 22 v3 rfl rfl) h3
  have m3 : n3 ≤ 1152921504606846976 := by
    rcases z3 with ⟨_, rfl⟩ | ⟨es, rs, e, rfl⟩
    · omega
    · have hw := sized_slice hsz (j := 3) (e := 24) (elems := es) (spare := rs) rfl (by rw [e]; rfl) Try.underlying22
      rw [bytes24] at hw
      unfold reachBytes at hw
      omega
  refine (t5 _ _ _ a2 a4 a5 a6 l1 u1 s0 s3 (by omega) (by omega)).mono fun e W' ⟨he, hu⟩ => ?_
  subst he
  have hn : RowKit.Below W.heap.size W W' := hu.out
  refine ⟨_, rfl, _, _, _, [], (p0 ++ (p1 ++ (p3))), [], hW', ?_, ?_, rfl, hn.frame _, fun h => by cases h⟩
  · exact trodAll_cons_mk (shut_bool Try.underlying4 _) trodAll_mk0
  · have h3 := (trodAll_cons_mk (Below.trod laidOut (by kernel_rfl) (of_decide_eq_true (by kernel_rfl)) h0 hn hlt0) (trodAll_cons_mk (Below.trod laidOut (by kernel_rfl) (of_decide_eq_true (by kernel_rfl)) h1 hn hlt1) (trodAll_cons_mk (shut_int Try.underlying3 w2) (trodAll_cons_mk (Below.trod laidOut (by kernel_rfl) (of_decide_eq_true (by kernel_rfl)) h3 hn hlt3) (trodAll_cons_mk (shut_int Try.underlying3 w4) (trodAll_cons_mk (shut_int Try.underlying3 w5) (trodAll_cons_mk (shut_int Try.underlying3 w6) trodAll_mk0)))))))
    simp only [List.append_nil, List.nil_append] at h3
    exact h3

theorem over : Rows.cfarCellsRow.holds Try.pinned (OpenSpec.ofChange Rows.cfarCellsSpec) :=
  OpenClaim.holds_of_wide 5 Try.f5 rfl rfl rfl rfl rfl rfl rfl ⟨rfl, rfl, rfl, rfl, rfl⟩ rfl rfl rfl rfl rfl (by kernel_rfl) Try.func5 (by kernel_rfl)
    (of_decide_eq_true (by kernel_rfl)) (by unfold Func.isWrapper; first | (rw [if_pos (by decide +kernel)]; kernel_rfl) | (rw [if_neg (by decide +kernel)]; exact ⟨rfl, rfl⟩))
    (fun os started H enc _ => lifted os started H enc)
end cfarCells

theorem cfarCells_holds : Rows.CfarCellsSaid := cfarCells.over
#print axioms cfarCells_holds
end Go.Proofs.Ytfggdaebahdnfaa
