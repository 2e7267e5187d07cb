/- StillMaps (P13.3, P13.4, R3): whatever the gates, the share and the rows are, the law returns true: two maps, the program's and the document's, tell the same and have the same levels; the rows stay as they are. No condition. -/
import Derived.Test.YtgalgnopjcpocaaFb
import Derived.Test.YtgalgnopjcpocaaN1
namespace Go.Proofs.Ytgalgnopjcpocaa
namespace stillMaps
open Go.ChangeShapes Go.WideShapes Go.ChangeAt Go.RowKit Go.Fl

set_option maxRecDepth 20000 in
theorem cells28 : Try.prog.cellsOf 28 = 1 := by kernel_rfl
set_option maxRecDepth 20000 in
theorem bytes28 : Try.prog.bytesOf 28 = 24 := by kernel_rfl
theorem weights_in {H : Type} {P : Program} {e : TypeId} : ∀ {l : List (DataW H)} {d : DataW H}, d ∈ l → ∀ n ∈ d.weights P e, n ∈ DataW.weightsAll P e l
  | [], _, h, _, _ => by cases h
  | a :: r, d, h, n, hn => by
    simp only [DataW.weightsAll, List.mem_append]
    rcases List.mem_cons.1 h with rfl | h
    · exact Or.inl hn
    · exact Or.inr (weights_in h n hn)
/-- Rows of floats, opened. -/
theorem open_rows {H : Type} {enc : TypeId × Value → H} {w : World} {base fuel : Nat} {held : Bool} {cs : List Value} {x : DataW H × List MemPlace} (h : DataW.trod enc Try.prog w base (fun _ => true) held fuel 27 cs = some x) (hsz : (x.1.weights Try.prog 27).all (· ≤ reachBytes) = true) :
    (cs = [.slice none 0 0]) ∨ ∃ (a : Addr) (len cap : Nat), cs = [.slice (some a) len cap] ∧ len ≤ 17592186044416 ∧ ∃ (R ro : Nat) (P : Nat → Option Addr) (Ln Cp : Nat → Nat) (f : Nat → Nat → Nat), (0 < len → a = ⟨R, ro, none⟩) ∧ GR w R ro len P Ln Cp f := by
  rcases Go.Deep.open_slice1 Try.underlying27 cells28 h with ⟨h0, _⟩ | ⟨a, len, cap, m, n, V, D, Pl, rfl, hb, hl, hm, hmm, rfl, hx⟩
  · exact Or.inl h0
  right
  simp only [if_true] at hmm
  subst hmm
  have hall : ∀ k ∈ DataW.weights Try.prog 27 (.slice ((List.range len).map D) ((List.range (m - len)).map fun j => D (len + j))), k ≤ reachBytes := fun k hk => by
    have := List.all_eq_true.1 hsz k hk
    simpa using this
  simp only [DataW.weights, Try.underlying27] at hall
  have hlen : len ≤ 17592186044416 := by
    have := hall _ (List.mem_cons_self ..)
    rw [bytes28] at this
    unfold reachBytes at this
    simp at this
    omega
  refine ⟨a, len, m, rfl, hlen, ?_⟩
  rcases Nat.eq_zero_or_pos len with rfl | hp
  · exact ⟨0, 0, fun _ => none, fun _ => 0, fun _ => 0, fun _ _ => 0, fun h => by omega, ⟨fun i hi => by omega, fun i hi => by omega, fun i hi => by omega⟩⟩
  have h0 := (hx 0 (by omega)).1
  obtain ⟨blk, off, spot⟩ := a
  have hs : spot = none := by
    simp only [Addr.add, if_true] at h0
    unfold World.cell? at h0
    split at h0
    · cases spot with
      | none => rfl
      | some s => simp at h0
    · simp at h0
  subst hs
  have each : ∀ i, i < len → ∃ y : Option Addr × Nat × Nat × (Nat → Nat), V i = .slice y.1 y.2.1 y.2.2.1 ∧ y.2.1 ≤ 17592186044416 ∧ VF w y.1 y.2.1 y.2.2.2 := by
    intro i hi
    rcases open_floats (hx i (by omega)).2 with ⟨hcs, hy⟩ | ⟨a', len', cap', es, rs, f', hcs, hl', hy, hel, hrl, _, hr⟩
    · exact ⟨(none, 0, 0, fun _ => 0), by simpa using hcs, by simp, fun h => by simp at h⟩
    · refine ⟨(some a', len', cap', f'), by simpa using hcs, ?_, fun hp => ?_⟩
      · have hmem : D i ∈ (List.range len).map D := List.mem_map.2 ⟨i, List.mem_range.2 hi, rfl⟩
        have hk : (es.length + rs.length) * Try.prog.bytesOf 26 ∈ (D i).weights Try.prog 28 := by
          have e1 : D i = .slice es rs := hy
          rw [e1]
          simp [DataW.weights, Try.underlying28]
        have := hall _ (List.mem_cons_of_mem _ (List.mem_append.2 (Or.inl (weights_in hmem _ hk))))
        rw [bytes26] at this
        unfold reachBytes at this
        simp only
        omega
      · obtain ⟨b', o', e1, r1⟩ := hr hp
        exact ⟨b', o', by rw [e1], r1⟩
  obtain ⟨y, hy⟩ := Go.Deep.choose_lt each
  refine ⟨blk, off, fun i => (y i).1, fun i => (y i).2.1, fun i => (y i).2.2.1, fun i => (y i).2.2.2, fun _ => rfl, fun i hi => ?_, fun i hi => (hy i hi).2.2, fun i hi => (hy i hi).2.1⟩
  have h1 := (hx i (by omega)).1
  rw [(hy i hi).1] at h1
  have e : (⟨blk, off, none⟩ : Addr).add i = ⟨blk, off + i, none⟩ := by
    unfold Addr.add
    split
    · rename_i hj0; rw [hj0]; rfl
    · rfl
  rw [e] at h1
  exact h1
set_option maxRecDepth 100000 in
theorem lifted (os : Os) (started : os.Started) (H : Type) (enc : TypeId × Value → H) :
    ReturnsInHanded {} Try.checked os 4 .any (Rows.stillMapsSpec.pre6 enc Try.prog Try.f4 Rows.stillMapsRow.domain false) (Rows.stillMapsSpec.post enc Try.prog Try.f4 false true false false) := by
  refine returnsInHanded_of_change_sized (C := Try.checked) ownK started (by kernel_rfl) Try.func4
    (ChangeSpec.witness6 (enc := enc) (C := Try.checked) false ⟨#[], #[.int .i64 0, .float .f64 0, .slice none 0 0], []⟩ 8 (by kernel_rfl) (by kernel_rfl) (by kernel_rfl) (by kernel_rfl)) ?_
  intro W base args ds gs before hval0 hW _ hsz0 _
  have hsz : (DataW.weightsEach Try.prog (Try.f4.params.toList ++ Rows.stillMapsSpec.plain.varTypes Try.prog) (ds ++ gs)).all (· ≤ reachBytes) = true := hsz0
  clear hsz0
  have hval : ∀ (j : Nat) t v, Try.f4.params[j]? = some t → args[j]? = some v → Value.okWide Try.prog W .any base t v := hval0
  have hW' := hW
  obtain ⟨p, q, hA0, hV, rfl, _, _⟩ := hW
  have hA : DataW.TrodAll enc Try.prog W 0 (fun _ => true) true Try.f4.params.toList args.toList ds p := hA0
  rw [Try.params4] at hA hval hsz
  obtain ⟨v0, vs0, d0, ds0, p0, q0, hargs, rfl, rfl, h0, r0⟩ := trodAll_cons hA
  obtain ⟨v1, vs1, d1, ds1, p1, q1, rfl, rfl, rfl, h1, r1⟩ := trodAll_cons r0
  obtain ⟨v2, vs2, d2, ds2, p2, q2, rfl, rfl, rfl, h2, r2⟩ := trodAll_cons r1
  obtain ⟨rfl, rfl, rfl⟩ := trodAll_nil r2
  obtain rfl : args = #[v0, v1, v2] := by cases args; simp_all
  obtain ⟨rfl, rfl⟩ := trodVars_none hV
  obtain ⟨n, rfl, rfl, rfl, w0⟩ := open_int Try.underlying3 (hval 0 3 v0 rfl rfl) h0
  obtain ⟨s, rfl, rfl, rfl, w1⟩ := open_float Try.underlying26 (hval 1 26 v1 rfl rfl) h1
  obtain ⟨a2, len, cap, rfl⟩ := okWide_slice Try.underlying27 (hval 2 27 v2 rfl rfl)
  have h2k := h2
  obtain ⟨fuel, hf⟩ := h2
  clear hA0 hval0
  simp only [List.append_nil, List.nil_append] at hW'
  have hlt : ∀ x ∈ p2, x.block < W.heap.size := fun x hx => hW'.lt x (by simpa using hx)
  have fin : ∀ e W', YS W e W' → ∃ v, e = Ending.returned v ∧ Rows.stillMapsSpec.post enc Try.checked.prog Try.f4 false true false false W #[.int .i64 n, .float .f64 s, .slice a2 len cap] v W' := by
    intro e W' ⟨he, hu⟩
    subst he
    have hn : RowKit.Below W.heap.size W W' := hu.out
    refine ⟨_, rfl, _, _, _, [], p2, [], hW', ?_, ?_, rfl, hn.frame _, fun h => by cases h⟩
    · exact trodAll_cons_mk (shut_bool Try.underlying4 _) trodAll_mk0
    · have ht := Below.trod laidOut (by kernel_rfl) (of_decide_eq_true (by kernel_rfl)) h2k hn hlt
      have h3 := trodAll_cons_mk (shut_int Try.underlying3 w0) (trodAll_cons_mk (shut_float Try.underlying26 w1) (trodAll_cons_mk ht trodAll_mk0))
      simp only [List.append_nil, List.nil_append] at h3
      exact h3
  have hsz2 : (d2.weights Try.prog 27).all (· ≤ reachBytes) = true := by
    rw [List.all_eq_true] at hsz ⊢
    intro k hk
    exact hsz k (DataW.weights_mem_each (j := 2) (t := 27) (d := d2) rfl rfl k hk)
  rcases open_rows hf hsz2 with hcs | ⟨a, len', cap', hcs, hle, R, ro, P, Ln, Cp, f, hp, hG⟩
  · simp [Value.cells] at hcs
    obtain ⟨rfl, rfl, rfl⟩ := hcs
    exact (t4 (R := 0) (ro := 0) (P := fun _ => none) (Ln := fun _ => 0) (Cp := fun _ => 0) (f := fun _ _ => 0) ⟨fun i hi => by omega, fun i hi => by omega, fun i hi => by omega⟩ (fun h => by omega) (by omega)).mono fun e W' h => fin e W' h
  · simp [Value.cells] at hcs
    obtain ⟨rfl, rfl, rfl⟩ := hcs
    exact (t4 hG (fun h => by rw [hp h]) hle).mono fun e W' h => fin e W' h

theorem over : Rows.stillMapsRow.holds Try.pinned (OpenSpec.ofChange Rows.stillMapsSpec) :=
  OpenClaim.holds_of_wide 4 Try.f4 rfl rfl rfl rfl rfl rfl rfl ⟨rfl, rfl, rfl, rfl, rfl⟩ rfl rfl rfl rfl rfl (by kernel_rfl) Try.func4 (by kernel_rfl)
    (of_decide_eq_true (by kernel_rfl)) (by unfold Func.isWrapper; first | (rw [if_pos (by decide +kernel)]; kernel_rfl) | (rw [if_neg (by decide +kernel)]; exact ⟨rfl, rfl⟩))
    (fun os started H enc _ => lifted os started H enc)
end stillMaps

theorem stillMaps_holds : Rows.StillMapsSaid := stillMaps.over
#print axioms stillMaps_holds
end Go.Proofs.Ytgalgnopjcpocaa
