/- A map that is handed in, opened. -/
import Derived.Test.YtfggdaebahdnfaaXa
import Derived.Test.YtfggdaebahdnfaaKa
namespace Go.Proofs.Ytfggdaebahdnfaa
open Go.ChangeShapes Go.WideShapes Go.ChangeAt Go.RowKit Go.Fl Go.Sort

set_option maxRecDepth 20000 in
theorem cells22 : Try.prog.cellsOf 22 = 1 := by kernel_rfl
set_option maxRecDepth 20000 in
theorem bytes22 : Try.prog.bytesOf 22 = 24 := by kernel_rfl
theorem weights_in {H : Type} {P : Program} {e : TypeId} : ∀ {l : List (DataW H)} {d : DataW H}, d ∈ l → ∀ n ∈ d.weights P e, n ∈ DataW.weightsAll P e l
  | [], _, h, _, _ => by cases h
  | a :: r, d, h, n, hn => by
    simp only [DataW.weightsAll, List.mem_append]
    rcases List.mem_cons.1 h with rfl | h
    · exact Or.inl hn
    · exact Or.inr (weights_in h n hn)
/-- Rows of floats, opened. -/
theorem open_mv {H : Type} {enc : TypeId × Value → H} {w : World} {base : Nat} {held : Bool} {v : Value} {x : DataW H} {p : List MemPlace} {r : Reach} {b0 : Nat} (hv : Value.okWide Try.prog w r b0 39 v) (h : DataW.Trod enc Try.prog w base (fun _ => true) held 39 v x p) (hsz : (x.weights Try.prog 39).all (· ≤ reachBytes) = true) :
    ∃ q n cap D, v = .slice q n cap ∧ MV w q n cap D ∧ n ≤ 17592186044416 := by
  obtain ⟨a0, len0, cap0, rfl⟩ := okWide_slice Try.underlying39 hv
  obtain ⟨fuel, hf⟩ := h
  rcases Go.Deep.open_slice1 Try.underlying39 cells22 hf with ⟨h0, _⟩ | ⟨a, len, cap, m, n, V, D, Pl, hcs, hb, hl, hm, hmm, hxe, hx⟩
  · simp [Value.cells] at h0
    obtain ⟨rfl, rfl, rfl⟩ := h0
    exact ⟨none, 0, 0, fun _ => #[], rfl, ⟨by omega, fun h => by omega, fun i hi => by omega⟩, by omega⟩
  simp [Value.cells] at hcs
  obtain ⟨rfl, rfl, rfl⟩ := hcs
  simp only [if_true] at hmm
  subst hmm
  have hxd : x = .slice ((List.range len0).map D) ((List.range (m - len0)).map fun j => D (len0 + j)) := congrArg Prod.fst hxe
  subst hxd
  have hall : ∀ k ∈ DataW.weights Try.prog 39 (.slice ((List.range len0).map D) ((List.range (m - len0)).map fun j => D (len0 + j))), k ≤ reachBytes := fun k hk => by
    have := List.all_eq_true.1 hsz k hk
    simpa using this
  simp only [DataW.weights, Try.underlying39] at hall
  have hlen : len0 ≤ 17592186044416 := by
    have := hall _ (List.mem_cons_self ..)
    rw [bytes22] at this
    unfold reachBytes at this
    simp at this
    omega
  rcases Nat.eq_zero_or_pos len0 with h00 | hp
  · subst h00
    exact ⟨some a, 0, m, fun _ => #[], rfl, ⟨by omega, fun h => by omega, fun i hi => by omega⟩, by omega⟩
  have h0 := (hx 0 (by omega)).1
  obtain ⟨blk, off, spot⟩ := a
  have hs : spot = none := by
    simp only [Addr.add, if_true] at h0
    unfold World.cell? at h0
    split at h0
    · cases spot with
      | none => rfl
      | some s => simp at h0
    · simp at h0
  subst hs
  have each : ∀ i, i < len0 → ∃ y : Option Addr × Nat × Array Nat, V i = .slice y.1 y.2.2.size y.2.1 ∧ y.2.2.size ≤ 17592186044416 ∧ SV w y.1 y.2.2.size y.2.1 y.2.2 := by
    intro i hi
    rcases open_floats (hx i (by omega)).2 with ⟨hcs, hy⟩ | ⟨a', len', cap', es, rs, d', hcs, hl', hy, hel, hd', hF, hr⟩
    · exact ⟨(none, 0, #[]), by simpa using hcs, by simp, ⟨rfl, by simp, fun i hi => by simp at hi, fun h => by simp at h⟩⟩
    · subst hd'
      refine ⟨(some a', cap', d'), by simpa using hcs, ?_, ⟨rfl, hl', hF, fun hp => ?_⟩⟩
      · have hmem : D i ∈ (List.range len0).map D := List.mem_map.2 ⟨i, List.mem_range.2 hi, rfl⟩
        have hk : (es.length + rs.length) * Try.prog.bytesOf 24 ∈ (D i).weights Try.prog 22 := by
          have e1 : D i = .slice es rs := hy
          rw [e1]
          simp [DataW.weights, Try.underlying22]
        have := hall _ (List.mem_cons_of_mem _ (List.mem_append.2 (Or.inl (weights_in hmem _ hk))))
        rw [bytes24] at this
        unfold reachBytes at this
        simp only
        omega
      · obtain ⟨b', o', e1, r1⟩ := hr hp
        exact ⟨b', o', by rw [e1], r1⟩
  obtain ⟨y, hy⟩ := Go.Deep.choose_lt each
  refine ⟨some ⟨blk, off, none⟩, len0, m, fun i => (y i).2.2, rfl, ⟨hl, fun _ => ⟨blk, off, rfl, fun i hi => ⟨(y i).1, (y i).2.1, ?_, (hy i hi).2.2⟩⟩, fun i hi => by have := (hy i hi).2.1; omega⟩, hlen⟩
  have h1 := (hx i (by omega)).1
  rw [(hy i hi).1] at h1
  have e : (⟨blk, off, none⟩ : Addr).add i = ⟨blk, off + i, none⟩ := by
    unfold Addr.add
    split
    · rename_i hj0; rw [hj0]; rfl
    · rfl
  rw [e] at h1
  exact h1
end Go.Proofs.Ytfggdaebahdnfaa
