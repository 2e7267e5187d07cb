/- lookoutlaw15.PeaksHighest returns true for every map of floats whose rows and numbers are together at most 1048576: Highest answers what the document does, twice, in memory of its own, and leaves the map and the room behind its rows as they were; and the argument stays. The condition: what comes in is of bulk at most 1048576 (the '..Said' form is false by size). -/
import Derived.Test.YtephkmahnbhmbaaZc
import Derived.Test.YtephkmahnbhmbaaXs
namespace Go.Proofs.Ytephkmahnbhmbaa
open Go.ChangeShapes Go.WideShapes Go.ChangeAt Go.RowKit Go.Fl Go.Sort

theorem bulk_many {H : Type} {m : Nat} : ∀ {l : List (DataW H)}, (∀ d ∈ l, m ≤ Rows.uptoBulk d) → l.length * m ≤ Rows.uptoBulkAll l
  | [], _ => by simp [Rows.uptoBulkAll]
  | d :: r, h => by
    have h1 := h d (List.mem_cons_self ..)
    have h2 := bulk_many (l := r) (fun x hx => h x (List.mem_cons_of_mem _ hx))
    simp only [Rows.uptoBulkAll, List.length_cons, Nat.add_mul, Nat.one_mul]
    omega
set_option maxRecDepth 20000 in
/-- Rows of floats, opened, where all is small. -/
theorem open_mvh {H : Type} {enc : TypeId × Value → H} {w : World} {base : Nat} {held : Bool} {v : Value} {x : DataW H} {p : List MemPlace} {r : Reach} {b0 : Nat} (hv : Value.okWide Try.prog w r b0 22 v) (h : DataW.Trod enc Try.prog w base (fun _ => true) held 22 v x p) (hb : Rows.uptoBulk x ≤ 1048576) :
    ∃ q n cap D, v = .slice q n cap ∧ MV w q n cap D ∧ n ≤ 1048576 ∧ (∀ i, i < n → (D i).size ≤ 1048576) ∧ n * shortF D n ≤ 1048576 := by
  obtain ⟨a0, len0, cap0, rfl⟩ := okWide_slice Try.underlying22 hv
  obtain ⟨fuel, hf⟩ := h
  rcases Go.Deep.open_slice1 Try.underlying22 cells23 hf with ⟨h0, _⟩ | ⟨a, len, cap, m, n, V, D, Pl, hcs, hb1, hl, hm, hmm, hxe, hx⟩
  · simp [Value.cells] at h0
    obtain ⟨rfl, rfl, rfl⟩ := h0
    exact ⟨none, 0, 0, fun _ => #[], rfl, ⟨by omega, fun h => by omega, fun i hi => by omega, by omega⟩, by omega, fun i hi => by omega, by simp⟩
  simp [Value.cells] at hcs
  obtain ⟨rfl, rfl, rfl⟩ := hcs
  simp only [if_true] at hmm
  subst hmm
  have hxd : x = .slice ((List.range len0).map D) ((List.range (m - len0)).map fun j => D (len0 + j)) := congrArg Prod.fst hxe
  subst hxd
  have hbe := bulk_elems ((List.range len0).map D) ((List.range (m - len0)).map fun j => D (len0 + j))
  have hlen : len0 ≤ 1048576 := by
    have := bulk_len ((List.range len0).map D)
    simp at this
    omega
  rcases Nat.eq_zero_or_pos len0 with h00 | hp
  · subst h00
    exact ⟨some a, 0, m, fun _ => #[], rfl, ⟨by omega, fun h => by omega, fun i hi => by omega, by omega⟩, by omega, fun i hi => by omega, by simp⟩
  have h0 := (hx 0 (by omega)).1
  obtain ⟨blk, off, spot⟩ := a
  have hs : spot = none := by
    simp only [Addr.add, if_true] at h0
    unfold World.cell? at h0
    split at h0
    · cases spot with
      | none => rfl
      | some s => simp at h0
    · simp at h0
  subst hs
  have each : ∀ i, i < len0 → ∃ y : Option Addr × Nat × Array Nat, V i = .slice y.1 y.2.2.size y.2.1 ∧ (y.2.2.size ≤ 1048576 ∧ y.2.2.size ≤ Rows.uptoBulk (D i)) ∧ SV w y.1 y.2.2.size y.2.1 y.2.2 := by
    intro i hi
    rcases open_floats (hx i (by omega)).2 with ⟨hcs, hy⟩ | ⟨a', len', cap', es, rs, d', hcs, hl', hy, hel, hd', hF, hr⟩
    · exact ⟨(none, 0, #[]), by simpa using hcs, ⟨by simp, by simp⟩, ⟨rfl, by simp, fun i hi => by simp at hi, fun h => by simp at h⟩⟩
    · subst hd'
      refine ⟨(some a', cap', d'), by simpa using hcs, ?_, ⟨rfl, hl', hF, fun hp => ?_⟩⟩
      · have hmem : D i ∈ (List.range len0).map D := List.mem_map.2 ⟨i, List.mem_range.2 hi, rfl⟩
        have e1 : D i = .slice es rs := hy
        have h1 := bulk_part hmem
        rw [e1] at h1
        have h2 := bulk_elems es rs
        have h3 := bulk_len es
        have h4 := bulk_part hmem
        refine ⟨by simp only; omega, by rw [e1]; simp only; omega⟩
      · obtain ⟨b', o', e1, r1⟩ := hr hp
        exact ⟨b', o', by rw [e1], r1⟩
  obtain ⟨y, hy⟩ := Go.Deep.choose_lt each
  refine ⟨some ⟨blk, off, none⟩, len0, m, fun i => (y i).2.2, rfl, ⟨hl, fun _ => ⟨blk, off, rfl, fun i hi => ⟨(y i).1, (y i).2.1, ?_, (hy i hi).2.2⟩⟩, fun i hi => by have := (hy i hi).2.1.1; omega, by omega⟩, hlen, fun i hi => (hy i hi).2.1.1, ?_⟩
  rotate_left
  · have h1 := bulk_many (m := shortF (fun i => (y i).2.2) len0) (l := (List.range len0).map D) (fun d hd => by
      obtain ⟨j, hj, rfl⟩ := List.mem_map.1 hd
      have hj := List.mem_range.1 hj
      exact Nat.le_trans (short_le (D := fun i => (y i).2.2) hj) (hy j hj).2.1.2)
    simp at h1
    omega
  have h1 := (hx i (by omega)).1
  rw [(hy i hi).1] at h1
  have e : (⟨blk, off, none⟩ : Addr).add i = ⟨blk, off + i, none⟩ := by
    unfold Addr.add
    split
    · rename_i hj0; rw [hj0]; rfl
    · rfl
  rw [e] at h1
  exact h1
namespace peaksHighest
open Go.ChangeShapes Go.WideShapes Go.ChangeAt Go.RowKit Go.Fl

set_option maxRecDepth 100000 in
theorem contract (H : Type) (enc : TypeId × Value → H) (W : World) (base : Nat) (args : Array Value) (ds gs : List (DataW H)) (before : List MemPlace)
    (hval : ∀ (j : Nat) t v, Try.f3.params[j]? = some t → args[j]? = some v → Value.okWide Try.prog W .any base t v)
    (hW : DataW.Whole enc Try.prog Try.f3.params.toList Rows.peaksHighestSpec.vars false W args.toList ds gs before) (hk : Rows.uptoSmall H (ds ++ gs) = true) :
    Calls Try.prog 3 args W fun e W' => ∃ v, e = .returned v ∧ Rows.peaksHighestSpec.post enc Try.prog Try.f3 false true false false W args v W' := by
  have hW' := hW
  obtain ⟨p, q, hA0, hV, rfl, _, _⟩ := hW
  have hA : DataW.TrodAll enc Try.prog W 0 (fun _ => true) true Try.f3.params.toList args.toList ds p := hA0
  rw [Try.params3] at hA hval
  obtain ⟨v0, vs0, d0, ds0, p0, q0, hargs, rfl, rfl, h0, r0⟩ := trodAll_cons hA
  obtain ⟨rfl, rfl, rfl⟩ := trodAll_nil r0
  obtain rfl : args = #[v0] := by cases args; simp_all
  obtain ⟨rfl, rfl⟩ := trodVars_none hV
  clear hA0
  simp only [List.append_nil] at hW' hk
  have hb : Rows.uptoBulk d0 ≤ 1048576 := by
    have h : Rows.uptoBulkAll [d0] ≤ 1048576 := of_decide_eq_true hk
    simp only [Rows.uptoBulkAll] at h
    omega
  have hlt0 : ∀ x ∈ p0, x.block < W.heap.size := fun x hx => hW'.lt x (by simp [hx])
  obtain ⟨b0, n0, c0, D0, rfl, s0, m0, k0, z0⟩ := open_mvh (hval 0 22 v0 rfl rfl) h0 hb
  have hF : ∀ i, i < n0 → Fit (D0 i) := fun i hi => by
    obtain ⟨b, o, _, r⟩ := s0.rd (by omega)
    obtain ⟨_, _, _, k⟩ := r i hi
    exact k.fit
  refine (t3h s0 m0 k0 hF (by omega)).mono fun e W' ⟨he, hu⟩ => ?_
  subst he
  have hn : RowKit.Below W.heap.size W W' := hu.out
  refine ⟨_, rfl, _, _, _, [], p0, [], hW', ?_, ?_, rfl, hn.frame _, fun h => by cases h⟩
  · exact trodAll_cons_mk (shut_bool Try.underlying4 _) trodAll_mk0
  · have h3 := trodAll_cons_mk (Below.trod laidOut (by kernel_rfl) (of_decide_eq_true (by kernel_rfl)) h0 hn hlt0) trodAll_mk0
    simp only [List.append_nil] at h3
    exact h3

set_option maxRecDepth 100000 in
theorem lifted (os : Os) (started : os.Started) (H : Type) (enc : TypeId × Value → H) (F : Stop.Interp) :
    ReturnsInHanded {} Try.checked os 3 .any ((Rows.OpenSpec.upto Rows.peaksHighestSpec).pre6 enc Try.prog Try.f3 Rows.peaksHighestUptoRow.domain false) (((Rows.OpenSpec.upto Rows.peaksHighestSpec).at F).post enc Try.prog Try.f3 false true false false) := by
  refine returnsInHanded_of_cond (C := Try.checked) (s := Rows.OpenSpec.upto Rows.peaksHighestSpec) (k := Rows.uptoSmall) rfl ownK started (by kernel_rfl) Try.func3
    (OpenSpec.witness (enc := enc) (C := Try.checked) (s := Rows.OpenSpec.upto Rows.peaksHighestSpec) (k := Rows.uptoSmall) rfl false ⟨#[], #[.slice none 0 0], []⟩ 8 (by kernel_rfl) (by kernel_rfl) (by kernel_rfl)
      (x := ([.nil], [], [])) (by kernel_rfl) rfl (by kernel_rfl)) ?_
  intro W base args ds gs before hval hW _ hk _
  exact contract H enc W base args ds gs before hval hW hk

theorem over : Rows.PeaksHighestUptoSaid :=
  OpenClaim.holds_of_cond 3 Try.f3 rfl rfl rfl rfl rfl rfl rfl ⟨rfl, rfl, rfl, rfl, rfl⟩ rfl rfl rfl rfl rfl (by kernel_rfl) Try.func3 (by kernel_rfl)
    (of_decide_eq_true (by kernel_rfl)) (by unfold Func.isWrapper; first | (rw [if_pos (by decide +kernel)]; kernel_rfl) | (rw [if_neg (by decide +kernel)]; exact ⟨rfl, rfl⟩))
    (fun os started H enc _ F => lifted os started H enc F)
end peaksHighest

theorem peaksHighest_holds : Rows.PeaksHighestUptoSaid := peaksHighest.over
#print axioms peaksHighest_holds
end Go.Proofs.Ytephkmahnbhmbaa
