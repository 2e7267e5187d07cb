/- A map that is handed in, opened, where what comes in is small. -/
import Derived.Test.YtephkmahnbhmbaaXs
import Derived.Test.YtephkmahnbhmbaaPd
import Derived.JoinedCond
namespace Go.Proofs.Ytephkmahnbhmbaa
open Go.ChangeShapes Go.WideShapes Go.ChangeAt Go.RowKit Go.Fl Go.Sort
set_option maxRecDepth 20000

theorem bulk_part {H : Type} {d : DataW H} {l : List (DataW H)} (h : d ∈ l) : Rows.uptoBulk d ≤ Rows.uptoBulkAll l := by
  induction l with
  | nil => cases h
  | cons x r ih =>
    simp only [Rows.uptoBulkAll]
    cases List.mem_cons.1 h with
    | inl e => subst e; omega
    | inr e => have := ih e; omega
theorem bulk_one {H : Type} (d : DataW H) : 1 ≤ Rows.uptoBulk d := by
  cases d with
  | lit l => cases l <;> simp [Rows.uptoBulk]
  | nil => simp [Rows.uptoBulk]
  | ptr d => simp [Rows.uptoBulk]
  | slice elems spare => simp [Rows.uptoBulk]
  | agg parts => simp [Rows.uptoBulk]
  | iface t d => simp [Rows.uptoBulk]
  | map entries => simp [Rows.uptoBulk]
  | held h => simp [Rows.uptoBulk]
theorem bulk_len {H : Type} (l : List (DataW H)) : l.length ≤ Rows.uptoBulkAll l := by
  induction l with
  | nil => simp [Rows.uptoBulkAll]
  | cons x r ih => have := bulk_one x; simp only [Rows.uptoBulkAll, List.length_cons]; omega
theorem bulk_elems {H : Type} (elems spare : List (DataW H)) : Rows.uptoBulkAll elems + 1 ≤ Rows.uptoBulk (.slice elems spare) := by
  simp only [Rows.uptoBulk]
  omega
theorem trod_float1 {H : Type} {enc : TypeId × Value → H} {w : World} {base fuel : Nat} {spare : Nat → Bool} {held : Bool} {v : Value} {x : DataW H × List MemPlace} (h : DataW.trod enc Try.prog w base spare held fuel 24 [v] = some x) : ∃ b, v = .float .f64 b ∧ b < 2 ^ 64 := by
  obtain ⟨b, e, hw⟩ := trod_float Try.underlying24 h
  simp only [List.cons.injEq, and_true] at e
  exact ⟨b, e, float_wf hw⟩
/-- A LIST OF FLOATS, OPENED. -/
theorem open_floats {H : Type} {enc : TypeId × Value → H} {w : World} {base fuel : Nat} {held : Bool} {cs : List Value} {x : DataW H × List MemPlace} (h : DataW.trod enc Try.prog w base (fun _ => true) held fuel 23 cs = some x) :
    (cs = [.slice none 0 0] ∧ x = (.nil, [])) ∨ ∃ (a : Addr) (len cap : Nat) (es rs : List (DataW H)) (d : Array Nat), cs = [.slice (some a) len cap] ∧ len ≤ cap ∧ x.1 = .slice es rs ∧ es.length = len ∧ d.size = len ∧ Fit d ∧ (0 < len → ∃ blk off, a = ⟨blk, off, none⟩ ∧ Reads w blk off d) := by
  rcases Go.Deep.open_slice1 Try.underlying23 cells24 h with h0 | ⟨a, len, cap, m, n, V, D, Pl, rfl, hb, hl, hm, hmm, rfl, hx⟩
  · exact Or.inl h0
  right
  simp only [if_true] at hmm
  subst hmm
  obtain ⟨B, hB⟩ := Go.Deep.choose_lt (α := Nat) (p := fun i b => V i = .float .f64 b ∧ b < 2 ^ 64) (fun i hi => trod_float1 (hx i hi).2)
  refine ⟨a, len, m, _, _, ((List.range len).map B).toArray, rfl, hl, rfl, by simp, by simp, ?_, fun hp => ?_⟩
  · intro i hi
    have hi' : i < len := by simpa using hi
    rw [getElem!_pos _ i hi]
    simpa using (hB i (by omega)).2
  · have h0 := (hx 0 (by omega)).1
    obtain ⟨blk, off, spot⟩ := a
    have hs : spot = none := by
      simp only [Addr.add, if_true] at h0
      unfold World.cell? at h0
      split at h0
      · cases spot with
        | none => rfl
        | some s => simp at h0
      · simp at h0
    subst hs
    refine ⟨blk, off, rfl, fun j hj => ?_⟩
    have hj' : j < len := by simpa using hj
    have h1 := (hx j (by omega)).1
    rw [(hB j (by omega)).1] at h1
    rw [getElem!_pos _ j hj]
    have e : (⟨blk, off, none⟩ : Addr).add j = ⟨blk, off + j, none⟩ := by
      unfold Addr.add
      split
      · rename_i hj0; rw [hj0]; rfl
      · rfl
    rw [e] at h1
    rw [h1]
    simp
theorem cells23 : Try.prog.cellsOf 23 = 1 := by kernel_rfl
/-- Rows of floats, opened, where all is small. -/
theorem open_mvb {H : Type} {enc : TypeId × Value → H} {w : World} {base : Nat} {held : Bool} {v : Value} {x : DataW H} {p : List MemPlace} {r : Reach} {b0 : Nat} (hv : Value.okWide Try.prog w r b0 22 v) (h : DataW.Trod enc Try.prog w base (fun _ => true) held 22 v x p) (hb : Rows.uptoBulk x ≤ 1048576) :
    ∃ q n cap D, v = .slice q n cap ∧ MV w q n cap D ∧ n ≤ 1048576 ∧ ∀ i, i < n → (D i).size ≤ 1048576 := by
  obtain ⟨a0, len0, cap0, rfl⟩ := okWide_slice Try.underlying22 hv
  obtain ⟨fuel, hf⟩ := h
  rcases Go.Deep.open_slice1 Try.underlying22 cells23 hf with ⟨h0, _⟩ | ⟨a, len, cap, m, n, V, D, Pl, hcs, hb1, hl, hm, hmm, hxe, hx⟩
  · simp [Value.cells] at h0
    obtain ⟨rfl, rfl, rfl⟩ := h0
    exact ⟨none, 0, 0, fun _ => #[], rfl, ⟨by omega, fun h => by omega, fun i hi => by omega, by omega⟩, by omega, fun i hi => by omega⟩
  simp [Value.cells] at hcs
  obtain ⟨rfl, rfl, rfl⟩ := hcs
  simp only [if_true] at hmm
  subst hmm
  have hxd : x = .slice ((List.range len0).map D) ((List.range (m - len0)).map fun j => D (len0 + j)) := congrArg Prod.fst hxe
  subst hxd
  have hbe := bulk_elems ((List.range len0).map D) ((List.range (m - len0)).map fun j => D (len0 + j))
  have hlen : len0 ≤ 1048576 := by
    have := bulk_len ((List.range len0).map D)
    simp at this
    omega
  rcases Nat.eq_zero_or_pos len0 with h00 | hp
  · subst h00
    exact ⟨some a, 0, m, fun _ => #[], rfl, ⟨by omega, fun h => by omega, fun i hi => by omega, by omega⟩, by omega, fun i hi => by omega⟩
  have h0 := (hx 0 (by omega)).1
  obtain ⟨blk, off, spot⟩ := a
  have hs : spot = none := by
    simp only [Addr.add, if_true] at h0
    unfold World.cell? at h0
    split at h0
    · cases spot with
      | none => rfl
      | some s => simp at h0
    · simp at h0
  subst hs
  have each : ∀ i, i < len0 → ∃ y : Option Addr × Nat × Array Nat, V i = .slice y.1 y.2.2.size y.2.1 ∧ y.2.2.size ≤ 1048576 ∧ SV w y.1 y.2.2.size y.2.1 y.2.2 := by
    intro i hi
    rcases open_floats (hx i (by omega)).2 with ⟨hcs, hy⟩ | ⟨a', len', cap', es, rs, d', hcs, hl', hy, hel, hd', hF, hr⟩
    · exact ⟨(none, 0, #[]), by simpa using hcs, by simp, ⟨rfl, by simp, fun i hi => by simp at hi, fun h => by simp at h⟩⟩
    · subst hd'
      refine ⟨(some a', cap', d'), by simpa using hcs, ?_, ⟨rfl, hl', hF, fun hp => ?_⟩⟩
      · have hmem : D i ∈ (List.range len0).map D := List.mem_map.2 ⟨i, List.mem_range.2 hi, rfl⟩
        have e1 : D i = .slice es rs := hy
        have h1 := bulk_part hmem
        rw [e1] at h1
        have h2 := bulk_elems es rs
        have h3 := bulk_len es
        simp only
        omega
      · obtain ⟨b', o', e1, r1⟩ := hr hp
        exact ⟨b', o', by rw [e1], r1⟩
  obtain ⟨y, hy⟩ := Go.Deep.choose_lt each
  refine ⟨some ⟨blk, off, none⟩, len0, m, fun i => (y i).2.2, rfl, ⟨hl, fun _ => ⟨blk, off, rfl, fun i hi => ⟨(y i).1, (y i).2.1, ?_, (hy i hi).2.2⟩⟩, fun i hi => by have := (hy i hi).2.1; omega, by omega⟩, hlen, fun i hi => (hy i hi).2.1⟩
  have h1 := (hx i (by omega)).1
  rw [(hy i hi).1] at h1
  have e : (⟨blk, off, none⟩ : Addr).add i = ⟨blk, off + i, none⟩ := by
    unfold Addr.add
    split
    · rename_i hj0; rw [hj0]; rfl
    · rfl
  rw [e] at h1
  exact h1
end Go.Proofs.Ytephkmahnbhmbaa
