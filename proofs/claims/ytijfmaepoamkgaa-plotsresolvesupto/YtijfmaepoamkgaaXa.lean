/- What is handed in, opened: beats, middles. -/
import Derived.Test.YtijfmaepoamkgaaTa
import Derived.ProofKit
import Derived.OpenShut
import Derived.SizedLaws
import Derived.Carry
import Derived.Deep.Slices
import Derived.Deep.Grids
import Derived.ChangeSlices
import Derived.Test.YtijfmaepoamkgaaZl
import Derived.Test.YtijfmaepoamkgaaRows
import Derived.JoinedCond
namespace Go.Proofs.Ytijfmaepoamkgaa
open Go.ChangeShapes Go.WideShapes Go.ChangeAt Go.RowKit Go.Fl

theorem ownK : ownKnob Try.prog.godebug = none := by kernel_rfl
set_option maxRecDepth 100000 in
theorem laidOut : laidOutB Try.prog = true := by kernel_rfl
set_option maxRecDepth 20000 in
theorem cells24 : Try.prog.cellsOf 24 = 5 := by kernel_rfl
set_option maxRecDepth 20000 in
theorem cells22 : Try.prog.cellsOf 22 = 1 := by kernel_rfl
set_option maxRecDepth 20000 in
theorem cells3 : Try.prog.cellsOf 3 = 1 := by kernel_rfl
theorem five {α : Type} {cs : Array α} (h : cs.size = 5) : ∃ a b c d e, cs = #[a, b, c, d, e] := by
  obtain ⟨l⟩ := cs
  match l, h with
  | [a, b, c, d, e], _ => exact ⟨a, b, c, d, e, rfl⟩
theorem five_list {α : Type} {l : List α} (h : l.length = 5) : ∃ a b c d e, l = [a, b, c, d, e] := by
  match l, h with
  | [a, b, c, d, e], _ => exact ⟨a, b, c, d, e, rfl⟩
theorem trod_float {H : Type} {enc : TypeId × Value → H} {P : Program} {w : World} {base : Nat} {spare : Nat → Bool} {held : Bool} {fuel : Nat} {t : TypeId} {cs : List Value} {x : DataW H × List MemPlace} {k : FloatKind} (ht : P.underlying t = some (.float k)) (h : DataW.trod enc P w base spare held fuel t cs = some x) : ∃ n, cs = [.float k n] ∧ (Lit.float k n).wf = true := by
  cases fuel with
  | zero => simp [DataW.trod] at h
  | succ n =>
    unfold DataW.trod at h
    rw [ht] at h
    split at h <;> simp_all
theorem int_wf {n : Int} (h : (Lit.int .i64 n).wf = true) : -9223372036854775808 ≤ n ∧ n ≤ 9223372036854775807 := by
  have h2 : (decide ((-9223372036854775808 : Int) ≤ n) && decide (n ≤ 9223372036854775807)) = true := h
  simpa using h2
theorem float_wf {b : Nat} (h : (Lit.float .f64 b).wf = true) : b < 2 ^ 64 := by
  have h2 : decide (b < 2 ^ 64) = true := h
  simpa using h2
set_option maxRecDepth 20000 in
theorem open_beat {H : Type} {enc : TypeId × Value → H} {W : World} {base : Nat} {spare : Nat → Bool} {held : Bool} {v : Value} {d : DataW H} {p : List MemPlace} {r : Reach} {b0 : Nat} (hv : Value.okWide Try.prog W r b0 24 v) (h : DataW.Trod enc Try.prog W base spare held 24 v d p) :
    ∃ (c l q : Nat) (E R : Int), v = .agg #[.float .f64 c, .float .f64 l, .float .f64 q, .int .i64 E, .int .i64 R] ∧ c < 2 ^ 64 ∧ l < 2 ^ 64 ∧ q < 2 ^ 64 ∧ (-9223372036854775808 ≤ E ∧ E ≤ 9223372036854775807) ∧ (-9223372036854775808 ≤ R ∧ R ≤ 9223372036854775807) := by
  obtain ⟨cs, rfl, hsz⟩ := okWide_struct Try.underlying24 hv
  obtain ⟨c0, c1, c2, c3, c4, rfl⟩ := five (hsz.trans cells24)
  obtain ⟨fuel, hf⟩ := h
  obtain ⟨xs, n, _, _, _, hlen, hall⟩ := DataW.trod_struct Try.underlying24 hf
  obtain ⟨y0, y1, y2, y3, y4, rfl⟩ := five_list (by simpa using hlen)
  have e0 : DataW.trod enc Try.prog W base spare held n 22 [c0] = some y0 := by simpa [Value.cells, cells22] using hall 0 _ rfl
  have e1 : DataW.trod enc Try.prog W base spare held n 22 [c1] = some y1 := by simpa [Value.cells, cells22] using hall 1 _ rfl
  have e2 : DataW.trod enc Try.prog W base spare held n 22 [c2] = some y2 := by simpa [Value.cells, cells22] using hall 2 _ rfl
  have e3 : DataW.trod enc Try.prog W base spare held n 3 [c3] = some y3 := by simpa [Value.cells, cells3] using hall 3 _ rfl
  have e4 : DataW.trod enc Try.prog W base spare held n 3 [c4] = some y4 := by simpa [Value.cells, cells3] using hall 4 _ rfl
  obtain ⟨x0, k0, w0⟩ := trod_float Try.underlying22 e0
  obtain ⟨x1, k1, w1⟩ := trod_float Try.underlying22 e1
  obtain ⟨x2, k2, w2⟩ := trod_float Try.underlying22 e2
  obtain ⟨x3, k3, _, w3⟩ := DataW.trod_int Try.underlying3 e3
  obtain ⟨x4, k4, _, w4⟩ := DataW.trod_int Try.underlying3 e4
  simp only [List.cons.injEq, and_true] at k0 k1 k2 k3 k4
  subst k0 k1 k2 k3 k4
  exact ⟨x0, x1, x2, x3, x4, rfl, float_wf w0, float_wf w1, float_wf w2, int_wf w3, int_wf w4⟩
set_option maxRecDepth 20000 in
theorem cells26 : Try.prog.cellsOf 26 = 4 := by kernel_rfl
theorem four {α : Type} {cs : Array α} (h : cs.size = 4) : ∃ a b c d, cs = #[a, b, c, d] := by
  obtain ⟨l⟩ := cs
  match l, h with
  | [a, b, c, d], _ => exact ⟨a, b, c, d, rfl⟩
theorem four_list {α : Type} {l : List α} (h : l.length = 4) : ∃ a b c d, l = [a, b, c, d] := by
  match l, h with
  | [a, b, c, d], _ => exact ⟨a, b, c, d, rfl⟩
set_option maxRecDepth 20000 in
theorem open_centre {H : Type} {enc : TypeId × Value → H} {W : World} {base : Nat} {spare : Nat → Bool} {held : Bool} {v : Value} {d : DataW H} {p : List MemPlace} {r : Reach} {b0 : Nat} (hv : Value.okWide Try.prog W r b0 26 v) (h : DataW.Trod enc Try.prog W base spare held 26 v d p) :
    ∃ (b g q : Nat) (S : Int), v = .agg #[.float .f64 b, .float .f64 g, .float .f64 q, .int .i64 S] := by
  obtain ⟨cs, rfl, hsz⟩ := okWide_struct Try.underlying26 hv
  obtain ⟨c0, c1, c2, c3, rfl⟩ := four (hsz.trans cells26)
  obtain ⟨fuel, hf⟩ := h
  obtain ⟨xs, n, _, _, _, hlen, hall⟩ := DataW.trod_struct Try.underlying26 hf
  obtain ⟨y0, y1, y2, y3, rfl⟩ := four_list (by simpa using hlen)
  have e0 : DataW.trod enc Try.prog W base spare held n 22 [c0] = some y0 := by simpa [Value.cells, cells22] using hall 0 _ rfl
  have e1 : DataW.trod enc Try.prog W base spare held n 22 [c1] = some y1 := by simpa [Value.cells, cells22] using hall 1 _ rfl
  have e2 : DataW.trod enc Try.prog W base spare held n 22 [c2] = some y2 := by simpa [Value.cells, cells22] using hall 2 _ rfl
  have e3 : DataW.trod enc Try.prog W base spare held n 3 [c3] = some y3 := by simpa [Value.cells, cells3] using hall 3 _ rfl
  obtain ⟨x0, k0, _⟩ := trod_float Try.underlying22 e0
  obtain ⟨x1, k1, _⟩ := trod_float Try.underlying22 e1
  obtain ⟨x2, k2, _⟩ := trod_float Try.underlying22 e2
  obtain ⟨x3, k3, _⟩ := DataW.trod_int Try.underlying3 e3
  simp only [List.cons.injEq, and_true] at k0 k1 k2 k3
  subst k0 k1 k2 k3
  exact ⟨x0, x1, x2, x3, rfl⟩
end Go.Proofs.Ytijfmaepoamkgaa
/- Lists of whole numbers that are handed in, and lists of them, opened. -/
namespace Go.Proofs.Ytijfmaepoamkgaa
open Go.ChangeShapes Go.WideShapes Go.ChangeAt Go.RowKit Go.Fl

set_option maxRecDepth 20000 in
theorem cells2 : Try.prog.cellsOf 2 = 1 := by kernel_rfl
set_option maxRecDepth 20000 in
theorem cells39 : Try.prog.cellsOf 39 = 1 := by kernel_rfl
theorem spot_of {w : World} {blk off : Nat} {spot : Option Nat} {x : Int} (h : w.cell? ⟨blk, off, spot⟩ = some (.int .i64 x)) : spot = none := by
  unfold World.cell? at h
  split at h
  · cases spot with
    | none => rfl
    | some s => simp at h
  · simp at h
theorem ir_of {w : World} {a : Addr} {len : Nat} {zs : List Int} (hl : len ≤ zs.length) (hc : ∀ i, i < zs.length → w.cell? (a.add i) = some (.int .i64 (zs.getD i 0))) : Fo.IR w (some a) (zs.take len).length (fun i => (zs.take len)[i]!) := by
  have el : (zs.take len).length = len := by simp; omega
  intro i hi
  rw [el] at hi
  have h0 := hc 0 (by omega)
  have hi' := hc i (by omega)
  obtain ⟨blk, off, spot⟩ := a
  have hs : spot = none := by
    simp only [Addr.add, if_true] at h0
    exact spot_of h0
  subst hs
  refine ⟨blk, off, rfl, ?_⟩
  have e : (⟨blk, off, none⟩ : Addr).add i = ⟨blk, off + i, none⟩ := by
    unfold Addr.add
    split
    · rename_i hj0; rw [hj0]; rfl
    · rfl
  rw [e] at hi'
  rw [hi']
  show _ = some (Value.int .i64 (zs.take len)[i]!)
  rw [getElem!_pos _ i (by rw [el]; exact hi), List.getElem_take]
  simp [List.getD, List.getElem?_eq_getElem (show i < zs.length by omega)]
set_option maxRecDepth 20000 in
/-- Its numbers, its cells; nil is empty. -/
theorem list_cells {H : Type} {enc : TypeId × Value → H} {W : World} {base fuel : Nat} {held : Bool} {c : Value} {x : DataW H × List MemPlace} (hf : DataW.trod enc Try.prog W base (fun _ => true) held fuel 39 [c] = some x) :
    ∃ (o : List Int) (p : Option Addr) (cap : Nat), c = .slice p o.length cap ∧ Fo.IR W p o.length (fun i => o[i]!) ∧ (p = none → o.length = 0 ∧ cap = 0) := by
  rcases open_ints Try.underlying39 Try.underlying2 cells2 hf with ⟨hcs, _⟩ | ⟨a, len, cap, zs, hcs, hb, hl, hm, hz, hx, hcell, hwf⟩
  · simp only [List.cons.injEq, and_true] at hcs
    subst hcs
    exact ⟨[], none, 0, rfl, fun i hi => absurd hi (by simp), fun _ => ⟨rfl, rfl⟩⟩
  · simp only [List.cons.injEq, and_true] at hcs
    subst hcs
    simp only [if_true] at hz
    have el : (zs.take len).length = len := by simp; omega
    exact ⟨zs.take len, some a, cap, by rw [el], ir_of (by omega) hcell, fun h => by cases h⟩
set_option maxRecDepth 20000 in
theorem open_list {H : Type} {enc : TypeId × Value → H} {W : World} {base : Nat} {v : Value} {d : DataW H} {ps : List MemPlace} (hv : Value.okWide Try.prog W .any base 39 v) (h : DataW.Trod enc Try.prog W 0 (fun _ => true) true 39 v d ps) :
    ∃ (o : List Int) (p : Option Addr) (cap : Nat), v = .slice p o.length cap ∧ Fo.IR W p o.length (fun i => o[i]!) ∧ (p = none → o.length = 0 ∧ cap = 0) := by
  obtain ⟨a, len, cap, rfl⟩ := okWide_slice Try.underlying39 hv
  obtain ⟨fuel, hf⟩ := h
  exact list_cells hf
theorem spotV {w : World} {blk off : Nat} {spot : Option Nat} {x : Value} (h : w.cell? ⟨blk, off, spot⟩ = some x) : spot = none := by
  unfold World.cell? at h
  split at h
  · cases spot with
    | none => rfl
    | some s => simp at h
  · simp at h
theorem add_at (blk off j : Nat) : (⟨blk, off, none⟩ : Addr).add j = ⟨blk, off + j, none⟩ := by
  unfold Addr.add
  split
  · rename_i hj0; rw [hj0]; rfl
  · rfl
set_option maxRecDepth 20000 in
/-- Lists of lists. -/
theorem rows_cells {H : Type} {enc : TypeId × Value → H} {w : World} {base fuel : Nat} {held : Bool} {cs : List Value} {x : DataW H × List MemPlace} (h : DataW.trod enc Try.prog w base (fun _ => true) held fuel 36 cs = some x) :
    ∃ (p : Option Addr) (len cap : Nat) (C : Nat → List Int), cs = [.slice p len cap] ∧ CV w p len C ∧ len ≤ cap := by
  rcases Go.Deep.open_slice1 Try.underlying36 cells39 h with ⟨h0, _⟩ | ⟨a, len, cap, m, n, V, D, Pl, rfl, hb, hl, hm, hmm, rfl, hx⟩
  · exact ⟨none, 0, 0, fun _ => [], h0, fun i hi => by omega, by omega⟩
  simp only [if_true] at hmm
  subst hmm
  rcases Nat.eq_zero_or_pos len with rfl | hp
  · exact ⟨some a, 0, m, fun _ => [], rfl, fun i hi => by omega, by omega⟩
  have h0 := (hx 0 (by omega)).1
  obtain ⟨blk, off, spot⟩ := a
  have hs : spot = none := by
    simp only [Addr.add, if_true] at h0
    exact spotV h0
  subst hs
  have each : ∀ i, i < len → ∃ y : List Int × Option Addr × Nat, V i = .slice y.2.1 y.1.length y.2.2 ∧ Fo.IR w y.2.1 y.1.length (fun j => y.1[j]!) := by
    intro i hi
    obtain ⟨o, p, cap', hcs, hf, _⟩ := list_cells (hx i (by omega)).2
    exact ⟨(o, p, cap'), hcs, hf⟩
  obtain ⟨y, hy⟩ := Go.Deep.choose_lt each
  refine ⟨_, len, m, fun i => (y i).1, rfl, fun i hi => ⟨blk, off, (y i).2.1, (y i).2.2, rfl, ?_, (hy i hi).2⟩, hl⟩
  have h1 := (hx i (by omega)).1
  rw [(hy i hi).1, add_at] at h1
  exact h1
set_option maxRecDepth 20000 in
theorem open_rows {H : Type} {enc : TypeId × Value → H} {W : World} {base : Nat} {v : Value} {d : DataW H} {ps : List MemPlace} (hv : Value.okWide Try.prog W .any base 36 v) (h : DataW.Trod enc Try.prog W 0 (fun _ => true) true 36 v d ps) :
    ∃ (p : Option Addr) (n cap : Nat) (C : Nat → List Int), v = .slice p n cap ∧ CV W p n C := by
  obtain ⟨a, len, cap, rfl⟩ := okWide_slice Try.underlying36 hv
  obtain ⟨fuel, hf⟩ := h
  obtain ⟨p, n, c, C, hcs, hC, _⟩ := rows_cells hf
  simp [Value.cells] at hcs
  obtain ⟨rfl, rfl, rfl⟩ := hcs
  exact ⟨_, _, _, C, rfl, hC⟩
end Go.Proofs.Ytijfmaepoamkgaa
/- What Resolve is asked, handed in, opened, where what comes in is small. -/
namespace Go.Proofs.Ytijfmaepoamkgaa
open Go.ChangeShapes Go.WideShapes Go.ChangeAt Go.RowKit Go.Fl
set_option maxRecDepth 20000

theorem bulk_part {H : Type} {d : DataW H} {l : List (DataW H)} (h : d ∈ l) : Rows.uptoBulk d ≤ Rows.uptoBulkAll l := by
  induction l with
  | nil => cases h
  | cons x r ih =>
    simp only [Rows.uptoBulkAll]
    cases List.mem_cons.1 h with
    | inl e => subst e; omega
    | inr e => have := ih e; omega
theorem bulk_one {H : Type} (d : DataW H) : 1 ≤ Rows.uptoBulk d := by
  cases d with
  | lit l => cases l <;> simp [Rows.uptoBulk]
  | nil => simp [Rows.uptoBulk]
  | ptr d => simp [Rows.uptoBulk]
  | slice elems spare => simp [Rows.uptoBulk]
  | agg parts => simp [Rows.uptoBulk]
  | iface t d => simp [Rows.uptoBulk]
  | map entries => simp [Rows.uptoBulk]
  | held h => simp [Rows.uptoBulk]
theorem bulk_len {H : Type} (l : List (DataW H)) : l.length ≤ Rows.uptoBulkAll l := by
  induction l with
  | nil => simp [Rows.uptoBulkAll]
  | cons x r ih => have := bulk_one x; simp only [Rows.uptoBulkAll, List.length_cons]; omega
theorem bulk_elems {H : Type} (elems spare : List (DataW H)) : Rows.uptoBulkAll elems + 1 ≤ Rows.uptoBulk (.slice elems spare) := by
  simp only [Rows.uptoBulk]
  omega
theorem list_few {H : Type} {enc : TypeId × Value → H} {W : World} {base fuel : Nat} {held : Bool} {c : Value} {x : DataW H × List MemPlace} (hf : DataW.trod enc Try.prog W base (fun _ => true) held fuel 39 [c] = some x) :
    ∃ (o : List Int) (p : Option Addr) (cap : Nat), c = .slice p o.length cap ∧ Fo.IR W p o.length (fun i => o[i]!) ∧ o.length ≤ Rows.uptoBulk x.1 := by
  rcases open_ints Try.underlying39 Try.underlying2 cells2 hf with ⟨hcs, _⟩ | ⟨a, len, cap, zs, hcs, hb, hl, hm, hz, hx, hcell, hwf⟩
  · simp only [List.cons.injEq, and_true] at hcs
    subst hcs
    exact ⟨[], none, 0, rfl, fun i hi => absurd hi (by simp), by simp⟩
  · simp only [List.cons.injEq, and_true] at hcs
    subst hcs
    simp only [if_true] at hz
    have el : (zs.take len).length = len := by simp; omega
    refine ⟨zs.take len, some a, cap, by rw [el], ir_of (by omega) hcell, ?_⟩
    rw [hx]
    have h1 := bulk_elems (H := H) (lits .i64 (zs.take len)) (lits .i64 (zs.drop len))
    have h2 := bulk_len (H := H) (lits .i64 (zs.take len))
    have h3 : (lits (H := H) .i64 (zs.take len)).length = (zs.take len).length := by unfold lits; simp
    show (zs.take len).length ≤ Rows.uptoBulk (.slice (lits .i64 (zs.take len)) (lits .i64 (zs.drop len)))
    omega
theorem rows_few {H : Type} {enc : TypeId × Value → H} {w : World} {base fuel : Nat} {held : Bool} {cs : List Value} {x : DataW H × List MemPlace} (h : DataW.trod enc Try.prog w base (fun _ => true) held fuel 36 cs = some x) :
    ∃ (p : Option Addr) (len cap : Nat) (C : Nat → List Int), cs = [.slice p len cap] ∧ CV w p len C ∧ len ≤ cap ∧ ∀ i, i < len → (C i).length ≤ Rows.uptoBulk x.1 := by
  rcases Go.Deep.open_slice1 Try.underlying36 cells39 h with ⟨h0, _⟩ | ⟨a, len, cap, m, n, V, D, Pl, rfl, hb, hl, hm, hmm, rfl, hx⟩
  · exact ⟨none, 0, 0, fun _ => [], h0, fun i hi => by omega, by omega, fun i hi => by omega⟩
  simp only [if_true] at hmm
  subst hmm
  rcases Nat.eq_zero_or_pos len with rfl | hp
  · exact ⟨some a, 0, m, fun _ => [], rfl, fun i hi => by omega, by omega, fun i hi => by omega⟩
  have h0 := (hx 0 (by omega)).1
  obtain ⟨blk, off, spot⟩ := a
  have hs : spot = none := by
    simp only [Addr.add, if_true] at h0
    exact spotV h0
  subst hs
  have each : ∀ i, i < len → ∃ y : List Int × Option Addr × Nat, V i = .slice y.2.1 y.1.length y.2.2 ∧ Fo.IR w y.2.1 y.1.length (fun j => y.1[j]!) ∧ y.1.length ≤ Rows.uptoBulk (D i) := by
    intro i hi
    obtain ⟨o, p, cap', hcs, hf, hk⟩ := list_few (hx i (by omega)).2
    exact ⟨(o, p, cap'), hcs, hf, hk⟩
  obtain ⟨y, hy⟩ := Go.Deep.choose_lt each
  refine ⟨_, len, m, fun i => (y i).1, rfl, fun i hi => ⟨blk, off, (y i).2.1, (y i).2.2, rfl, ?_, (hy i hi).2.1⟩, hl, fun i hi => ?_⟩
  · have h1 := (hx i (by omega)).1
    rw [(hy i hi).1, add_at] at h1
    exact h1
  · have h1 := bulk_part (d := D i) (l := (List.range len).map D) (List.mem_map.2 ⟨i, List.mem_range.2 hi, rfl⟩)
    have h2 := bulk_elems ((List.range len).map D) ((List.range (m - len)).map fun j => D (len + j))
    have h3 := (hy i hi).2.2
    show (y i).1.length ≤ Rows.uptoBulk (.slice ((List.range len).map D) ((List.range (m - len)).map fun j => D (len + j)))
    omega
theorem trod_beat {H : Type} {enc : TypeId × Value → H} {W : World} {base fuel : Nat} {spare : Nat → Bool} {held : Bool} {cs : List Value} {x : DataW H × List MemPlace} (hl : cs.length = 5) (h : DataW.trod enc Try.prog W base spare held fuel 24 cs = some x) : ∃ s : Bt, cs = bL s := by
  obtain ⟨c0, c1, c2, c3, c4, rfl⟩ := five_list hl
  obtain ⟨xs, n, _, _, _, hlen, hall⟩ := DataW.trod_struct Try.underlying24 h
  obtain ⟨y0, y1, y2, y3, y4, rfl⟩ := five_list (by simpa using hlen)
  have e0 : DataW.trod enc Try.prog W base spare held n 22 [c0] = some y0 := by simpa [cells22] using hall 0 _ rfl
  have e1 : DataW.trod enc Try.prog W base spare held n 22 [c1] = some y1 := by simpa [cells22] using hall 1 _ rfl
  have e2 : DataW.trod enc Try.prog W base spare held n 22 [c2] = some y2 := by simpa [cells22] using hall 2 _ rfl
  have e3 : DataW.trod enc Try.prog W base spare held n 3 [c3] = some y3 := by simpa [cells3] using hall 3 _ rfl
  have e4 : DataW.trod enc Try.prog W base spare held n 3 [c4] = some y4 := by simpa [cells3] using hall 4 _ rfl
  obtain ⟨x0, k0, _⟩ := trod_float Try.underlying22 e0
  obtain ⟨x1, k1, _⟩ := trod_float Try.underlying22 e1
  obtain ⟨x2, k2, _⟩ := trod_float Try.underlying22 e2
  obtain ⟨x3, k3, _, _⟩ := DataW.trod_int Try.underlying3 e3
  obtain ⟨x4, k4, _, _⟩ := DataW.trod_int Try.underlying3 e4
  simp only [List.cons.injEq, and_true] at k0 k1 k2 k3 k4
  subst k0 k1 k2 k3 k4
  exact ⟨⟨x0, x1, x2, x3, x4⟩, rfl⟩
theorem beats_cells {H : Type} {enc : TypeId × Value → H} {w : World} {base fuel : Nat} {held : Bool} {cs : List Value} {x : DataW H × List MemPlace} (h : DataW.trod enc Try.prog w base (fun _ => true) held fuel 35 cs = some x) :
    ∃ (p : Option Addr) (n cap : Nat) (B : Nat → Bt), cs = [.slice p n cap] ∧ n ≤ cap ∧ BV w p n B := by
  rcases Go.Deep.open_slice Try.underlying35 h with ⟨h0, _⟩ | ⟨a, len, cap, m, n, D, Pl, rfl, hb, hl, hm, hmm, rfl, hx⟩
  · exact ⟨none, 0, 0, fun _ => markB, h0, by omega, fun i hi => by omega⟩
  rw [cells24] at hx
  have inh : Inhabited Bt := ⟨markB⟩
  simp only [if_true] at hmm
  subst hmm
  obtain ⟨B, hB⟩ := Go.Deep.choose_lt (α := Bt) (p := fun i s => ∀ j, j < 5 → w.cell? ((a.add (i * 5)).add j) = (bL s)[j]?) (fun i hi => by
    obtain ⟨cs', h1, h2⟩ := hx i hi
    obtain ⟨_, k1, k2⟩ := World.cells?_some h1
    obtain ⟨s, rfl⟩ := trod_beat k1 h2
    exact ⟨s, k2⟩)
  refine ⟨some a, len, m, B, rfl, hl, fun i hi => ?_⟩
  have h0 := (hB 0 (by omega)) 0 (by omega)
  obtain ⟨blk, off, spot⟩ := a
  have hs : spot = none := by
    rw [Go.Deep.add_add] at h0
    simp only [Addr.add, if_true, Nat.zero_mul, Nat.add_zero] at h0
    exact spotV (x := .float .f64 (B 0).c) h0
  subst hs
  refine ⟨blk, off, rfl, ?_⟩
  have hc := hB i (by omega)
  have c0 := hc 0 (by omega)
  have c1 := hc 1 (by omega)
  have c2 := hc 2 (by omega)
  have c3 := hc 3 (by omega)
  have c4 := hc 4 (by omega)
  rw [Go.Deep.add_add, add_at] at c0 c1 c2 c3 c4
  simp only [bL, List.getElem?_cons_zero, List.getElem?_cons_succ] at c0 c1 c2 c3 c4
  exact ⟨c0, by rw [Nat.add_assoc]; exact c1, by rw [Nat.add_assoc]; exact c2, by rw [Nat.add_assoc]; exact c3, by rw [Nat.add_assoc]; exact c4⟩
theorem cells38 : Try.prog.cellsOf 38 = 4 := by kernel_rfl
theorem cells35 : Try.prog.cellsOf 35 = 1 := by kernel_rfl
theorem cells36 : Try.prog.cellsOf 36 = 1 := by kernel_rfl
theorem open_ask {H : Type} {enc : TypeId × Value → H} {W : World} {base : Nat} {held : Bool} {v : Value} {d : DataW H} {p : List MemPlace} {r : Reach} {b0 : Nat} (hv : Value.okWide Try.prog W r b0 38 v) (h : DataW.Trod enc Try.prog W base (fun _ => true) held 38 v d p) (hb : Rows.uptoBulk d ≤ 1048576) :
    ∃ (p : Option Addr) (n1 c1 : Nat) (B : Nat → Bt) (q : Option Addr) (n2 c2 : Nat) (C : Nat → List Int) (off most : Int), v = .agg #[.slice p n1 c1, .slice q n2 c2, .int .i64 off, .int .i64 most] ∧ BV W p n1 B ∧ CV W q n2 C ∧ n1 ≤ c1 ∧ n2 ≤ c2 ∧ (∀ i, i < n2 → (C i).length < 4611686018427387904) ∧ off ≤ 9223372036854775807 := by
  obtain ⟨cs, rfl, hsz⟩ := okWide_struct Try.underlying38 hv
  obtain ⟨s0, s1, s2, s3, rfl⟩ := four (hsz.trans cells38)
  obtain ⟨fuel, hf⟩ := h
  obtain ⟨xs, n, _, hxd, _, hlen, hall⟩ := DataW.trod_struct Try.underlying38 hf
  obtain ⟨y0, y1, y2, y3, rfl⟩ := four_list (by simpa using hlen)
  have e0 : DataW.trod enc Try.prog W base (fun _ => true) held n 35 [s0] = some y0 := by simpa [Value.cells, cells35] using hall 0 _ rfl
  have e1 : DataW.trod enc Try.prog W base (fun _ => true) held n 36 [s1] = some y1 := by simpa [Value.cells, cells36] using hall 1 _ rfl
  have e2 : DataW.trod enc Try.prog W base (fun _ => true) held n 2 [s2] = some y2 := by simpa [Value.cells, cells2] using hall 2 _ rfl
  have e3 : DataW.trod enc Try.prog W base (fun _ => true) held n 2 [s3] = some y3 := by simpa [Value.cells, cells2] using hall 3 _ rfl
  obtain ⟨p0, n1, c1, B, k0, l0, v0⟩ := beats_cells e0
  obtain ⟨p1, n2, c2, C, k1, v1, l1, f1⟩ := rows_few e1
  obtain ⟨x2, k2, _, w2⟩ := DataW.trod_int Try.underlying2 e2
  obtain ⟨x3, k3, _, w3⟩ := DataW.trod_int Try.underlying2 e3
  simp only [List.cons.injEq, and_true] at k0 k1 k2 k3
  subst k0 k1 k2 k3
  simp only [Prod.mk.injEq] at hxd
  have hd := hxd.1
  subst hd
  refine ⟨p0, n1, c1, B, p1, n2, c2, C, x2, x3, rfl, v0, v1, l0, l1, fun i hi => ?_, (int_wf w2).2⟩
  have h1 := f1 i hi
  simp only [List.map_cons, List.map_nil, Rows.uptoBulk, Rows.uptoBulkAll] at hb
  omega
end Go.Proofs.Ytijfmaepoamkgaa
