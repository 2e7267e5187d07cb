/- Plots that are handed in, opened. -/
import Derived.Test.YtijfmaepoamkgaaXa
import Derived.Test.YtijfmaepoamkgaaZi
import Derived.ProofKit
import Derived.OpenShut
import Derived.SizedLaws
import Derived.Carry
import Derived.Deep.Slices
import Derived.Deep.Grids
import Derived.ChangeSlices
namespace Go.Proofs.Ytijfmaepoamkgaa
open Go.ChangeShapes Go.WideShapes Go.ChangeAt Go.RowKit Go.Fl

set_option maxRecDepth 20000 in
theorem cells28 : Try.prog.cellsOf 28 = 5 := by kernel_rfl
theorem trod_plot {H : Type} {enc : TypeId × Value → H} {W : World} {base fuel : Nat} {spare : Nat → Bool} {held : Bool} {cs : List Value} {x : DataW H × List MemPlace} (hl : cs.length = 5) (h : DataW.trod enc Try.prog W base spare held fuel 28 cs = some x) : ∃ s : Plt, cs = pL s ∧ s.Fit := by
  obtain ⟨c0, c1, c2, c3, c4, rfl⟩ := five_list hl
  obtain ⟨xs, n, _, _, _, hlen, hall⟩ := DataW.trod_struct Try.underlying28 h
  obtain ⟨y0, y1, y2, y3, y4, rfl⟩ := five_list (by simpa using hlen)
  have e0 : DataW.trod enc Try.prog W base spare held n 22 [c0] = some y0 := by simpa [cells22] using hall 0 _ rfl
  have e1 : DataW.trod enc Try.prog W base spare held n 22 [c1] = some y1 := by simpa [cells22] using hall 1 _ rfl
  have e2 : DataW.trod enc Try.prog W base spare held n 22 [c2] = some y2 := by simpa [cells22] using hall 2 _ rfl
  have e3 : DataW.trod enc Try.prog W base spare held n 22 [c3] = some y3 := by simpa [cells22] using hall 3 _ rfl
  have e4 : DataW.trod enc Try.prog W base spare held n 22 [c4] = some y4 := by simpa [cells22] using hall 4 _ rfl
  obtain ⟨x0, k0, w0⟩ := trod_float Try.underlying22 e0
  obtain ⟨x1, k1, w1⟩ := trod_float Try.underlying22 e1
  obtain ⟨x2, k2, w2⟩ := trod_float Try.underlying22 e2
  obtain ⟨x3, k3, w3⟩ := trod_float Try.underlying22 e3
  obtain ⟨x4, k4, w4⟩ := trod_float Try.underlying22 e4
  simp only [List.cons.injEq, and_true] at k0 k1 k2 k3 k4
  subst k0 k1 k2 k3 k4
  exact ⟨⟨x0, x1, x2, x3, x4⟩, rfl, ⟨float_wf w0, float_wf w1, float_wf w2, float_wf w3, float_wf w4⟩⟩
theorem plots_cells {H : Type} {enc : TypeId × Value → H} {w : World} {base fuel : Nat} {held : Bool} {cs : List Value} {x : DataW H × List MemPlace} (h : DataW.trod enc Try.prog w base (fun _ => true) held fuel 44 cs = some x) :
    ∃ (p : Option Addr) (n cap : Nat) (P : Nat → Plt), cs = [.slice p n cap] ∧ n ≤ cap ∧ (n ≤ 1000000 → PV w p n cap P) := by
  rcases Go.Deep.open_slice Try.underlying44 h with ⟨h0, _⟩ | ⟨a, len, cap, m, n, D, Pl, rfl, hb, hl, hm, hmm, rfl, hx⟩
  · exact ⟨none, 0, 0, fun _ => Plt.zero, h0, by omega, fun _ => ⟨by omega, by omega, fun i hi => by omega, fun h => by omega⟩⟩
  rw [cells28] at hx
  have inh : Inhabited Plt := ⟨Plt.zero⟩
  simp only [if_true] at hmm
  subst hmm
  obtain ⟨B, hB⟩ := Go.Deep.choose_lt (α := Plt) (p := fun i s => (∀ j, j < 5 → w.cell? ((a.add (i * 5)).add j) = (pL s)[j]?) ∧ s.Fit) (fun i hi => by
    obtain ⟨cs', h1, h2⟩ := hx i hi
    obtain ⟨_, k1, k2⟩ := World.cells?_some h1
    obtain ⟨s, rfl, h3⟩ := trod_plot k1 h2
    exact ⟨s, k2, h3⟩)
  refine ⟨some a, len, m, B, rfl, hl, fun few => ⟨hl, few, fun i hi => (hB i (by omega)).2, fun hp => ?_⟩⟩
  have h0 := (hB 0 (by omega)).1 0 (by omega)
  obtain ⟨blk, off, spot⟩ := a
  have hs : spot = none := by
    rw [Go.Deep.add_add] at h0
    simp only [Addr.add, if_true, Nat.zero_mul, Nat.add_zero] at h0
    unfold World.cell? at h0
    split at h0
    · cases spot with
      | none => rfl
      | some s => simp [pL] at h0
    · simp [pL] at h0
  subst hs
  refine ⟨blk, off, rfl, fun i hi => ?_⟩
  have e : ∀ j, (⟨blk, off, none⟩ : Addr).add j = ⟨blk, off + j, none⟩ := fun j => by
    unfold Addr.add
    split
    · rename_i hj0; rw [hj0]; rfl
    · rfl
  have hc := (hB i (by omega)).1
  have c0 := hc 0 (by omega)
  have c1 := hc 1 (by omega)
  have c2 := hc 2 (by omega)
  have c3 := hc 3 (by omega)
  have c4 := hc 4 (by omega)
  rw [Go.Deep.add_add, e] at c0 c1 c2 c3 c4
  simp only [pL, List.getElem?_cons_zero, List.getElem?_cons_succ] at c0 c1 c2 c3 c4
  exact ⟨c0, by rw [Nat.add_assoc]; exact c1, by rw [Nat.add_assoc]; exact c2, by rw [Nat.add_assoc]; exact c3, by rw [Nat.add_assoc]; exact c4⟩
set_option maxRecDepth 20000 in
theorem open_plots {H : Type} {enc : TypeId × Value → H} {W : World} {base : Nat} {v : Value} {d : DataW H} {ps : List MemPlace} (hv : Value.okWide Try.prog W .any base 44 v) (h : DataW.Trod enc Try.prog W 0 (fun _ => true) true 44 v d ps) :
    ∃ (p : Option Addr) (n cap : Nat) (P : Nat → Plt), v = .slice p n cap ∧ (n ≤ cap ∧ (n ≤ 1000000 → PV W p n cap P)) := by
  obtain ⟨a, len, cap, rfl⟩ := okWide_slice Try.underlying44 hv
  obtain ⟨fuel, hf⟩ := h
  obtain ⟨p, n, c, P, hcs, hC⟩ := plots_cells hf
  simp [Value.cells] at hcs
  obtain ⟨rfl, rfl, rfl⟩ := hcs
  exact ⟨_, _, _, P, rfl, hC⟩
end Go.Proofs.Ytijfmaepoamkgaa
