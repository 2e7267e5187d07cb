/- A list of floats, a look that are handed in, opened. -/
import Derived.Test.YtcgbmcnefolgcaaCa
import Derived.ProofKit
import Derived.OpenShut
import Derived.SizedLaws
import Derived.Carry
import Derived.Deep.Slices
import Derived.Deep.Grids
import Derived.ChangeSlices
namespace Go.Proofs.Ytcgbmcnefolgcaa
open Go.ChangeShapes Go.WideShapes Go.ChangeAt Go.RowKit Go.Fl Go.Sort

theorem ownK : ownKnob Try.prog.godebug = none := by kernel_rfl
set_option maxRecDepth 100000 in
theorem laidOut : laidOutB Try.prog = true := by kernel_rfl
theorem cells24 : Try.prog.cellsOf 24 = 1 := by kernel_rfl
theorem bytes24 : Try.prog.bytesOf 24 = 8 := by kernel_rfl
theorem cells3 : Try.prog.cellsOf 3 = 1 := by kernel_rfl
theorem trod_float1 {H : Type} {enc : TypeId × Value → H} {w : World} {base fuel : Nat} {spare : Nat → Bool} {held : Bool} {v : Value} {x : DataW H × List MemPlace} (h : DataW.trod enc Try.prog w base spare held fuel 24 [v] = some x) : ∃ b, v = .float .f64 b ∧ b < 2 ^ 64 := by
  cases fuel with
  | zero => simp [DataW.trod] at h
  | succ n =>
    simp only [DataW.trod, Try.underlying24] at h
    cases v <;> try (simp at h; done)
    rename_i k b
    by_cases hw : k = .f64 ∧ (Lit.float k b).wf = true
    · obtain ⟨rfl, hw⟩ := hw
      refine ⟨b, rfl, ?_⟩
      simpa [Lit.wf] using hw
    · exfalso
      simp_all
/-- A LIST OF FLOATS, OPENED. -/
theorem open_floats {H : Type} {enc : TypeId × Value → H} {w : World} {base fuel : Nat} {held : Bool} {cs : List Value} {x : DataW H × List MemPlace} (h : DataW.trod enc Try.prog w base (fun _ => true) held fuel 23 cs = some x) :
    (cs = [.slice none 0 0] ∧ x = (.nil, [])) ∨ ∃ (a : Addr) (len cap : Nat) (es rs : List (DataW H)) (d : Array Nat), cs = [.slice (some a) len cap] ∧ len ≤ cap ∧ x.1 = .slice es rs ∧ es.length = len ∧ d.size = len ∧ Fit d ∧ (0 < len → ∃ blk off, a = ⟨blk, off, none⟩ ∧ Reads w blk off d) := by
  rcases Go.Deep.open_slice1 Try.underlying23 cells24 h with h0 | ⟨a, len, cap, m, n, V, D, Pl, rfl, hb, hl, hm, hmm, rfl, hx⟩
  · exact Or.inl h0
  right
  simp only [if_true] at hmm
  subst hmm
  obtain ⟨B, hB⟩ := Go.Deep.choose_lt (α := Nat) (p := fun i b => V i = .float .f64 b ∧ b < 2 ^ 64) (fun i hi => trod_float1 (hx i hi).2)
  refine ⟨a, len, m, _, _, ((List.range len).map B).toArray, rfl, hl, rfl, by simp, by simp, ?_, fun hp => ?_⟩
  · intro i hi
    have hi' : i < len := by simpa using hi
    rw [getElem!_pos _ i hi]
    simpa using (hB i (by omega)).2
  · have h0 := (hx 0 (by omega)).1
    obtain ⟨blk, off, spot⟩ := a
    have hs : spot = none := by
      simp only [Addr.add, if_true] at h0
      unfold World.cell? at h0
      split at h0
      · cases spot with
        | none => rfl
        | some s => simp at h0
      · simp at h0
    subst hs
    refine ⟨blk, off, rfl, fun j hj => ?_⟩
    have hj' : j < len := by simpa using hj
    have h1 := (hx j (by omega)).1
    rw [(hB j (by omega)).1] at h1
    rw [getElem!_pos _ j hj]
    have e : (⟨blk, off, none⟩ : Addr).add j = ⟨blk, off + j, none⟩ := by
      unfold Addr.add
      split
      · rename_i hj0; rw [hj0]; rfl
      · rfl
    rw [e] at h1
    rw [h1]
    simp
/-- A list of floats that is handed in. -/
theorem open_sv {H : Type} {enc : TypeId × Value → H} {W : World} {base : Nat} {held : Bool} {v : Value} {d : DataW H} {p : List MemPlace} {r : Reach} {b0 : Nat} (hv : Value.okWide Try.prog W r b0 23 v) (h : DataW.Trod enc Try.prog W base (fun _ => true) held 23 v d p) :
    ∃ q n cap D, v = .slice q n cap ∧ SV W q n cap D ∧ ((d = .nil ∧ n = 0) ∨ ∃ es rs, d = .slice es rs ∧ es.length = n) := by
  obtain ⟨a0, len, cap, rfl⟩ := okWide_slice Try.underlying23 hv
  obtain ⟨fuel, hf⟩ := h
  rcases open_floats hf with ⟨hcs, hx⟩ | ⟨a, len', cap', es, rs, D, hcs, hl, hx, hel, hd, hF, hR⟩
  · simp [Value.cells] at hcs
    obtain ⟨rfl, rfl, rfl⟩ := hcs
    refine ⟨none, 0, 0, #[], rfl, ⟨rfl, by omega, fun i hi => by simp at hi, fun h => by omega⟩, Or.inl ⟨?_, rfl⟩⟩
    exact congrArg Prod.fst hx
  · simp [Value.cells] at hcs
    obtain ⟨rfl, rfl, rfl⟩ := hcs
    refine ⟨some a, len, cap, D, rfl, ⟨hd, hl, hF, fun hp => ?_⟩, Or.inr ⟨es, rs, hx, hel⟩⟩
    obtain ⟨b, o, e, r⟩ := hR hp
    exact ⟨b, o, by rw [e], r⟩
theorem five {α : Type} {cs : Array α} (h : cs.size = 5) : ∃ a b c d e, cs = #[a, b, c, d, e] := by
  obtain ⟨l⟩ := cs
  match l, h with
  | [a, b, c, d, e], _ => exact ⟨a, b, c, d, e, rfl⟩
theorem five_list {α : Type} {l : List α} (h : l.length = 5) : ∃ a b c d e, l = [a, b, c, d, e] := by
  match l, h with
  | [a, b, c, d, e], _ => exact ⟨a, b, c, d, e, rfl⟩
theorem trod_float {H : Type} {enc : TypeId × Value → H} {P : Program} {w : World} {base : Nat} {spare : Nat → Bool} {held : Bool} {fuel : Nat} {t : TypeId} {cs : List Value} {x : DataW H × List MemPlace} {k : FloatKind} (ht : P.underlying t = some (.float k)) (h : DataW.trod enc P w base spare held fuel t cs = some x) : ∃ n, cs = [.float k n] ∧ (Lit.float k n).wf = true := by
  cases fuel with
  | zero => simp [DataW.trod] at h
  | succ n =>
    unfold DataW.trod at h
    rw [ht] at h
    split at h <;> simp_all
theorem int_wf {n : Int} (h : (Lit.int .i64 n).wf = true) : -9223372036854775808 ≤ n ∧ n ≤ 9223372036854775807 := by
  have h2 : (decide ((-9223372036854775808 : Int) ≤ n) && decide (n ≤ 9223372036854775807)) = true := h
  simpa using h2
theorem float_wf {b : Nat} (h : (Lit.float .f64 b).wf = true) : b < 2 ^ 64 := by
  have h2 : decide (b < 2 ^ 64) = true := h
  simpa using h2
set_option maxRecDepth 20000 in
theorem cells27 : Try.prog.cellsOf 27 = 5 := by kernel_rfl
theorem trod_state {H : Type} {enc : TypeId × Value → H} {W : World} {base fuel : Nat} {spare : Nat → Bool} {held : Bool} {cs : List Value} {x : DataW H × List MemPlace} (hl : cs.length = 5) (h : DataW.trod enc Try.prog W base spare held fuel 27 cs = some x) : ∃ s : Stt, cs = sL s ∧ s.Fit := by
  obtain ⟨c0, c1, c2, c3, c4, rfl⟩ := five_list hl
  obtain ⟨xs, n, _, _, _, hlen, hall⟩ := DataW.trod_struct Try.underlying27 h
  obtain ⟨y0, y1, y2, y3, y4, rfl⟩ := five_list (by simpa using hlen)
  have e0 : DataW.trod enc Try.prog W base spare held n 24 [c0] = some y0 := by simpa [cells24] using hall 0 _ rfl
  have e1 : DataW.trod enc Try.prog W base spare held n 24 [c1] = some y1 := by simpa [cells24] using hall 1 _ rfl
  have e2 : DataW.trod enc Try.prog W base spare held n 24 [c2] = some y2 := by simpa [cells24] using hall 2 _ rfl
  have e3 : DataW.trod enc Try.prog W base spare held n 24 [c3] = some y3 := by simpa [cells24] using hall 3 _ rfl
  have e4 : DataW.trod enc Try.prog W base spare held n 24 [c4] = some y4 := by simpa [cells24] using hall 4 _ rfl
  obtain ⟨x0, k0, w0⟩ := trod_float Try.underlying24 e0
  obtain ⟨x1, k1, w1⟩ := trod_float Try.underlying24 e1
  obtain ⟨x2, k2, w2⟩ := trod_float Try.underlying24 e2
  obtain ⟨x3, k3, w3⟩ := trod_float Try.underlying24 e3
  obtain ⟨x4, k4, w4⟩ := trod_float Try.underlying24 e4
  simp only [List.cons.injEq, and_true] at k0 k1 k2 k3 k4
  subst k0 k1 k2 k3 k4
  exact ⟨⟨x0, x1, x2, x3, x4⟩, rfl, ⟨float_wf w0, float_wf w1, float_wf w2, float_wf w3, float_wf w4⟩⟩
theorem states_cells {H : Type} {enc : TypeId × Value → H} {w : World} {base fuel : Nat} {held : Bool} {cs : List Value} {x : DataW H × List MemPlace} (h : DataW.trod enc Try.prog w base (fun _ => true) held fuel 22 cs = some x) :
    ∃ (p : Option Addr) (n cap : Nat) (P : Nat → Stt), cs = [.slice p n cap] ∧ n ≤ cap ∧ (n ≤ 2000000 → SS w p n cap P) := by
  rcases Go.Deep.open_slice Try.underlying22 h with ⟨h0, _⟩ | ⟨a, len, cap, m, n, D, Pl, rfl, hb, hl, hm, hmm, rfl, hx⟩
  · exact ⟨none, 0, 0, fun _ => Stt.zero, h0, by omega, fun _ => ⟨by omega, by omega, fun h => by omega⟩⟩
  rw [cells27] at hx
  have inh : Inhabited Stt := ⟨Stt.zero⟩
  simp only [if_true] at hmm
  subst hmm
  obtain ⟨B, hB⟩ := Go.Deep.choose_lt (α := Stt) (p := fun i s => (∀ j, j < 5 → w.cell? ((a.add (i * 5)).add j) = (sL s)[j]?) ∧ s.Fit) (fun i hi => by
    obtain ⟨cs', h1, h2⟩ := hx i hi
    obtain ⟨_, k1, k2⟩ := World.cells?_some h1
    obtain ⟨s, rfl, h3⟩ := trod_state k1 h2
    exact ⟨s, k2, h3⟩)
  refine ⟨some a, len, m, B, rfl, hl, fun few => ⟨hl, few, fun hp => ?_⟩⟩
  have h0 := (hB 0 (by omega)).1 0 (by omega)
  obtain ⟨blk, off, spot⟩ := a
  have hs : spot = none := by
    rw [Go.Deep.add_add] at h0
    simp only [Addr.add, if_true, Nat.zero_mul, Nat.add_zero] at h0
    unfold World.cell? at h0
    split at h0
    · cases spot with
      | none => rfl
      | some s => simp [sL] at h0
    · simp [sL] at h0
  subst hs
  refine ⟨blk, off, rfl, fun i hi => ?_⟩
  have e : ∀ j, (⟨blk, off, none⟩ : Addr).add j = ⟨blk, off + j, none⟩ := fun j => by
    unfold Addr.add
    split
    · rename_i hj0; rw [hj0]; rfl
    · rfl
  have hc := (hB i (by omega)).1
  have c0 := hc 0 (by omega)
  have c1 := hc 1 (by omega)
  have c2 := hc 2 (by omega)
  have c3 := hc 3 (by omega)
  have c4 := hc 4 (by omega)
  rw [Go.Deep.add_add, e] at c0 c1 c2 c3 c4
  simp only [sL, List.getElem?_cons_zero, List.getElem?_cons_succ] at c0 c1 c2 c3 c4
  exact ⟨c0, by rw [Nat.add_assoc]; exact c1, by rw [Nat.add_assoc]; exact c2, by rw [Nat.add_assoc]; exact c3, by rw [Nat.add_assoc]; exact c4⟩
set_option maxRecDepth 20000 in
theorem open_states {H : Type} {enc : TypeId × Value → H} {W : World} {base : Nat} {v : Value} {d : DataW H} {ps : List MemPlace} (hv : Value.okWide Try.prog W .any base 22 v) (h : DataW.Trod enc Try.prog W 0 (fun _ => true) true 22 v d ps) :
    ∃ (p : Option Addr) (n cap : Nat) (P : Nat → Stt), v = .slice p n cap ∧ (n ≤ cap ∧ (n ≤ 2000000 → SS W p n cap P)) := by
  obtain ⟨a, len, cap, rfl⟩ := okWide_slice Try.underlying22 hv
  obtain ⟨fuel, hf⟩ := h
  obtain ⟨p, n, c, P, hcs, hC⟩ := states_cells hf
  simp [Value.cells] at hcs
  obtain ⟨rfl, rfl, rfl⟩ := hcs
  exact ⟨_, _, _, P, rfl, hC⟩
end Go.Proofs.Ytcgbmcnefolgcaa
