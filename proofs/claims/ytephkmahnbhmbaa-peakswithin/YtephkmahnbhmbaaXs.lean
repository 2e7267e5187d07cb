/- Spots that are handed in, opened. -/
import Derived.Test.YtephkmahnbhmbaaVa
import Derived.ProofKit
import Derived.OpenShut
import Derived.SizedLaws
import Derived.Carry
import Derived.Deep.Slices
import Derived.Deep.Grids
import Derived.Test.YtephkmahnbhmbaaZc
namespace Go.Proofs.Ytephkmahnbhmbaa
open Go.ChangeShapes Go.WideShapes Go.ChangeAt Go.RowKit Go.Fl Go.Sort

theorem ownK : ownKnob Try.prog.godebug = none := by kernel_rfl
set_option maxRecDepth 100000 in
theorem laidOut : laidOutB Try.prog = true := by kernel_rfl
theorem cells24 : Try.prog.cellsOf 24 = 1 := by kernel_rfl
theorem cellsInt : Try.prog.cellsOf 3 = 1 := by kernel_rfl
theorem cells29 : Try.prog.cellsOf 29 = 3 := by kernel_rfl
theorem bytes29 : Try.prog.bytesOf 29 = 24 := by kernel_rfl
theorem trod_float {H : Type} {enc : TypeId × Value → H} {P : Program} {w : World} {base : Nat} {spare : Nat → Bool} {held : Bool} {fuel : Nat} {t : TypeId} {cs : List Value} {x : DataW H × List MemPlace} {k : FloatKind} (ht : P.underlying t = some (.float k)) (h : DataW.trod enc P w base spare held fuel t cs = some x) : ∃ n, cs = [.float k n] ∧ (Lit.float k n).wf = true := by
  cases fuel with
  | zero => simp [DataW.trod] at h
  | succ n =>
    unfold DataW.trod at h
    rw [ht] at h
    split at h <;> simp_all
theorem int_wf {n : Int} (h : (Lit.int .i64 n).wf = true) : -9223372036854775808 ≤ n ∧ n ≤ 9223372036854775807 := by
  have h2 : (decide ((-9223372036854775808 : Int) ≤ n) && decide (n ≤ 9223372036854775807)) = true := h
  simpa using h2
theorem float_wf {b : Nat} (h : (Lit.float .f64 b).wf = true) : b < 2 ^ 64 := by
  have h2 : decide (b < 2 ^ 64) = true := h
  simpa using h2
theorem three_list {α : Type} {l : List α} (h : l.length = 3) : ∃ a b c, l = [a, b, c] := by
  match l, h with
  | [a, b, c], _ => exact ⟨a, b, c, rfl⟩
/-- One spot. -/
theorem trod_spot {H : Type} {enc : TypeId × Value → H} {W : World} {base fuel : Nat} {spare : Nat → Bool} {held : Bool} {cs : List Value} {x : DataW H × List MemPlace} (hl : cs.length = 3) (h : DataW.trod enc Try.prog W base spare held fuel 29 cs = some x) : ∃ s : Spt, cs = spC s ∧ Wf s ∧ s.2.2 < 18446744073709551616 := by
  obtain ⟨c0, c1, c2, rfl⟩ := three_list hl
  obtain ⟨xs, n, _, _, _, hlen, hall⟩ := DataW.trod_struct Try.underlying29 h
  obtain ⟨y0, y1, y2, rfl⟩ := three_list (by simpa using hlen)
  have e0 : DataW.trod enc Try.prog W base spare held n 3 [c0] = some y0 := by simpa [cellsInt] using hall 0 _ rfl
  have e1 : DataW.trod enc Try.prog W base spare held n 3 [c1] = some y1 := by simpa [cellsInt] using hall 1 _ rfl
  have e2 : DataW.trod enc Try.prog W base spare held n 24 [c2] = some y2 := by simpa [cells24] using hall 2 _ rfl
  obtain ⟨x0, k0, _, w0⟩ := DataW.trod_int Try.underlying3 e0
  obtain ⟨x1, k1, _, w1⟩ := DataW.trod_int Try.underlying3 e1
  obtain ⟨x2, k2, w2⟩ := trod_float Try.underlying24 e2
  simp only [List.cons.injEq, and_true] at k0 k1 k2
  subst k0 k1 k2
  exact ⟨(x0, x1, x2), rfl, ⟨int_wf w0, int_wf w1⟩, float_wf w2⟩
/-- SPOTS, OPENED. -/
theorem open_spots {H : Type} {enc : TypeId × Value → H} {w : World} {base fuel : Nat} {held : Bool} {cs : List Value} {x : DataW H × List MemPlace} (h : DataW.trod enc Try.prog w base (fun _ => true) held fuel 25 cs = some x) :
    (cs = [.slice none 0 0] ∧ x = (.nil, [])) ∨ ∃ (a : Addr) (len cap : Nat) (es rs : List (DataW H)) (d : Array Spt), cs = [.slice (some a) len cap] ∧ len ≤ cap ∧ x.1 = .slice es rs ∧ es.length = len ∧ d.size = len ∧ (∀ i, i < len → Wf d[i]! ∧ (d[i]!).2.2 < 18446744073709551616) ∧ (0 < len → ∃ blk off, a = ⟨blk, off, none⟩ ∧ ∀ i, i < len → w.cell? ⟨blk, off + i * 3, none⟩ = some (.int .i64 (d[i]!).1) ∧ w.cell? ⟨blk, off + i * 3 + 1, none⟩ = some (.int .i64 (d[i]!).2.1) ∧ w.cell? ⟨blk, off + i * 3 + 2, none⟩ = some (.float .f64 (d[i]!).2.2)) := by
  rcases Go.Deep.open_slice Try.underlying25 h with h0 | ⟨a, len, cap, m, n, D, Pl, rfl, hb, hl, hm, hmm, rfl, hx⟩
  · exact Or.inl h0
  right
  rw [cells29] at hx
  simp only [if_true] at hmm
  subst hmm
  obtain ⟨B, hB⟩ := Go.Deep.choose_lt (α := Spt) (p := fun i s => (∀ j, j < 3 → w.cell? ((a.add (i * 3)).add j) = (spC s)[j]?) ∧ Wf s ∧ s.2.2 < 18446744073709551616) (fun i hi => by
    obtain ⟨cs', h1, h2⟩ := hx i hi
    obtain ⟨_, k1, k2⟩ := World.cells?_some h1
    obtain ⟨s, rfl, h3, h4⟩ := trod_spot k1 h2
    exact ⟨s, k2, h3, h4⟩)
  have hget : ∀ i, i < len → (((List.range len).map B).toArray)[i]! = B i := fun i hi => by
    rw [getElem!_pos _ i (by simpa using hi)]; simp
  refine ⟨a, len, m, _, _, ((List.range len).map B).toArray, rfl, hl, rfl, by simp, by simp, fun i hi => ?_, fun hp => ?_⟩
  · rw [hget i hi]; exact (hB i (by omega)).2
  · have h0 := (hB 0 (by omega)).1 0 (by omega)
    obtain ⟨blk, off, spot⟩ := a
    have hs : spot = none := by
      rw [Go.Deep.add_add] at h0
      simp only [Addr.add, if_true, Nat.zero_mul, Nat.add_zero] at h0
      unfold World.cell? at h0
      split at h0
      · cases spot with
        | none => rfl
        | some s => simp [spC] at h0
      · simp [spC] at h0
    subst hs
    refine ⟨blk, off, rfl, fun i hi => ?_⟩
    rw [hget i hi]
    have e : ∀ j, (⟨blk, off, none⟩ : Addr).add j = ⟨blk, off + j, none⟩ := fun j => by
      unfold Addr.add
      split
      · rename_i hj0; rw [hj0]; rfl
      · rfl
    have hc := (hB i (by omega)).1
    have c0 := hc 0 (by omega)
    have c1 := hc 1 (by omega)
    have c2 := hc 2 (by omega)
    rw [Go.Deep.add_add, e] at c0 c1 c2
    simp only [spC, List.getElem?_cons_zero, List.getElem?_cons_succ] at c0 c1 c2
    exact ⟨c0, by rw [Nat.add_assoc]; exact c1, by rw [Nat.add_assoc]; exact c2⟩
set_option maxRecDepth 20000 in
/-- Spots that are handed in. -/
theorem open_sp {H : Type} {enc : TypeId × Value → H} {W : World} {base : Nat} {held : Bool} {v : Value} {d : DataW H} {p : List MemPlace} {r : Reach} {b0 : Nat} (hv : Value.okWide Try.prog W r b0 25 v) (h : DataW.Trod enc Try.prog W base (fun _ => true) held 25 v d p) (hsz : ∀ es rs, d = .slice es rs → (es.length + rs.length) * 24 ≤ reachBytes) :
    ∃ (q : Option Addr) (n c : Nat) (D : Array Spt), v = .slice q n c ∧ SpV W q n c D ∧ (n + 1) * 24 ≤ 140737488355328 := by
  obtain ⟨a0, len, cap, rfl⟩ := okWide_slice Try.underlying25 hv
  obtain ⟨fuel, hf⟩ := h
  rcases open_spots hf with ⟨hcs, hx⟩ | ⟨a, len', cap', es, rs, D, hcs, hl, hx, hel, hd, hF, hR⟩
  · simp [Value.cells] at hcs
    obtain ⟨rfl, rfl, rfl⟩ := hcs
    exact ⟨none, 0, 0, #[], rfl, ⟨rfl, by omega, by omega, fun i hi => by omega, fun i hi => by omega, fun h => by omega⟩, by omega⟩
  · simp [Value.cells] at hcs
    obtain ⟨rfl, rfl, rfl⟩ := hcs
    have hw := hsz es rs hx
    unfold reachBytes at hw
    have hb : (len + 1) * 24 ≤ 140737488355328 := by omega
    refine ⟨some a, len, cap, D, rfl, ⟨hd, hl, by omega, fun i hi => (hF i hi).1, fun i hi => (hF i hi).2, fun hp => ?_⟩, hb⟩
    obtain ⟨b, o, e, r⟩ := hR hp
    exact ⟨b, o, by rw [e], r⟩
end Go.Proofs.Ytephkmahnbhmbaa
/- PeaksWithin: any number of bins. -/
namespace Go.Proofs.Ytephkmahnbhmbaa
open Go.ChangeShapes Go.WideShapes Go.ChangeAt Go.RowKit Go.Fl Go.Sort

theorem u16_wf {n : Int} (h : (Lit.int .u16 n).wf = true) : 0 ≤ n ∧ n ≤ 65535 := by
  have h2 : (decide ((0 : Int) ≤ n) && decide (n ≤ 65535)) = true := h
  simpa using h2
theorem t8w {w : World} {p : Option Addr} {N cap : Nat} {d : Array Spt} (a : Int) (hw : (Lit.int .u16 a).wf = true) (h : SpV w p N cap d) : Calls Try.prog 8 #[.slice p N cap, .int .u16 a] w fun e w' => e = .returned (.bool true) ∧ Hid (Up w w') := by
  obtain ⟨h0, h1⟩ := u16_wf hw
  obtain ⟨b, rfl⟩ := Int.eq_ofNat_of_zero_le h0
  exact t8k b (by omega) h
end Go.Proofs.Ytephkmahnbhmbaa
