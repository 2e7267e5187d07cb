/- A list of steps that is handed in, opened. -/
import Derived.Test.YtdolfkgnehiecaaXa
namespace Go.Proofs.Ytdolfkgnehiecaa
open Go.ChangeShapes Go.WideShapes Go.ChangeAt Go.RowKit Go.Fl

theorem cells3i : Try.prog.cellsOf 3 = 1 := by kernel_rfl
theorem cells27 : Try.prog.cellsOf 27 = 3 := by kernel_rfl
theorem bytes27 : Try.prog.bytesOf 27 = 24 := by kernel_rfl
abbrev Stp : Type := Int × Nat × Nat
def stC (s : Stp) : List Value := [.int .i64 s.1, .float .f64 s.2.1, .float .f64 s.2.2]
theorem three_list {α : Type} {l : List α} (h : l.length = 3) : ∃ a b c, l = [a, b, c] := by
  match l, h with
  | [a, b, c], _ => exact ⟨a, b, c, rfl⟩
theorem trod_step {H : Type} {enc : TypeId × Value → H} {W : World} {base fuel : Nat} {spare : Nat → Bool} {held : Bool} {cs : List Value} {x : DataW H × List MemPlace} (hl : cs.length = 3) (h : DataW.trod enc Try.prog W base spare held fuel 27 cs = some x) : ∃ s : Stp, cs = stC s := by
  obtain ⟨c0, c1, c2, rfl⟩ := three_list hl
  obtain ⟨xs, n, _, _, _, hlen, hall⟩ := DataW.trod_struct Try.underlying27 h
  obtain ⟨y0, y1, y2, rfl⟩ := three_list (by simpa using hlen)
  have e0 : DataW.trod enc Try.prog W base spare held n 3 [c0] = some y0 := by simpa [cells3i] using hall 0 _ rfl
  have e1 : DataW.trod enc Try.prog W base spare held n 22 [c1] = some y1 := by simpa [cells22] using hall 1 _ rfl
  have e2 : DataW.trod enc Try.prog W base spare held n 22 [c2] = some y2 := by simpa [cells22] using hall 2 _ rfl
  obtain ⟨x0, k0, _, _⟩ := DataW.trod_int Try.underlying3 e0
  obtain ⟨x1, k1, _⟩ := trod_float Try.underlying22 e1
  obtain ⟨x2, k2, _⟩ := trod_float Try.underlying22 e2
  simp only [List.cons.injEq, and_true] at k0 k1 k2
  subst k0 k1 k2
  exact ⟨(x0, x1, x2), rfl⟩
theorem open_steps {H : Type} {enc : TypeId × Value → H} {w : World} {base fuel : Nat} {held : Bool} {cs : List Value} {x : DataW H × List MemPlace} (h : DataW.trod enc Try.prog w base (fun _ => true) held fuel 25 cs = some x) :
    (cs = [.slice none 0 0] ∧ x = (.nil, [])) ∨ ∃ (a : Addr) (len cap : Nat) (es rs : List (DataW H)) (D : Nat → Stp), cs = [.slice (some a) len cap] ∧ x.1 = .slice es rs ∧ es.length = len ∧ (0 < len → ∃ blk off, a = ⟨blk, off, none⟩ ∧ ∀ i, i < len → w.cell? ⟨blk, off + i * 3, none⟩ = some (.int .i64 (D i).1) ∧ w.cell? ⟨blk, off + i * 3 + 1, none⟩ = some (.float .f64 (D i).2.1) ∧ w.cell? ⟨blk, off + i * 3 + 2, none⟩ = some (.float .f64 (D i).2.2)) := by
  rcases Go.Deep.open_slice Try.underlying25 h with h0 | ⟨a, len, cap, m, n, D, Pl, rfl, hb, hl, hm, hmm, rfl, hx⟩
  · exact Or.inl h0
  right
  rw [cells27] at hx
  simp only [if_true] at hmm
  subst hmm
  obtain ⟨B, hB⟩ := Go.Deep.choose_lt (α := Stp) (p := fun i s => ∀ j, j < 3 → w.cell? ((a.add (i * 3)).add j) = (stC s)[j]?) (fun i hi => by
    obtain ⟨cs', h1, h2⟩ := hx i hi
    obtain ⟨_, k1, k2⟩ := World.cells?_some h1
    obtain ⟨s, rfl⟩ := trod_step k1 h2
    exact ⟨s, k2⟩)
  refine ⟨a, len, m, _, _, B, rfl, rfl, by simp, fun hp => ?_⟩
  have h0 := (hB 0 (by omega)) 0 (by omega)
  obtain ⟨blk, off, spot⟩ := a
  have hs : spot = none := by
    rw [Go.Deep.add_add] at h0
    simp only [Addr.add, if_true, Nat.zero_mul, Nat.add_zero] at h0
    unfold World.cell? at h0
    split at h0
    · cases spot with
      | none => rfl
      | some s => simp [stC] at h0
    · simp [stC] at h0
  subst hs
  refine ⟨blk, off, rfl, fun i hi => ?_⟩
  have e : ∀ j, (⟨blk, off, none⟩ : Addr).add j = ⟨blk, off + j, none⟩ := fun j => by
    unfold Addr.add
    split
    · rename_i hj0; rw [hj0]; rfl
    · rfl
  have hc := hB i (by omega)
  have c0 := hc 0 (by omega)
  have c1 := hc 1 (by omega)
  have c2 := hc 2 (by omega)
  rw [Go.Deep.add_add, e] at c0 c1 c2
  simp only [stC, List.getElem?_cons_zero, List.getElem?_cons_succ] at c0 c1 c2
  exact ⟨c0, by rw [Nat.add_assoc]; exact c1, by rw [Nat.add_assoc]; exact c2⟩
set_option maxRecDepth 20000 in
/-- Steps that are handed in. -/
theorem open_st {H : Type} {enc : TypeId × Value → H} {W : World} {base : Nat} {held : Bool} {v : Value} {d : DataW H} {p : List MemPlace} {r : Reach} {b0 : Nat} (hv : Value.okWide Try.prog W r b0 25 v) (h : DataW.Trod enc Try.prog W base (fun _ => true) held 25 v d p) (hsz : ∀ es rs, d = .slice es rs → (es.length + rs.length) * 24 ≤ reachBytes) :
    ∃ (q : Option Addr) (blk off n c : Nat) (D : Nat → Stp), v = .slice q n c ∧ (0 < n → q = some ⟨blk, off, none⟩) ∧ (∀ i, i < n → W.cell? ⟨blk, off + i * 3, none⟩ = some (.int .i64 (D i).1) ∧ W.cell? ⟨blk, off + i * 3 + 1, none⟩ = some (.float .f64 (D i).2.1) ∧ W.cell? ⟨blk, off + i * 3 + 2, none⟩ = some (.float .f64 (D i).2.2)) ∧ n ≤ 9223372036854775807 := by
  obtain ⟨a0, len, cap, rfl⟩ := okWide_slice Try.underlying25 hv
  obtain ⟨fuel, hf⟩ := h
  rcases open_steps hf with ⟨hcs, hx⟩ | ⟨a, len', cap', es, rs, D, hcs, hx, hel, hR⟩
  · simp [Value.cells] at hcs
    obtain ⟨rfl, rfl, rfl⟩ := hcs
    exact ⟨none, 0, 0, 0, 0, fun _ => (0, 0, 0), rfl, fun h => by omega, fun i hi => by omega, by omega⟩
  · simp [Value.cells] at hcs
    obtain ⟨rfl, rfl, rfl⟩ := hcs
    have hw := hsz es rs hx
    unfold reachBytes at hw
    have hb : len ≤ 9223372036854775807 := by omega
    rcases Nat.eq_zero_or_pos len with h0 | h0
    · subst h0
      exact ⟨some a, 0, 0, 0, cap, D, rfl, fun h => by omega, fun i hi => by omega, hb⟩
    · obtain ⟨b, o, e, r⟩ := hR h0
      exact ⟨some a, b, o, len, cap, D, rfl, fun _ => by rw [e], r, hb⟩
end Go.Proofs.Ytdolfkgnehiecaa
