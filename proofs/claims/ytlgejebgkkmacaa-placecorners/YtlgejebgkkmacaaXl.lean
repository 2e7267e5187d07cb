/- A list of points that is handed in, opened. -/
import Derived.Test.YtlgejebgkkmacaaXa
import Derived.Test.YtlgejebgkkmacaaPl
namespace Go.Proofs.Ytlgejebgkkmacaa
open Go.ChangeShapes Go.WideShapes Go.ChangeAt Go.RowKit Go.Fl

theorem bytes24 : Try.prog.bytesOf 24 = 16 := by kernel_rfl
theorem trod_pts {H : Type} {enc : TypeId × Value → H} {W : World} {base fuel : Nat} {spare : Nat → Bool} {held : Bool} {cs : List Value} {x : DataW H × List MemPlace} (hl : cs.length = 2) (h : DataW.trod enc Try.prog W base spare held fuel 24 cs = some x) : ∃ s : Nat × Nat, cs = se s ∧ s.1 < 2 ^ 64 ∧ s.2 < 2 ^ 64 := by
  obtain ⟨c0, c1, rfl⟩ := two_list hl
  obtain ⟨x, y, rfl, rfl, h1, h2⟩ := trod_pt h
  exact ⟨(x, y), rfl, h1, h2⟩
theorem open_points {H : Type} {enc : TypeId × Value → H} {w : World} {base fuel : Nat} {held : Bool} {cs : List Value} {x : DataW H × List MemPlace} (h : DataW.trod enc Try.prog w base (fun _ => true) held fuel 38 cs = some x) :
    (cs = [.slice none 0 0] ∧ x = (.nil, [])) ∨ ∃ (a : Addr) (len cap : Nat) (es rs : List (DataW H)) (D : Nat → Nat × Nat), cs = [.slice (some a) len cap] ∧ x.1 = .slice es rs ∧ es.length = len ∧ LV w (some a) len D ∧ len ≤ cap ∧ ∀ i, i < len → (D i).1 < 2 ^ 64 ∧ (D i).2 < 2 ^ 64 := by
  rcases Go.Deep.open_slice Try.underlying38 h with h0 | ⟨a, len, cap, m, n, D, Pl, rfl, hb, hl, hm, hmm, rfl, hx⟩
  · exact Or.inl h0
  right
  rw [cells24] at hx
  simp only [if_true] at hmm
  subst hmm
  obtain ⟨B, hB⟩ := Go.Deep.choose_lt (α := Nat × Nat) (p := fun i s => (∀ j, j < 2 → w.cell? ((a.add (i * 2)).add j) = (se s)[j]?) ∧ s.1 < 2 ^ 64 ∧ s.2 < 2 ^ 64) (fun i hi => by
    obtain ⟨cs', h1, h2⟩ := hx i hi
    obtain ⟨_, k1, k2⟩ := World.cells?_some h1
    obtain ⟨s, rfl, l1, l2⟩ := trod_pts k1 h2
    exact ⟨s, k2, l1, l2⟩)
  refine ⟨a, len, m, _, _, B, rfl, rfl, by simp, fun hp => ?_, by omega, fun i hi => (hB i (by omega)).2⟩
  have h0 := (hB 0 (by omega)).1 0 (by omega)
  obtain ⟨blk, off, spot⟩ := a
  have hs : spot = none := by
    rw [Go.Deep.add_add] at h0
    simp only [Addr.add, if_true, Nat.zero_mul, Nat.add_zero] at h0
    unfold World.cell? at h0
    split at h0
    · cases spot with
      | none => rfl
      | some s => simp [se] at h0
    · simp [se] at h0
  subst hs
  refine ⟨blk, off, rfl, fun i hi => ?_⟩
  have e : ∀ j, (⟨blk, off, none⟩ : Addr).add j = ⟨blk, off + j, none⟩ := fun j => by
    unfold Addr.add
    split
    · rename_i hj0; rw [hj0]; rfl
    · rfl
  have hc := (hB i (by omega)).1
  have c0 := hc 0 (by omega)
  have c1 := hc 1 (by omega)
  rw [Go.Deep.add_add, e] at c0 c1
  simp only [se, List.getElem?_cons_zero, List.getElem?_cons_succ] at c0 c1
  exact ⟨c0, by rw [Nat.add_assoc]; exact c1⟩
set_option maxRecDepth 20000 in
/-- Points that are handed in. -/
theorem open_pts {H : Type} {enc : TypeId × Value → H} {W : World} {base : Nat} {held : Bool} {v : Value} {d : DataW H} {p : List MemPlace} {r : Reach} {b0 : Nat} (hv : Value.okWide Try.prog W r b0 38 v) (h : DataW.Trod enc Try.prog W base (fun _ => true) held 38 v d p) (hsz : ∀ es rs, d = .slice es rs → (es.length + rs.length) * 16 ≤ reachBytes) :
    ∃ (q : Option Addr) (n c : Nat) (D : Nat → Nat × Nat), v = .slice q n c ∧ LV W q n D ∧ n ≤ 8796093022208 ∧ n ≤ c ∧ ∀ i, i < n → (D i).1 < 2 ^ 64 ∧ (D i).2 < 2 ^ 64 := by
  obtain ⟨a0, len, cap, rfl⟩ := okWide_slice Try.underlying38 hv
  obtain ⟨fuel, hf⟩ := h
  rcases open_points hf with ⟨hcs, hx⟩ | ⟨a, len', cap', es, rs, D, hcs, hx, hel, hR, hlc, hlt⟩
  · simp [Value.cells] at hcs
    obtain ⟨rfl, rfl, rfl⟩ := hcs
    exact ⟨none, 0, 0, fun _ => (0, 0), rfl, fun h => by omega, by omega, by omega, fun i hi => by omega⟩
  · simp [Value.cells] at hcs
    obtain ⟨rfl, rfl, rfl⟩ := hcs
    have hw := hsz es rs hx
    unfold reachBytes at hw
    exact ⟨some a, len, cap, D, rfl, hR, by omega, hlc, hlt⟩
end Go.Proofs.Ytlgejebgkkmacaa
