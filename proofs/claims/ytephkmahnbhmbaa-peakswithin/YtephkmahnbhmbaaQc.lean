/- Rows of spots of one's own, written in place. -/
import Derived.Test.YtephkmahnbhmbaaQb
import Derived.Lib.SliceRun
namespace Go.Proofs.Ytephkmahnbhmbaa
open Go.ChangeShapes Go.WideShapes Go.ChangeAt Go.RowKit Go.Fl Go.Sort Go.Shelf Go.Lib

/-- A row of one's own whose first places hold these spots. -/
structure OwnR (w : World) (g cap : Nat) (d : Array Spt) : Prop where
  ex : ∃ cur, w.heap[g]? = some (.cells cur 29 (0, 0)) ∧ cur.size = cap * 3 ∧ ∀ i, i < d.size → cur[i * 3]? = some (.int .i64 (d[i]!).1) ∧ cur[i * 3 + 1]? = some (.int .i64 (d[i]!).2.1) ∧ cur[i * 3 + 2]? = some (.float .f64 (d[i]!).2.2)
  le : d.size ≤ cap
  most : cap ≤ maxLen
theorem OwnR.lt {w : World} {g cap : Nat} {d : Array Spt} (h : OwnR w g cap d) : g < w.heap.size := by
  obtain ⟨cur, h1, _⟩ := h.ex
  exact (Array.getElem?_eq_some_iff.1 h1).1
theorem OwnR.cell {w : World} {g cap : Nat} {d : Array Spt} (h : OwnR w g cap d) {i : Nat} (hi : i < d.size) :
    (w.cell? ⟨g, i * 3, none⟩ = some (.int .i64 (d[i]!).1) ∧ w.cell? ⟨g, i * 3 + 1, none⟩ = some (.int .i64 (d[i]!).2.1) ∧ w.cell? ⟨g, i * 3 + 2, none⟩ = some (.float .f64 (d[i]!).2.2)) ∧ ∀ k, w.frozen? ⟨g, k, none⟩ = false := by
  obtain ⟨cur, h1, h2, h3⟩ := h.ex
  obtain ⟨q1, q2, q3⟩ := h3 i hi
  refine ⟨⟨?_, ?_, ?_⟩, fun k => frozen_of_row h1⟩ <;> rw [cell_of_row _ _ _ _ _ _ h1] <;> assumption
theorem OwnR.kp {w w' : World} {g cap : Nat} {d : Array Spt} {F : Nat → Prop} (h : OwnR w g cap d) (hk : Kp F w w') (hF : F g) : OwnR w' g cap d := by
  obtain ⟨cur, h1, h2⟩ := h.ex
  exact ⟨⟨cur, (hk.block g hF h.lt).trans h1, h2⟩, h.le, h.most⟩
theorem OwnR.up {w w' : World} {g cap : Nat} {d : Array Spt} (h : OwnR w g cap d) (hu : Up w w') : OwnR w' g cap d := h.kp (F := fun _ => True) (Kp.of_up hu) trivial
theorem flat_get (L : List Spt) : ∀ (i c : Nat), c < 3 → (L.flatMap spC)[i * 3 + c]? = (L[i]?).bind fun s => (spC s)[c]? := by
  induction L with
  | nil => intro i c hc; simp
  | cons a l ih =>
    intro i c hc
    rw [List.flatMap_cons]
    cases i with
    | zero =>
      rw [List.getElem?_append_left (by simp [spC]; omega)]
      simp
    | succ i =>
      rw [List.getElem?_append_right (by simp [spC]; omega)]
      have e : (i + 1) * 3 + c - (spC a).length = i * 3 + c := by simp [spC]; omega
      rw [e, ih i c hc]
      simp
theorem OwnR.of_so {b : Nat} {w : World} {g n cap : Nat} {L : List Spt} (h : SO b w (.slice (some ⟨g, 0, none⟩) n cap) L) : OwnR w g cap L.toArray ∧ b ≤ g ∧ L.length = n := by
  obtain ⟨h1, h2⟩ := h
  rcases h2 with ⟨h2, _⟩ | ⟨g', cap', cur, e, k2, k3, k4, k5, k6, k7⟩
  · cases h2
  · simp only [Value.slice.injEq, Option.some.injEq, Addr.mk.injEq] at e
    obtain ⟨⟨rfl, _⟩, e2, rfl⟩ := e
    refine ⟨⟨⟨cur, k3, k6, fun i hi => ?_⟩, by simpa using k4, k5⟩, k2, e2.symm⟩
    have hi' : i < L.length := by simpa using hi
    have gen : ∀ c, c < 3 → cur[i * 3 + c]? = (spC L[i])[c]? := fun c hc => by
      have t := congrArg (fun l => l[i * 3 + c]?) k7
      simp only [List.getElem?_take] at t
      rw [if_pos (by omega), flat_get L i c hc, List.getElem?_eq_getElem hi'] at t
      rw [← Array.getElem?_toList, t]; rfl
    have e3 : L.toArray[i]! = L[i] := by simp [getElem!_pos L i hi']
    rw [e3]
    exact ⟨gen 0 (by omega), gen 1 (by omega), gen 2 (by omega)⟩
theorem OwnR.so {b : Nat} {w : World} {g n cap : Nat} {L : List Spt} (h : OwnR w g cap L.toArray) (hb : b ≤ g) (hn : L.length = n) : SO b w (.slice (some ⟨g, 0, none⟩) n cap) L := by
  obtain ⟨cur, h1, h2, h3⟩ := h.ex
  have hle : L.length ≤ cap := by simpa using h.le
  refine ⟨spC_len L, Or.inr ⟨g, cap, cur, by rw [hn], hb, h1, hle, h.most, h2, ?_⟩⟩
  apply List.ext_getElem?
  intro j
  rw [List.getElem?_take]
  have hcs : cur.toList.length = cap * 3 := by simpa using h2
  by_cases hj : j < L.length * 3
  · rw [if_pos hj]
    have hi : j / 3 < L.length := by omega
    have e : j = j / 3 * 3 + j % 3 := by omega
    have hc : j % 3 < 3 := by omega
    have q := h3 (j / 3) (by simpa using hi)
    have e3 : L.toArray[j / 3]! = L[j / 3] := by simp [getElem!_pos L (j / 3) hi]
    rw [e3] at q
    rw [e, flat_get L _ _ hc, List.getElem?_eq_getElem hi, Array.getElem?_toList]
    show _ = (spC L[j / 3])[j % 3]?
    rcases (show j % 3 = 0 ∨ j % 3 = 1 ∨ j % 3 = 2 by omega) with r | r | r <;> rw [r]
    · exact q.1
    · exact q.2.1
    · exact q.2.2
  · rw [if_neg hj, List.getElem?_eq_none (by rw [spC_len]; omega)]
theorem OwnR.take {w : World} {g cap : Nat} {d : Array Spt} (h : OwnR w g cap d) (m : Nat) (hm : m ≤ d.size) : OwnR w g cap (d.extract 0 m) := by
  obtain ⟨cur, h1, h2, h3⟩ := h.ex
  have hs : (d.extract 0 m).size = m := by simp; omega
  have := h.le
  refine ⟨⟨cur, h1, h2, fun i hi => ?_⟩, by omega, h.most⟩
  rw [hs] at hi
  have e : (d.extract 0 m)[i]! = d[i]! := by rw [getElem!_pos _ i (by omega), getElem!_pos d i (by omega)]; simp
  rw [e]
  exact h3 i (by omega)
end Go.Proofs.Ytephkmahnbhmbaa
