/- Rows of stretches. -/
import Derived.Test.YtjklaemhfhakhaaCd
import Derived.Test.YtjklaemhfhakhaaMd
import Derived.Maps.AppendAt
namespace Go.Proofs.Ytjklaemhfhakhaa
open Go.ChangeShapes Go.WideShapes Go.ChangeAt Go.RowKit

theorem info_parts {t : TypeId} {z : Value} {s bt : Nat} (h : (Try.prog.info? t).map (fun i => (i.zero, i.size, i.bytes)) = some (some z, s, bt)) : ∃ i, Try.prog.info? t = some i ∧ i.zero = some z ∧ i.size = s ∧ i.bytes = bt := by
  cases e : Try.prog.info? t with
  | none => rw [e] at h; cases h
  | some i =>
    rw [e] at h
    simp only [Option.map_some, Option.some.injEq, Prod.mk.injEq] at h
    exact ⟨i, rfl, h.1, h.2.1, h.2.2⟩
theorem info42 : (Try.prog.info? 42).map (fun i => (i.zero, i.size, i.bytes)) = some (some (.agg #[.int .i64 0, .int .i64 0, .int .i64 0, .bool false]), 4, 32) := by kernel_rfl
abbrev Sl.val (s : Sl) : Value := sv s.t s.f s.e s.l
def sL (s : Sl) : List Value := [.int .i64 s.t, .int .i64 s.f, .int .i64 s.e, .bool s.l]
def fl4 (D : List Sl) : List Value := D.flatMap sL
theorem fl4_len : ∀ D : List Sl, (fl4 D).length = D.length * 4
  | [] => rfl
  | p :: D => by
    unfold fl4
    rw [List.flatMap_cons, List.length_append]
    have := fl4_len D
    unfold fl4 at this
    rw [this]
    simp [sL]
    omega
theorem fl4_at : ∀ {D : List Sl} {i k : Nat} (_ : i < D.length) (_ : k < 4), (fl4 D)[i * 4 + k]? = (sL (D.getD i Sl.zero))[k]?
  | p :: D, 0, k, _, hk => by
    unfold fl4
    rw [List.flatMap_cons, List.getElem?_append_left (by simp [sL]; omega)]
    simp
  | p :: D, i + 1, k, hi, hk => by
    unfold fl4
    rw [List.flatMap_cons, List.getElem?_append_right (by simp [sL]; omega)]
    have := fl4_at (D := D) (i := i) (k := k) (by simpa using hi) hk
    unfold fl4 at this
    rw [show (i + 1) * 4 + k - (sL p).length = i * 4 + k by simp [sL]; omega, this]
    simp
/-- A row of stretches of one's own. -/
def SO (b : Nat) (w : World) (v : Value) (D : List Sl) : Prop := w.ownsRow b 42 4 v D.length (fl4 D)
theorem owns_kp {w w' : World} {b s n : Nat} {t : TypeId} {v : Value} {xs : List Value} {F : Nat → Prop} (h : w.ownsRow b t s v n xs) (hk : Kp F w w') (hF : ∀ r, v.ownBlock = some r → F r) : w'.ownsRow b t s v n xs := by
  have hl := h.lt
  obtain ⟨h1, h2⟩ := h
  refine ⟨h1, ?_⟩
  rcases h2 with h2 | ⟨g0, cap0, cur, rfl, k2, k3, k4⟩
  · exact Or.inl h2
  · exact Or.inr ⟨g0, cap0, cur, rfl, k2, (hk.block g0 (hF g0 rfl) (hl g0 rfl).2).trans k3, k4⟩
theorem owns_base {b b' s n : Nat} {w : World} {t : TypeId} {v : Value} {xs : List Value} (h : w.ownsRow b t s v n xs) (hb : b' ≤ b) : w.ownsRow b' t s v n xs := by
  obtain ⟨h1, h2⟩ := h
  refine ⟨h1, ?_⟩
  rcases h2 with h2 | ⟨g, cap, cur, rfl, k2, k3⟩
  · exact Or.inl h2
  · exact Or.inr ⟨g, cap, cur, rfl, Nat.le_trans hb k2, k3⟩
theorem SO.kp {b : Nat} {w w' : World} {v : Value} {D : List Sl} {F : Nat → Prop} (h : SO b w v D) (hk : Kp F w w') (hF : ∀ r, v.ownBlock = some r → F r) : SO b w' v D := owns_kp h hk hF
theorem SO.up {b : Nat} {w w' : World} {v : Value} {D : List Sl} (h : SO b w v D) (hu : Up w w') : SO b w' v D := h.kp (F := fun _ => True) (Kp.of_up hu) (fun _ _ => trivial)
theorem SO.nil (b : Nat) (w : World) : SO b w (.slice none 0 0) [] := ⟨by simp [fl4], Or.inl ⟨rfl, rfl⟩⟩
theorem own_form {b s n : Nat} {w : World} {t : TypeId} {v : Value} {xs : List Value} (h : w.ownsRow b t s v n xs) : ∃ p cap, v = .slice p n cap ∧ (0 < n → ∃ g, p = some ⟨g, 0, none⟩ ∧ b ≤ g ∧ g < w.heap.size) := by
  rcases h.2 with ⟨rfl, h0⟩ | ⟨g, cap, cur, rfl, h1, h2, _⟩
  · exact ⟨none, 0, by rw [h0], fun q => by omega⟩
  · exact ⟨_, cap, rfl, fun _ => ⟨g, rfl, h1, (Array.getElem?_eq_some_iff.1 h2).1⟩⟩
theorem SO.at {b : Nat} {w : World} {p : Option Addr} {n cap : Nat} {D : List Sl} (h : SO b w (.slice p n cap) D) {i : Nat} (hi : i < D.length) : ∃ g, p = some ⟨g, 0, none⟩ ∧ b ≤ g ∧ g < w.heap.size ∧ (∀ k v, k < 4 → (sL (D.getD i Sl.zero))[k]? = some v → w.cell? ⟨g, i * 4 + k, none⟩ = some v) := by
  rcases h.2 with ⟨h0, h1⟩ | ⟨g, cap', cur, e, h1, h2, h3, h4, h5, h6⟩
  · omega
  · simp only [Value.slice.injEq] at e
    obtain ⟨rfl, rfl, rfl⟩ := e
    refine ⟨g, rfl, h1, (Array.getElem?_eq_some_iff.1 h2).1, ?_⟩
    intro k v hk hv
    rw [← fl4_at hi hk, ← h6, List.getElem?_take, if_pos (by omega)] at hv
    unfold World.cell?
    simp only [h2]
    rw [Array.getElem?_toList] at hv
    simpa using hv
theorem SO.len {b : Nat} {w : World} {p : Option Addr} {n cap : Nat} {D : List Sl} (h : SO b w (.slice p n cap) D) : D.length = n := by
  obtain ⟨p', cap', he, _⟩ := own_form h
  simp only [Value.slice.injEq] at he
  exact he.2.1.symm
theorem SO.frz {b : Nat} {w : World} {g n cap : Nat} {D : List Sl} (h : SO b w (.slice (some ⟨g, 0, none⟩) n cap) D) (i : Nat) : w.frozen? ⟨g, i, none⟩ = false := by
  rcases h.2 with ⟨h0, h1⟩ | ⟨g', cap', cur, e, h1, h2, h3⟩
  · cases h0
  · simp only [Value.slice.injEq, Option.some.injEq, Addr.mk.injEq] at e
    obtain ⟨⟨rfl, _⟩, _⟩ := e
    simp [World.frozen?, h2]
theorem addr_add (b o j : Nat) : (⟨b, o, none⟩ : Addr).add j = ⟨b, o + j, none⟩ := by
  unfold Addr.add
  split
  · rename_i h; subst h; rfl
  · rfl
theorem sl_new (w : World) (s : Sl) (t : TypeId) : ∀ j u, (sL s)[j]? = some u → (w.alloc (.cells #[.int .i64 s.t, .int .i64 s.f, .int .i64 s.e, .bool s.l] t)).cell? ((⟨w.heap.size, 0, none⟩ : Addr).add j) = some u := by
  intro j u hj
  rw [addr_add, Nat.zero_add]
  rw [(row_cell (heap_alloc_last w _) j).1]
  have : (sL s).toArray = #[.int .i64 s.t, .int .i64 s.f, .int .i64 s.e, .bool s.l] := rfl
  rw [← this, List.getElem?_toArray]
  exact hj
theorem sl_one (s : Sl) : ∀ u ∈ sL s, u.oneCell' = true := by
  intro u hu
  simp only [sL, List.mem_cons, List.not_mem_nil, or_false] at hu
  rcases hu with rfl | rfl | rfl | rfl <;> rfl
/-- One stretch more. -/
theorem wpList_push {ops : Array Oper} {rest : List Oper} {o : Oper} {a : Act} {Q : Exit → Act → World → Prop} (hgd : o.guard = none) (s x : Operand) (ho : o.op = .call { callee := .builtin .append, args := #[s, x], argTypes := #[45, 45] })
    {b : Nat} {w : World} {z : Sl} (p : Option Addr) (m c : Nat) (D : List Sl) (hs : a.eval s = .slice p m c) (hx : a.eval x = .slice (some ⟨w.heap.size, 0, none⟩) 1 1) (HO : SO b w (.slice p m c) D) (hb : b ≤ w.heap.size) (hm : m ≤ 2000000)
    (h : ∀ p' c' w', Hid (SO b w' (.slice p' (m + 1) c') (D ++ [z])) → Hid ((w.alloc (.cells #[.int .i64 z.t, .int .i64 z.f, .int .i64 z.e, .bool z.l] 42)).grownBy w' (Value.slice p m c).ownBlock) → Hid ((Value.slice p' (m + 1) c').ownBlock = (Value.slice p m c).ownBlock ∨ (Value.slice p' (m + 1) c').ownBlock = some (w.alloc (.cells #[.int .i64 z.t, .int .i64 z.f, .int .i64 z.e, .bool z.l] 42)).heap.size) → wpList Try.prog ops Q rest (a.put o.dst (.slice p' (m + 1) c')) w') : wpList Try.prog ops Q (o :: rest) a (w.alloc (.cells #[.int .i64 z.t, .int .i64 z.f, .int .i64 z.e, .bool z.l] 42)) := by
  obtain ⟨i0, hi, hz0, hz2, hz3⟩ := info_parts info42
  have hl := SO.len HO
  have HO' : (w.alloc (.cells #[.int .i64 z.t, .int .i64 z.f, .int .i64 z.e, .bool z.l] 42)).ownsRow b 42 4 (.slice p m c) m (fl4 D) := by
    have := World.ownsRow.alloc HO (.cells #[.int .i64 z.t, .int .i64 z.f, .int .i64 z.e, .bool z.l] 42)
    rwa [hl] at this
  refine wpList_append_own_at _ hgd s x 45 ho b 42 i0 (.agg #[.int .i64 0, .int .i64 0, .int .i64 0, .bool false]) 4 32 Try.underlying45 hi hz0 hz2 hz3 rfl (by decide) _ _ _ hs HO' ⟨w.heap.size, 0, none⟩ 1 1 (sL z) hx rfl (sl_new w z 42) (sl_one _) (by unfold maxLen; omega) (by omega) (by simp; omega) ?_
  intro v' w' h1 h2 _ h4
  obtain ⟨p', c', hv, _⟩ := own_form h1
  subst hv
  refine h p' c' w' ?_ h2 h4
  show w'.ownsRow b 42 4 _ (D ++ [z]).length (fl4 (D ++ [z]))
  unfold fl4 at *
  rw [List.length_append, hl, List.flatMap_append]
  simpa using h1
end Go.Proofs.Ytjklaemhfhakhaa
