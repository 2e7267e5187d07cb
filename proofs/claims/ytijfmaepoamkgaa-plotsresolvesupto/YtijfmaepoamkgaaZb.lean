/- Rows of places, laid behind each other; how far back a place goes. -/
import Derived.Test.YtijfmaepoamkgaaZa
import Derived.Test.YtijfmaepoamkgaaYc
import Derived.BigQuiet
namespace Go.Proofs.Ytijfmaepoamkgaa
open Go.ChangeShapes Go.WideShapes Go.ChangeAt Go.RowKit Go.Fl Go.Sort

/-- A stretch of places in memory. -/
def St (w : World) (p : Option Addr) (c : Nat) (e : List Nat) : Prop := (∀ j, j < e.length → ∃ b o, p = some ⟨b, o, none⟩ ∧ w.cell? ⟨b, o + j, none⟩ = some (nv e[j]!)) ∧ (p = none → e.length = 0 ∧ c = 0)
theorem wpList_append_on {w : World} {ops : Array Oper} {rest : List Oper} {op : Oper} {a : Act} {Q : Exit → Act → World → Prop} (hgd : op.guard = none) (s x : Operand)
    (ho : op.op = .call { callee := .builtin .append, args := #[s, x], argTypes := #[45, 45] }) (base : Nat) (v : Value) (d : List Nat) (hs : a.eval s = v) (hown : OPl base w v d) (p : Option Addr) (cap m : Nat) (e : List Nat) (hx : a.eval x = .slice p m cap) (hm : e.length = m)
    (hR : St w p cap e) (hlen : d.length + e.length ≤ 1048576) (hbase : base ≤ w.heap.size)
    (h : ∀ v' w', OPl base w' v' (d ++ e) → w.grownBy w' v.ownBlock → wpList Try.prog ops Q rest (a.put op.dst v') w') : wpList Try.prog ops Q (op :: rest) a w := by
  subst hm
  obtain ⟨i0, hi, hz0, hz1, hz2⟩ := info_parts info3
  cases p with
  | none =>
    obtain ⟨h0, rfl⟩ := hR.2 rfl
    obtain rfl := List.eq_nil_of_length_eq_zero h0
    refine wpList_plain hgd fun K hK => ?_
    have hr := run_append_owned_none (P := Try.prog) w base 45 op.type 3 i0 1 Try.underlying45 hi v d.length (d.map nv) hown
    unfold Oper.wp execOp
    simp only [ho, resolve, invoke, builtin, Sem.run_bind, Sem.run_pure, Result.andThen_ok, List.map_toArray, List.map_cons, List.map_nil, hs, hx, List.length_nil, hr]
    exact hK _ _ (h v w (by simpa using hown) ⟨rfl, rfl, rfl, Nat.le_refl _, fun _ _ _ => rfl⟩)
  | some ad =>
    refine wpList_append_own w hgd s x 45 ho base 3 i0 (.int .i64 0) 1 8 Try.underlying45 hi hz0 hz1 hz2 rfl (by decide) v d.length (d.map nv) hs hown ad e.length cap (e.map nv) hx (by simp) ?_ ?_ (by unfold maxLen; omega) (by omega) hbase ?_
    · intro j u hj
      rw [List.getElem?_map, Option.map_eq_some_iff] at hj
      obtain ⟨z, hz, rfl⟩ := hj
      obtain ⟨hl, hz⟩ := List.getElem?_eq_some_iff.1 hz
      obtain ⟨blk, off, hb, hcell⟩ := hR.1 j hl
      cases hb
      rw [getElem!_pos e j hl, hz] at hcell
      rw [← hcell]
      unfold Addr.add
      split
      · rename_i h0; rw [h0]; rfl
      · rfl
    · intro u hu
      obtain ⟨z, _, rfl⟩ := List.mem_map.1 hu
      rfl
    · intro v' w' h1 h2 _
      refine h v' w' ?_ h2
      show w'.ownsRow base 3 1 v' (d ++ e).length ((d ++ e).map nv)
      rw [List.length_append, List.map_append]
      exact h1
theorem st_one (w : World) (i : Nat) : St (w.alloc (.cells #[.int .i64 i] 3)) (some ⟨w.heap.size, 0, none⟩) 1 [i] := by
  refine ⟨fun j hj => ⟨w.heap.size, 0, rfl, ?_⟩, fun h => by cases h⟩
  have hj' : j < 1 := hj
  obtain rfl : j = 0 := by omega
  exact World.cell?_alloc_at _ _ _ _ rfl
theorem St.any {w : World} {a : Addr} {c c' : Nat} {e : List Nat} (h : St w (some a) c e) : St w (some a) c' e := ⟨h.1, fun h => by cases h⟩
theorem st_none {w : World} {a : Addr} {c : Nat} {e : List Nat} (h : e.length = 0) : St w (some a) c e := ⟨fun j hj => by omega, fun h => by cases h⟩
theorem own_at {b : Nat} {w : World} {q : Option Addr} {i c : Nat} {o : List Nat} (h : OPl b w (.slice q i c) o) : (q = none ∧ i = 0 ∧ c = 0) ∨ ∃ g, q = some ⟨g, 0, none⟩ := by
  rcases h.2 with ⟨h1, h2⟩ | ⟨g, cap, cur, h1, _⟩
  · simp only [Value.slice.injEq] at h1
    exact Or.inl ⟨h1.1, h1.2.1, h1.2.2⟩
  · simp only [Value.slice.injEq] at h1
    exact Or.inr ⟨g, h1.1⟩
theorem own_cap {b : Nat} {w : World} {q : Option Addr} {i c : Nat} {o : List Nat} (h : OPl b w (.slice q i c) o) : i ≤ c := by
  rcases h.2 with ⟨h1, h2⟩ | ⟨g, cap, cur, h1, _, _, h4, _⟩
  · simp only [Value.slice.injEq] at h1; omega
  · simp only [Value.slice.injEq] at h1
    have hl := OR.len h
    omega
theorem st_nil {b : Nat} {w W : World} {o : List Nat} {i : Nat} (h : OPl b w (.slice none i 0) o) (_hl : o.length = i) {k : Nat} : St W none 0 (o.drop k) := by
  have : o.length = 0 := by
    rcases h.2 with ⟨_, h2⟩ | ⟨g, cap, cur, h1, _⟩
    · exact h2
    · simp only [Value.slice.injEq] at h1
      cases h1.1
  refine ⟨fun j hj => ?_, fun _ => ⟨?_, rfl⟩⟩
  · rw [List.length_drop] at hj; omega
  · rw [List.length_drop]; omega
theorem st_take {b : Nat} {w : World} {q : Option Addr} {i c k : Nat} {o : List Nat} (h : OPl b w (.slice q i c) o) (hl : o.length = i) (hk : k ≤ i) : St w q c (o.take k) := by
  refine ⟨fun j hj => ?_, fun hq => ?_⟩
  · rw [List.length_take] at hj
    rcases own_at h with ⟨rfl, h0, _⟩ | ⟨g, rfl⟩
    · omega
    · refine ⟨g, 0, rfl, ?_⟩
      rw [Nat.zero_add, take_at (by omega)]
      exact OR.cell h (by omega)
  · subst hq
    rcases own_at h with ⟨_, h0, h1⟩ | ⟨g, h1⟩
    · rw [List.length_take]; exact ⟨by omega, h1⟩
    · cases h1
theorem st_drop {b : Nat} {w : World} {g i c k c' : Nat} {o : List Nat} (h : OPl b w (.slice (some ⟨g, 0, none⟩) i c) o) (hl : o.length = i) (hk : k ≤ i) : St w (some ⟨g, k, none⟩) c' (o.drop k) := by
  refine ⟨fun j hj => ⟨g, k, rfl, ?_⟩, fun h => by cases h⟩
  rw [List.length_drop] at hj
  rw [getElem!_pos _ j (by rw [List.length_drop]; omega), List.getElem_drop]
  have := OR.cell h (i := k + j) (by omega)
  rw [getElem!_pos o (k + j) (by omega)] at this
  exact this
/-- How far back: behind k all stand behind the i-th. -/
def Back (P : Nat → Plt) (i : Nat) (o : List Nat) (k : Nat) : Prop := k ≤ i ∧ ∀ j, k ≤ j → j < i → kAt P i < kAt P o[j]!
theorem Back.start (P : Nat → Plt) (i : Nat) (o : List Nat) : Back P i o i := ⟨Nat.le_refl _, fun j h1 h2 => by omega⟩
theorem cmp_neg {p q : Plt} (hp : p.Fit) (hq : q.Fit) : cmp5 p q < 0 ↔ rk p < rk q := by
  rw [cmp5_rk hp hq]
  unfold cmpN
  constructor
  · intro h
    split at h
    · assumption
    · split at h <;> omega
  · intro h
    rw [if_pos h]; omega
theorem Back.next {P : Nat → Plt} {i k : Nat} {o : List Nat} (h : Back P i o (k + 1)) (ho : InOrd P i o) (hn : i < 2 ^ 64) (hc : rk (P i) < rk (P o[k]!)) : Back P i o k := by
  refine ⟨by have := h.1; omega, fun j h1 h2 => ?_⟩
  rcases Nat.lt_or_ge k j with h3 | h3
  · exact h.2 j (by omega) h2
  · obtain rfl : j = k := by omega
    have := ho.at h2
    unfold kAt
    omega
theorem Back.stop {P : Nat → Plt} {i k : Nat} {o : List Nat} (h : Back P i o k) (ho : InOrd P i o) (hn : i < 2 ^ 64) (hc : ∀ m, k = m + 1 → rk (P o[m]!) ≤ rk (P i)) : InOrd P (i + 1) (o.take k ++ i :: o.drop k) := by
  refine ho.ins h.1 (fun j hj => ?_) h.2
  have h1 := h.1
  obtain ⟨m, rfl⟩ : ∃ m, k = m + 1 := ⟨k - 1, by omega⟩
  have h2 := hc m rfl
  have h3 := ho.at (show j < i by omega)
  have h4 : rk (P o[j]!) ≤ rk (P o[m]!) := by
    rcases Nat.lt_or_ge j m with h5 | h5
    · exact ho.le hn h5 (by omega)
    · obtain rfl : j = m := by omega
      exact Nat.le_refl _
  unfold kAt
  omega
end Go.Proofs.Ytijfmaepoamkgaa
