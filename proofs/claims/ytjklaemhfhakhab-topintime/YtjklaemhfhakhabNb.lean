/- The load of tasks whose periods divide 24; what TopInTime keeps. -/
import Derived.Test.YtjklaemhfhakhabNa
namespace Go.Proofs.Ytjklaemhfhakhab
open Go.ChangeShapes Go.WideShapes Go.ChangeAt Go.RowKit

theorem loadS_24 {a d e l : Nat} (hd : d ∣ 24) (he : e ∣ 24) (hl : l ≤ 12) {B : Nat} (ha : a + 12 ≤ B) (hB : B ≤ 4611686018427387904 / 25) : ∃ a' d', loadS a d e l = some (a', d') ∧ d' ∣ 24 ∧ a' + 12 ≤ 25 * B := by
  have d0 : 0 < d := Nat.pos_of_dvd_of_pos hd (by decide)
  have e0 : 0 < e := Nat.pos_of_dvd_of_pos he (by decide)
  have hg : 0 < Nat.gcd d e := Nat.gcd_pos_of_pos_left _ d0
  have k1 : e / Nat.gcd d e ≤ 24 := Nat.le_trans (Nat.div_le_self _ _) (Nat.le_of_dvd (by decide) he)
  have k2 : d / Nat.gcd d e ≤ 24 := Nat.le_trans (Nat.div_le_self _ _) (Nat.le_of_dvd (by decide) hd)
  have hD : d / Nat.gcd d e * e ∣ 24 := by
    have h1 := Nat.lcm_dvd hd he
    have h2 : Nat.lcm d e = d / Nat.gcd d e * e := by
      obtain ⟨d1, hd1⟩ := Nat.gcd_dvd_left d e
      unfold Nat.lcm
      have q1 : d / Nat.gcd d e = d1 := by rw [Nat.div_eq_of_eq_mul_right hg hd1]
      rw [q1]
      conv => lhs; arg 1; rw [hd1]
      rw [Nat.mul_assoc, Nat.mul_div_cancel_left _ hg]
    rwa [h2] at h1
  have hDle := Nat.le_of_dvd (by decide) hD
  have n1 : a * (e / Nat.gcd d e) ≤ a * 24 := Nat.mul_le_mul_left _ k1
  have n2 : l * (d / Nat.gcd d e) ≤ 12 * 24 := Nat.mul_le_mul hl k2
  unfold loadS
  simp only
  have hN : a * (e / Nat.gcd d e) + l * (d / Nat.gcd d e) ≤ a * 24 + 12 * 24 := by omega
  generalize a * (e / Nat.gcd d e) + l * (d / Nat.gcd d e) = N at *
  rw [if_neg (by omega)]
  refine ⟨_, _, rfl, Nat.dvd_trans (Nat.div_dvd_of_dvd (Nat.gcd_dvd_right _ _)) hD, ?_⟩
  have := Nat.div_le_self N (Nat.gcd N (d / Nat.gcd d e * e))
  omega
theorem loadN_24 {E L : Nat → Nat} : ∀ k, k ≤ 6 → (∀ i, i < k → E i ∣ 24 ∧ L i ≤ 12) → ∃ a d, loadN E L k = some (a, d) ∧ d ∣ 24 ∧ a + 12 ≤ 12 * 25 ^ k
  | 0, _, _ => ⟨0, 1, rfl, ⟨24, rfl⟩, by decide⟩
  | k + 1, hk, h => by
    obtain ⟨a, d, h1, h2, h3⟩ := loadN_24 k (by omega) (fun i hi => h i (by omega))
    have hp : 25 ^ k ≤ 25 ^ 5 := Nat.pow_le_pow_right (by decide) (by omega)
    have h5 : 25 ^ 5 = 9765625 := by decide
    obtain ⟨a', d', k1, k2, k3⟩ := loadS_24 h2 (h k (by omega)).1 (h k (by omega)).2 h3 (by omega)
    rw [loadN, h1]
    refine ⟨a', d', k1, k2, ?_⟩
    rw [Nat.pow_succ]
    omega
/-- The tasks of the law. -/
structure OkT (t : Tk) : Prop where
  e2 : 2 ≤ t.e
  e12 : t.e ≤ 12
  d : t.e ∣ 24
  l1 : 1 ≤ t.l
  l : t.l ≤ t.e
theorem OkT.may {t : Tk} (h : OkT t) : MayT t.e t.l := ⟨h.l1, h.l, by have := h.e12; omega⟩
def allN (k : Nat) : Int := if k = 0 then 1 else 24
theorem allN_in (k : Nat) : 1 ≤ allN k ∧ allN k ≤ 24 := by
  unfold allN
  split <;> omega
theorem load_ok {N : Nat} {T : Nat → Tk} (hN : N ≤ 6) (h : ∀ i, i < N → OkT (T i)) : ∃ a d, loadN (fun i => (T i).e.toNat) (fun i => (T i).l.toNat) N = some (a, d) ∧ 1 ≤ d ∧ d ≤ 24 ∧ a ≤ 3000000000 := by
  obtain ⟨a, d, h1, h2, h3⟩ := loadN_24 (E := fun i => (T i).e.toNat) (L := fun i => (T i).l.toNat) N hN (fun i hi => by
    have k := h i hi
    have a := k.e2
    have b := k.e12
    have c := k.l
    refine ⟨?_, by show (T i).l.toNat ≤ 12; omega⟩
    have e : (((T i).e.toNat : Nat) : Int) = (T i).e := by omega
    have d := k.d
    rw [← e] at d
    exact Int.natCast_dvd_natCast.1 d)
  have hp : 25 ^ N ≤ 25 ^ 6 := Nat.pow_le_pow_right (by decide) hN
  have h5 : 25 ^ 6 = 244140625 := by decide
  exact ⟨a, d, h1, Nat.pos_of_dvd_of_pos h2 (by decide), Nat.le_of_dvd (by decide) h2, by omega⟩
/-- A table's value. -/
def tb (r : Nat) : Int := if r = 0 then 2 else if r = 1 then 3 else if r = 2 then 4 else if r = 3 then 6 else if r = 4 then 8 else 12
theorem tb_ok {r : Nat} : 2 ≤ tb r ∧ tb r ≤ 12 ∧ tb r ∣ 24 := by
  unfold tb
  split
  · decide
  split
  · decide
  split
  · decide
  split
  · decide
  split <;> decide
theorem tb_cell (w : World) (t : TypeId) {r : Nat} (hr : r < 6) : (w.alloc (.cells #[.int .i64 2, .int .i64 3, .int .i64 4, .int .i64 6, .int .i64 8, .int .i64 12] t)).cell? ⟨w.heap.size, r, none⟩ = some (.int .i64 (tb r)) := by
  have e := heap_alloc_last w (.cells #[.int .i64 2, .int .i64 3, .int .i64 4, .int .i64 6, .int .i64 8, .int .i64 12] t)
  rcases (show r = 0 ∨ r = 1 ∨ r = 2 ∨ r = 3 ∨ r = 4 ∨ r = 5 by omega) with rfl | rfl | rfl | rfl | rfl | rfl
  all_goals exact (row_cell e _).1
/-- Tasks gathered. -/
structure GT (w : World) (k : Nat) (v : Value) (D : List Tk) (wr : World) : Prop where
  tO : TO w.heap.size wr v D
  len : D.length = k
  ok : ∀ i, i < k → OkT (D.getD i Tk.zero)
  up : Up w wr
theorem GT.next {w : World} {k : Nat} {v v' : Value} {D : List Tk} {wr w' : World} {t : Tk} (h : GT w k v D wr) (ht : OkT t) (h1 : TO w.heap.size w' v' (D ++ [t])) (h2 : Up w w') : GT w (k + 1) v' (D ++ [t]) w' := by
  have hl := h.len
  refine ⟨h1, by simp [hl], fun i hi => ?_, h2⟩
  rw [List.getD_eq_getElem?_getD]
  rcases Nat.lt_or_ge i k with q1 | q1
  · rw [List.getElem?_append_left (by omega), ← List.getD_eq_getElem?_getD]
    exact h.ok i q1
  · obtain rfl : i = k := by omega
    rw [List.getElem?_append_right (by omega), hl]
    simpa using ht
/-- A slice of one, made. -/
abbrev cS (W : World) (z : Obj) : Value → World → Prop := fun u w => ∃ b, u = .slice (some ⟨b, 0, none⟩) 1 1 ∧ W.heap.size ≤ b ∧ Hid (w.heap[b]? = some z)
theorem mS (W : World) (z : Obj) : MonoT (cS W z) := fun _ _ _ ⟨b, h1, h2, h3⟩ hu => ⟨b, h1, h2, kept2 h3.out hu⟩
theorem UpO.bs {P : Program} {ops : Array Oper} {W : World} {z : Obj} {o : Oper} {a : Act} {w : World} (hu : Up W w) (hg : o.guard = none) (h : (execOp a.eval o).run P w = .ok (.value (.slice (some ⟨w.heap.size, 0, none⟩) 1 1)) (w.alloc z)) : UpO P ops (cS W z) o a w :=
  Or.inl ⟨by simp [Region.wanted, hg], by rw [h]; exact ⟨⟨_, rfl, hu.size, heap_alloc_last w z⟩, Up.alloc _ _⟩⟩
theorem wpList_pushB {ops : Array Oper} {rest : List Oper} {o : Oper} {a : Act} {Q : Exit → Act → World → Prop} (hgd : o.guard = none) (s x : Operand) (ho : o.op = .call { callee := .builtin .append, args := #[s, x], argTypes := #[23, 23] })
    {b g : Nat} {w : World} {z : Tk} (p : Option Addr) (m c : Nat) (D : List Tk) (hs : a.eval s = .slice p m c) (hx : a.eval x = .slice (some ⟨g, 0, none⟩) 1 1) (HO : TO b w (.slice p m c) D) (hb : b ≤ w.heap.size) (hm : m ≤ 2000000) (hz : w.heap[g]? = some (.cells #[.int .i64 z.e, .int .i64 z.l, .int .i64 z.r] 26))
    (h : ∀ p' c' w', Hid (TO b w' (.slice p' (m + 1) c') (D ++ [z])) → Hid (w.grownBy w' (Value.slice p m c).ownBlock) → wpList Try.prog ops Q rest (a.put o.dst (.slice p' (m + 1) c')) w') : wpList Try.prog ops Q (o :: rest) a w := by
  obtain ⟨i0, hi, hz0, hz2, hz3⟩ := info_parts info26
  have hl := TO.len HO
  have HO' : w.ownsRow b 26 3 (.slice p m c) m (fl3 D) := by have := HO; unfold TO at this; rwa [hl] at this
  refine wpList_append_own_at _ hgd s x 23 ho b 26 i0 (.agg #[.int .i64 0, .int .i64 0, .int .i64 0]) 3 24 Try.underlying23 hi hz0 hz2 hz3 rfl (by decide) _ _ _ hs HO' ⟨g, 0, none⟩ 1 1 (tL z) hx rfl ?_ (tk_one _) (by unfold maxLen; omega) (by omega) (by omega) ?_
  · intro j u hj
    rw [addr_add, Nat.zero_add]
    rw [(row_cell hz j).1]
    have : (tL z).toArray = #[.int .i64 z.e, .int .i64 z.l, .int .i64 z.r] := rfl
    rw [← this, List.getElem?_toArray]
    exact hj
  intro v' w' h1 h2 _ h4
  obtain ⟨p', c', hv, _⟩ := own_form h1
  subst hv
  refine h p' c' w' ?_ h2
  show w'.ownsRow b 26 3 _ (D ++ [z]).length (fl3 (D ++ [z]))
  unfold fl3 at *
  rw [List.length_append, hl, List.flatMap_append]
  simpa using h1
end Go.Proofs.Ytjklaemhfhakhab
