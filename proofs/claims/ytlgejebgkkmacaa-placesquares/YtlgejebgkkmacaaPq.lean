/- Rows of points of one's own. -/
import Derived.Test.YtlgejebgkkmacaaPl
import Derived.Deep.Upon
import Derived.Deep.AppendLies
namespace Go.Proofs.Ytlgejebgkkmacaa
open Go.ChangeShapes Go.WideShapes Go.ChangeAt Go.RowKit Go.Fl Ieee
attribute [local go_sem] run_store_float run_store_complex call39 call50 run_neg fold_eq fold_ne fold_lt fold_gt abs_eq

theorem info24 : (Try.prog.info? 24).map (fun i => (i.zero, i.size, i.bytes)) = some (some (.agg #[.float .f64 0, .float .f64 0]), 2, 16) := by kernel_rfl
theorem se_one (d : List (Nat × Nat)) : ∀ u ∈ d.flatMap se, u.oneCell' = true := by
  intro u hu
  obtain ⟨p, _, hp⟩ := List.mem_flatMap.1 hu
  exact two_cell p.1 p.2 u hp
theorem pv_news {w : World} {b o n : Nat} {f : Nat → Nat × Nat} (h : PV w b o n f) : ∀ (j : Nat) (u : Value), (((List.range n).map f).flatMap se)[j]? = some u → w.cell? ((⟨b, o, none⟩ : Addr).add j) = some u := by
  intro j u hj
  have hlt : j < n * 2 := by
    have := (List.getElem?_eq_some_iff.1 hj).1
    rw [flat_len] at this
    simpa using this
  have ea : (⟨b, o, none⟩ : Addr).add j = ⟨b, o + j, none⟩ := by
    unfold Addr.add
    split
    · rename_i h0; rw [h0]; rfl
    · rfl
  rw [ea]
  obtain ⟨i, hi⟩ : ∃ i, j = i * 2 ∨ j = i * 2 + 1 := ⟨j / 2, by omega⟩
  have hin : i < n := by omega
  have g := flat_get ((List.range n).map f) i (by simpa using hin)
  have e : ((List.range n).map f)[i]! = f i := by
    rw [getElem!_pos _ i (by simpa using hin)]; simp
  rw [e] at g
  rcases hi with rfl | rfl
  · rw [g.1] at hj
    rw [(h i hin).1]; exact hj
  · rw [g.2] at hj
    rw [← Nat.add_assoc, (h i hin).2]; exact hj
/-- A row of points of one's own. -/
def PRow (b : Nat) (w : World) (v : Value) (d : List (Nat × Nat)) : Prop := w.ownsRow b 24 2 v d.length (d.flatMap se)
theorem PRow.up {b : Nat} {w w' : World} {v : Value} {d : List (Nat × Nat)} (h : PRow b w v d) (hu : Up w w') : PRow b w' v d := owns_up h hu
theorem PRow.nil (w : World) (b : Nat) : PRow b w (.slice none 0 0) [] := World.ownsRow_nil _ _ _ _
theorem PRow.pv {b : Nat} {w : World} {v : Value} {d : List (Nat × Nat)} (h : PRow b w v d) : ∃ p c, v = .slice p d.length c ∧ LV w p d.length (fun j => d[j]!) ∧ d.length ≤ c := by
  rcases h.2 with ⟨e, h0⟩ | ⟨g, cap, cur, e, h2, h3, h4, h5⟩
  · refine ⟨none, 0, by rw [h0]; exact e, fun hn => by omega, by omega⟩
  · refine ⟨some ⟨g, 0, none⟩, cap, e, fun hn => ⟨g, 0, rfl, fun j hj => ?_⟩, h4⟩
    subst e
    rw [World.ownsRow.cellAt h (0 + j * 2) (by omega), World.ownsRow.cellAt h (0 + j * 2 + 1) (by omega), Nat.zero_add]
    exact flat_get d j hj
theorem app_pt {w : World} {base m c ty : Nat} {p q : Option Addr} {n cq : Nat} {O : List (Nat × Nat)} {f : Nat → Nat × Nat} (hm : O.length = m) (hown : PRow base w (.slice p m c) O) (hv : LV w q n f) (hmn : (m + n) * 16 ≤ 140737488355328) (hbase : base ≤ w.heap.size) :
    ∃ p' c' w', (Builtin.append_ #[38, 38] ty #[.slice p m c, .slice q n cq]).run Try.prog w = .ok (.slice p' (m + n) c') w' ∧ PRow base w' (.slice p' (m + n) c') (O ++ (List.range n).map f) ∧ w.grownBy w' (Value.slice p m c).ownBlock ∧ ((Value.slice p' (m + n) c').ownBlock = (Value.slice p m c).ownBlock ∨ (Value.slice p' (m + n) c').ownBlock = some w.heap.size) := by
  obtain ⟨i0, hi, hz0, hz1, hz2⟩ := info_parts info24
  subst hm
  have hmc : O.length ≤ c := by
    rcases hown.2 with ⟨e, h0⟩ | ⟨g, c0, cur, e, _, _, h4, _⟩
    · simp only [Value.slice.injEq] at e; omega
    · simp only [Value.slice.injEq] at e; omega
  rcases Nat.eq_zero_or_pos n with rfl | hp
  · refine ⟨p, c, w, ?_, ?_, World.grownBy.refl _ _, Or.inl rfl⟩
    · refine run_append_nothing w 38 38 ty 24 i0 Try.underlying38 hi _ O.length c hmc _ ?_
      cases q with
      | none => exact Src.ofNil w Try.underlying38 cq
      | some a => exact Src.ofSlice w Try.underlying38 a 0 cq [] (by simp) (fun j u h => by simp at h) (fun u h => by cases h)
    · simpa using hown
  · obtain ⟨b, o, rfl, hr⟩ := hv hp
    obtain ⟨g, cap, w', h1, h2, h3, h4, _⟩ := run_append_lies (P := Try.prog) w 38 ty base 24 i0 (.agg #[.float .f64 0, .float .f64 0]) 2 16 Try.underlying38 hi hz0 hz1 hz2 rfl (by omega) (.slice p O.length c) O.length (O.flatMap se) hown ⟨b, o, none⟩ n cq (((List.range n).map f).flatMap se) (by rw [flat_len]; simp) (pv_news hr) (se_one _) hp (by unfold maxLen; omega) (by omega) hbase w.heap.size rfl
    refine ⟨_, cap, w', h1, ?_, h3, ?_⟩
    rotate_left
    · rcases h4 with h4 | h4
      · left; rw [h4]; rfl
      · right; rw [h4]; rfl
    unfold PRow
    rw [List.flatMap_append, List.length_append, List.length_map, List.length_range]
    exact h2
theorem wpList_app_pt {ops : Array Oper} {rest : List Oper} {o : Oper} {a : Act} {w : World} {Q : Exit → Act → World → Prop} (hgd : o.guard = none) (s x : Operand)
    (ho : o.op = .call { callee := .builtin .append, args := #[s, x], argTypes := #[38, 38] })
    (base m c : Nat) (p q : Option Addr) (n cq : Nat) (O : List (Nat × Nat)) (f : Nat → Nat × Nat) (hs : a.eval s = .slice p m c) (hx : a.eval x = .slice q n cq) (hm : O.length = m) (hown : PRow base w (.slice p m c) O) (hv : LV w q n f) (hmn : (m + n) * 16 ≤ 140737488355328) (hbase : base ≤ w.heap.size)
    (h : ∀ p' c' w', PRow base w' (.slice p' (m + n) c') (O ++ (List.range n).map f) → w.grownBy w' (Value.slice p m c).ownBlock → ((Value.slice p' (m + n) c').ownBlock = (Value.slice p m c).ownBlock ∨ (Value.slice p' (m + n) c').ownBlock = some w.heap.size) → wpList Try.prog ops Q rest (a.put o.dst (.slice p' (m + n) c')) w') : wpList Try.prog ops Q (o :: rest) a w := by
  refine wpList_plain hgd fun K hK => ?_
  obtain ⟨p', c', w', h1, h2, h3, h4⟩ := app_pt (ty := o.type) (cq := cq) hm hown hv hmn hbase
  unfold Oper.wp execOp
  simp only [ho, resolve, invoke, builtin, Sem.run_bind, Sem.run_pure, Result.andThen_ok, List.map_toArray, List.map_cons, List.map_nil, hs, hx, h1]
  exact hK _ _ (h p' c' w' h2 h3 h4)
theorem PRow.lt {b : Nat} {w : World} {v : Value} {d : List (Nat × Nat)} (h : PRow b w v d) : ∀ j, v.ownBlock = some j → b ≤ j := fun j hj => (World.ownsRow.lt h j hj).1
/-- Of what was there ahead of the row nothing has turned. -/
theorem grown_up {w0 w w' : World} {v : Value} {d : List (Nat × Nat)} (h : PRow w0.heap.size w v d) (hu : Up w0 w) (hg : w.grownBy w' v.ownBlock) : Up w0 w' :=
  Below.grown hu hg hu.size fun j hj => h.lt j hj
theorem lv_one (w : World) (x y : Nat) : LV (w.alloc (.cells #[.float .f64 x, .float .f64 y] 24)) (some ⟨w.heap.size, 0, none⟩) 1 (fun _ => (x, y)) := fun _ => ⟨_, _, rfl, fun j hj => by
  obtain rfl : j = 0 := by omega
  exact ⟨World.cell?_alloc_at _ _ _ _ rfl, World.cell?_alloc_at _ _ _ _ rfl⟩⟩
end Go.Proofs.Ytlgejebgkkmacaa
