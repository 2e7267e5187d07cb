/- slices.Grow of none, a row of floats appended to one's own, slices.Concat of two. -/
import Derived.Test.YtephkmahnbhmbaaHa
import Derived.Lib.AppendZeros
import Derived.Deep.Upon
import Derived.Deep.AppendLies
namespace Go.Proofs.Ytephkmahnbhmbaa
open Go.ChangeShapes Go.WideShapes Go.ChangeAt Go.RowKit Go.Fl Go.Sort
attribute [local go_sem] run_store_float call52 run_neg fold_eq fold_ne fold_lt fold_gt abs_eq

set_option maxRecDepth 20000 in
theorem app_sv {w : World} {base m c ty : Nat} {p q : Option Addr} {n cq : Nat} {O : List Nat} {d : Array Nat} (hown : w.ownsRow base 24 1 (.slice p m c) m (O.map fe)) (hv : SV w q n cq d) (hmn : m + n ≤ 1000000) (hbase : base ≤ w.heap.size) :
    ∃ p' c' w', (Builtin.append_ #[23, 23] ty #[.slice p m c, .slice q n cq]).run Try.prog w = .ok (.slice p' (m + n) c') w' ∧ w'.ownsRow base 24 1 (.slice p' (m + n) c') (m + n) ((O ++ d.toList).map fe) ∧ w.grownBy w' (Value.slice p m c).ownBlock := by
  obtain ⟨i0, hi, hz0, hz1, hz2⟩ := info_parts info23
  have hmc : m ≤ c := by
    rcases hown.2 with ⟨e, h0⟩ | ⟨g, c0, cur, e, _, _, h4, _⟩
    · simp only [Value.slice.injEq] at e; omega
    · simp only [Value.slice.injEq] at e; omega
  rcases Nat.eq_zero_or_pos n with rfl | hp
  · have hd : d.toList = [] := by have := hv.len; simpa using this
    refine ⟨p, c, w, ?_, ?_, World.grownBy.refl _ _⟩
    · refine run_append_nothing w 23 23 ty 24 i0 Try.underlying23 hi _ m c hmc _ ?_
      cases q with
      | none => exact Src.ofNil w Try.underlying23 cq
      | some a => exact Src.ofSlice w Try.underlying23 a 0 cq [] (by simp) (fun j u h => by simp at h) (fun u h => by cases h)
    · rw [hd, List.append_nil]; exact hown
  · obtain ⟨b, o, rfl, hr⟩ := hv.rd hp
    obtain ⟨g, cap, w', h1, h2, h3, h4, _⟩ := run_append_lies (P := Try.prog) w 23 ty base 24 i0 (.float .f64 0) 1 8 Try.underlying23 hi hz0 hz1 hz2 rfl (by omega) (.slice p m c) m (O.map fe) hown ⟨b, o, none⟩ n cq (d.toList.map fe) (by simp [hv.len]) (reads_news hr) (one_cells _) hp (by unfold maxLen; omega) (by omega) hbase w.heap.size rfl
    exact ⟨_, cap, w', h1, by rw [List.map_append]; exact h2, h3⟩
set_option maxRecDepth 20000 in
theorem wpList_app_sv {ops : Array Oper} {rest : List Oper} {o : Oper} {a : Act} {w : World} {Q : Exit → Act → World → Prop} (hgd : o.guard = none) (s x : Operand)
    (ho : o.op = .call { callee := .builtin .append, args := #[s, x], argTypes := #[23, 23] })
    (base m c : Nat) (p q : Option Addr) (n cq : Nat) (O : List Nat) (d : Array Nat) (hs : a.eval s = .slice p m c) (hx : a.eval x = .slice q n cq) (hown : w.ownsRow base 24 1 (.slice p m c) m (O.map fe)) (hv : SV w q n cq d) (hmn : m + n ≤ 1000000) (hbase : base ≤ w.heap.size)
    (h : ∀ p' c' w', w'.ownsRow base 24 1 (.slice p' (m + n) c') (m + n) ((O ++ d.toList).map fe) → w.grownBy w' (Value.slice p m c).ownBlock → wpList Try.prog ops Q rest (a.put o.dst (.slice p' (m + n) c')) w') : wpList Try.prog ops Q (o :: rest) a w := by
  refine wpList_plain hgd fun K hK => ?_
  obtain ⟨p', c', w', h1, h2, h3⟩ := app_sv (ty := o.type) hown hv hmn hbase
  unfold Oper.wp execOp
  simp only [ho, resolve, invoke, builtin, Sem.run_bind, Sem.run_pure, Result.andThen_ok, List.map_toArray, List.map_cons, List.map_nil, hs, hx, h1]
  exact hK _ _ (h p' c' w' h2 h3)
/-- A row of one's own can be read. -/
theorem sv_own {b : Nat} {w : World} {p : Option Addr} {n cap : Nat} {d : Array Nat} (h : w.ownsRow b 24 1 (.slice p n cap) n (d.toList.map fe)) (hl : d.size = n) (hF : Fit d) : SV w p n cap d := by
  refine ⟨hl, ?_, hF, fun hp => ?_⟩
  · rcases h.2 with ⟨e, h0⟩ | ⟨g, c0, cur, e, _, _, h4, _⟩
    · simp only [Value.slice.injEq] at e; omega
    · simp only [Value.slice.injEq] at e; omega
  · subst hl
    obtain ⟨g, c, e, _, _, r⟩ := own_reads (own_of hp h)
    simp only [Value.slice.injEq] at e
    exact ⟨g, 0, e.1, r⟩
theorem fit_app {a b : Array Nat} (ha : Fit a) (hb : Fit b) : Fit (a ++ b) := by
  intro i hi
  have hi' : i < a.size + b.size := by simpa using hi
  rw [getElem!_pos _ i hi, Array.getElem_append]
  split
  · rename_i h; have := ha i h; rwa [getElem!_pos a i h] at this
  · rename_i h; have := hb (i - a.size) (by omega); rwa [getElem!_pos b _ (by omega)] at this
theorem zeros_own (w : World) (G : Nat) (hG : G ≤ maxLen) (cs : Array Value) (hs : cs.size = G) : (w.alloc (.cells cs 24)).ownsRow w.heap.size 24 1 (.slice (some ⟨w.heap.size, 0, none⟩) 0 G) 0 [] :=
  ⟨by simp, .inr ⟨w.heap.size, G, cs, rfl, Nat.le_refl _, heap_alloc_last _ _, Nat.zero_le _, hG, by simpa using hs, by simp⟩⟩
set_option maxRecDepth 20000 in
theorem wpList_zeros {ops : Array Oper} {rest : List Oper} {o : Oper} {a : Act} {w : World} {Q : Exit → Act → World → Prop} (hgd : o.guard = none) (s x : Operand)
    (ho : o.op = .call { callee := .builtin .append, args := #[s, x], argTypes := #[23, 3] }) (n : Nat) (hs : a.eval s = .slice none 0 0) (hx : a.eval x = .int .i64 n) (hp : 0 < n) (hn : n ≤ 1000000)
    (h : ∀ G w', n ≤ G → G ≤ 9223372036854775807 → Hid (w'.ownsRow w.heap.size 24 1 (.slice (some ⟨w.heap.size, 0, none⟩) 0 G) 0 []) → Hid (Up w w') → wpList Try.prog ops Q rest (a.put o.dst (.slice (some ⟨w.heap.size, 0, none⟩) n G)) w') : wpList Try.prog ops Q (o :: rest) a w := by
  obtain ⟨i0, hi, hz0, hz1, hz2⟩ := info_parts info23
  have hrun := Lib.run_append_nil_zeros (P := Try.prog) w 23 3 o.type 24 i0 (.float .f64 0) .i64 .i64 Try.underlying23 Try.underlying3 hi hz0 n hp (by omega) (by omega) (by rw [hz2]; omega)
  have hG := grownCap_ge w n 0 24
  have hGm := grownCap_le_maxLen w n 0 24 (by unfold maxLen; omega)
  generalize grownCap w n 0 24 = G at hrun hG hGm
  refine wpList_plain hgd fun K hK => ?_
  unfold Oper.wp execOp
  simp only [ho, resolve, invoke, builtin, Sem.run_bind, Sem.run_pure, Result.andThen_ok, List.map_toArray, List.map_cons, List.map_nil, hs, hx, hrun]
  refine hK _ _ (h G _ hG (by unfold maxLen at hGm; omega) ?_ ((Up.drewN w 1).trans (Up.alloc _ _)))
  exact zeros_own w.drew G hGm _ (by rw [Array.size_append, size_zeroCells, size_zeroCells]; simp [Value.cells]; omega)
theorem cell_up {w w' : World} {b k : Nat} {v : Value} (h : w.cell? ⟨b, k, none⟩ = some v) (hu : Up w w') : w'.cell? ⟨b, k, none⟩ = some v := by
  obtain ⟨c, e, fr, hb, _⟩ := cells_of_cell? h
  rw [RowKit.Below.cell hu (Array.getElem?_eq_some_iff.1 hb).1]; exact h
theorem grown_up {w0 w w' : World} {row : Option Nat} (hu : Up w0 w) (hg : w.grownBy w' row) (hb : ∀ j, row = some j → w0.heap.size ≤ j) : Up w0 w' := RowKit.Below.grown hu hg (RowKit.Below.size hu) hb
/-- What a call leaves that hands back a row of floats. -/
def RV (w : World) (n : Nat) (d : Array Nat) (e : Ending) (w' : World) : Prop := ∃ p c, e = .returned (.slice p n c) ∧ Hid (SV w' p n c d) ∧ Hid (Up w w')
end Go.Proofs.Ytephkmahnbhmbaa
