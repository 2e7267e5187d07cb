/- Tasks that are copied into a row of one's own, a mark behind them. -/
import Derived.Test.YtjklaemhfhakhaaXa
import Derived.Test.YtjklaemhfhakhaaGa
import Derived.Test.YtjklaemhfhakhaaNc
import Derived.Deep.AppendLies
namespace Go.Proofs.Ytjklaemhfhakhaa
open Go.ChangeShapes Go.WideShapes Go.ChangeAt Go.RowKit

def tkE (T : Nat → Tk) (n : Nat) : List Tk := (List.range n).map T
theorem tkE_len (T : Nat → Tk) (n : Nat) : (tkE T n).length = n := by simp [tkE]
theorem tkE_get (T : Nat → Tk) {n i : Nat} (h : i < n) : (tkE T n).getD i Tk.zero = T i := by
  unfold tkE
  rw [List.getD_eq_getElem?_getD, List.getElem?_map, List.getElem?_range h]
  rfl
theorem fl3_one (D : List Tk) : ∀ u ∈ fl3 D, u.oneCell' = true := by
  intro u hu
  obtain ⟨s, _, hs⟩ := List.mem_flatMap.1 hu
  exact tk_one s u hs
theorem tks_news {w : World} {b o n : Nat} {T : Nat → Tk} (hr : ∀ i, i < n → TkAt w b (o + i * 3) (T i)) : ∀ (j : Nat) (u : Value), (fl3 (tkE T n))[j]? = some u → w.cell? ((⟨b, o, none⟩ : Addr).add j) = some u := by
  intro j u hu
  have hj : j < n * 3 := by
    have := (List.getElem?_eq_some_iff.1 hu).1
    rwa [fl3_len, tkE_len] at this
  have hi : j / 3 < n := by omega
  obtain ⟨r0, r1, r2⟩ := hr (j / 3) hi
  have hf := fl3_at (D := tkE T n) (i := j / 3) (k := j % 3) (by rw [tkE_len]; exact hi) (by omega)
  rw [show j / 3 * 3 + j % 3 = j by omega, hu, tkE_get T hi] at hf
  rw [addr_add]
  have : j % 3 = 0 ∨ j % 3 = 1 ∨ j % 3 = 2 := by omega
  rcases this with q | q | q
  · rw [q] at hf
    simp only [tL, List.getElem?_cons_zero, Option.some.injEq] at hf
    rw [hf, show o + j = o + j / 3 * 3 by omega]
    exact r0
  · rw [q] at hf
    simp only [tL, List.getElem?_cons_zero, List.getElem?_cons_succ, Option.some.injEq] at hf
    rw [hf, show o + j = o + j / 3 * 3 + 1 by omega]
    exact r1
  · rw [q] at hf
    simp only [tL, List.getElem?_cons_zero, List.getElem?_cons_succ, Option.some.injEq] at hf
    rw [hf, show o + j = o + j / 3 * 3 + 2 by omega]
    exact r2
theorem empty_own (w : World) : (w.alloc (.cells #[] 26)).ownsRow w.heap.size 26 3 (.slice (some ⟨w.heap.size, 0, none⟩) 0 0) 0 [] :=
  ⟨rfl, Or.inr ⟨w.heap.size, 0, #[], rfl, Nat.le_refl _, heap_alloc_last _ _, Nat.le_refl _, by unfold maxLen; omega, rfl, rfl⟩⟩
theorem app_tk {w : World} {base c ty : Nat} {p q : Option Addr} {n cq : Nat} {T : Nat → Tk} (hown : w.ownsRow base 26 3 (.slice p 0 c) 0 []) (hv : TL w q n cq T) (hmn : n * 24 ≤ 140737488355328) (hbase : base ≤ w.heap.size) :
    ∃ p' c' w', (Builtin.append_ #[22, 22] ty #[.slice p 0 c, .slice q n cq]).run Try.prog w = .ok (.slice p' n c') w' ∧ w'.ownsRow base 26 3 (.slice p' n c') n (fl3 (tkE T n)) ∧ w.grownBy w' (Value.slice p 0 c).ownBlock := by
  obtain ⟨i0, hi, hz0, hz1, hz2⟩ := info_parts info26
  rcases Nat.eq_zero_or_pos n with rfl | hp
  · refine ⟨p, c, w, ?_, hown, World.grownBy.refl _ _⟩
    refine run_append_nothing w 22 22 ty 26 i0 Try.underlying22 hi _ 0 c (Nat.zero_le _) _ ?_
    cases q with
    | none => exact Src.ofNil w Try.underlying22 cq
    | some a => exact Src.ofSlice w Try.underlying22 a 0 cq [] (by simp) (fun j u h => by simp at h) (fun u h => by cases h)
  · obtain ⟨b, o, rfl, hr⟩ := hv.rd hp
    obtain ⟨g, cap, w', h1, h2, h3, h4, _⟩ := run_append_lies (P := Try.prog) w 22 ty base 26 i0 (.agg #[.int .i64 0, .int .i64 0, .int .i64 0]) 3 24 Try.underlying22 hi hz0 hz1 hz2 rfl (by omega) (.slice p 0 c) 0 [] hown ⟨b, o, none⟩ n cq (fl3 (tkE T n)) (by rw [fl3_len, tkE_len]) (tks_news hr) (fl3_one _) hp (by unfold maxLen; omega) (by omega) hbase w.heap.size rfl
    rw [Nat.zero_add] at h1 h2
    rw [List.nil_append] at h2
    exact ⟨_, cap, w', h1, h2, h3⟩
theorem wpList_app_tk {ops : Array Oper} {rest : List Oper} {o : Oper} {a : Act} {w : World} {Q : Exit → Act → World → Prop} (hgd : o.guard = none) (s x : Operand)
    (ho : o.op = .call { callee := .builtin .append, args := #[s, x], argTypes := #[22, 22] })
    (base c : Nat) (p q : Option Addr) (n cq : Nat) (T : Nat → Tk) (hs : a.eval s = .slice p 0 c) (hx : a.eval x = .slice q n cq) (hown : w.ownsRow base 26 3 (.slice p 0 c) 0 []) (hv : TL w q n cq T) (hmn : n * 24 ≤ 140737488355328) (hbase : base ≤ w.heap.size)
    (h : ∀ p' c' w', Hid (w'.ownsRow base 26 3 (.slice p' n c') n (fl3 (tkE T n))) → Hid (w.grownBy w' (Value.slice p 0 c).ownBlock) → wpList Try.prog ops Q rest (a.put o.dst (.slice p' n c')) w') : wpList Try.prog ops Q (o :: rest) a w := by
  refine wpList_plain hgd fun K hK => ?_
  obtain ⟨p', c', w', h1, h2, h3⟩ := app_tk (ty := o.type) hown hv hmn hbase
  unfold Oper.wp execOp
  simp only [ho, resolve, invoke, builtin, Sem.run_bind, Sem.run_pure, Result.andThen_ok, List.map_toArray, List.map_cons, List.map_nil, hs, hx, h1]
  exact hK _ _ (h p' c' w' h2 h3)
/-- The mark behind them. -/
theorem wpList_mark {ops : Array Oper} {rest : List Oper} {o : Oper} {a : Act} {Q : Exit → Act → World → Prop} (hgd : o.guard = none) (s x : Operand) (ho : o.op = .call { callee := .builtin .append, args := #[s, x], argTypes := #[22, 22] })
    {b : Nat} {w : World} {z : Tk} (p : Option Addr) (m c : Nat) (xs : List Value) (hs : a.eval s = .slice p m c) (hx : a.eval x = .slice (some ⟨w.heap.size, 0, none⟩) 1 1) (HO : w.ownsRow b 26 3 (.slice p m c) m xs) (hb : b ≤ w.heap.size) (hm : (m + 1) * 24 ≤ 140737488355328)
    (h : ∀ p' c' w', Hid (w'.ownsRow b 26 3 (.slice p' (m + 1) c') (m + 1) (xs ++ tL z)) → Hid ((w.alloc (.cells #[.int .i64 z.e, .int .i64 z.l, .int .i64 z.r] 26)).grownBy w' (Value.slice p m c).ownBlock) → wpList Try.prog ops Q rest (a.put o.dst (.slice p' (m + 1) c')) w') : wpList Try.prog ops Q (o :: rest) a (w.alloc (.cells #[.int .i64 z.e, .int .i64 z.l, .int .i64 z.r] 26)) := by
  obtain ⟨i0, hi, hz0, hz2, hz3⟩ := info_parts info26
  have HO' := World.ownsRow.alloc HO (.cells #[.int .i64 z.e, .int .i64 z.l, .int .i64 z.r] 26)
  refine wpList_append_own_at _ hgd s x 22 ho b 26 i0 (.agg #[.int .i64 0, .int .i64 0, .int .i64 0]) 3 24 Try.underlying22 hi hz0 hz2 hz3 rfl (by decide) _ _ _ hs HO' ⟨w.heap.size, 0, none⟩ 1 1 (tL z) hx rfl (tk_new w z 26) (tk_one _) (by unfold maxLen; omega) (by omega) (by simp; omega) ?_
  intro v' w' h1 h2 _ h4
  obtain ⟨p', c', hv, _⟩ := own_form h1
  subst hv
  exact h p' c' w' h1 h2
/-- A copy of tasks, a mark behind them. -/
structure RM (w : World) (g n : Nat) (D : Nat → Tk) (z : Tk) : Prop where
  at' : ∀ i, i < n → TkAt w g (i * 3) (D i)
  mark : TkAt w g (n * 3) z
  fz : ∀ k, w.frozen? ⟨g, k, none⟩ = false
  lt : g < w.heap.size
theorem RM.of {w : World} {b n : Nat} {v : Value} {T : Nat → Tk} {z : Tk} (h : w.ownsRow b 26 3 v (n + 1) (fl3 (tkE T n) ++ tL z)) : ∃ g c, v = .slice (some ⟨g, 0, none⟩) (n + 1) c ∧ RM w g n T z ∧ b ≤ g ∧ n + 1 ≤ c := by
  rcases h.2 with ⟨h0, h1⟩ | ⟨g, cap', cur, e, h1, h2, h3, h4, h5, h6⟩
  · exfalso
    omega
  · refine ⟨g, cap', e, ?_, h1, h3⟩
    have c : ∀ j v, (fl3 (tkE T n) ++ tL z)[j]? = some v → w.cell? ⟨g, j, none⟩ = some v := fun j v hv => by
      have hj : j < (n + 1) * 3 := by
        have := (List.getElem?_eq_some_iff.1 hv).1
        rw [List.length_append, fl3_len, tkE_len] at this
        simp [tL] at this
        omega
      rw [← h6, List.getElem?_take, if_pos (by omega)] at hv
      unfold World.cell?
      simp only [h2]
      rw [Array.getElem?_toList] at hv
      simpa using hv
    have a1 : ∀ i k v, i < n → k < 3 → (tL (T i))[k]? = some v → w.cell? ⟨g, i * 3 + k, none⟩ = some v := fun i k v hi hk hv => by
      refine c _ _ ?_
      rw [List.getElem?_append_left (by rw [fl3_len, tkE_len]; omega), fl3_at (by rw [tkE_len]; exact hi) hk, tkE_get T hi]
      exact hv
    have a2 : ∀ k v, (tL z)[k]? = some v → w.cell? ⟨g, n * 3 + k, none⟩ = some v := fun k v hv => by
      refine c _ _ ?_
      rw [List.getElem?_append_right (by rw [fl3_len, tkE_len]; omega), fl3_len, tkE_len, Nat.add_sub_cancel_left]
      exact hv
    refine ⟨fun i hi => ⟨a1 i 0 _ hi (by omega) rfl, a1 i 1 _ hi (by omega) rfl, a1 i 2 _ hi (by omega) rfl⟩, ⟨a2 0 _ rfl, a2 1 _ rfl, a2 2 _ rfl⟩, fun k => ?_, ?_⟩
    · exact frozen_of_row _ _ _ _ _ h2
    · exact (Array.getElem?_eq_some_iff.1 h2).1
theorem RM.up {w w' : World} {g n : Nat} {D : Nat → Tk} {z : Tk} (h : RM w g n D z) (hu : Up w w') : RM w' g n D z :=
  ⟨fun i hi => (h.at' i hi).up hu, h.mark.up hu, fun k => (Kp.of_up (F := fun _ => True) hu).frozen (a := ⟨g, k, none⟩) trivial h.lt (h.fz k), Nat.lt_of_lt_of_le h.lt hu.size⟩
theorem TkAt.kp {w w' : World} {g o : Nat} {t : Tk} {F : Nat → Prop} (h : TkAt w g o t) (k : Kp F w w') (hF : F g) : TkAt w' g o t := ⟨k.cell hF h.c0, k.cell hF h.c1, k.cell hF h.c2⟩
theorem RM.kp {w w' : World} {g n : Nat} {D : Nat → Tk} {z : Tk} {F : Nat → Prop} (h : RM w g n D z) (k : Kp F w w') (hF : F g) : RM w' g n D z :=
  ⟨fun i hi => (h.at' i hi).kp k hF, h.mark.kp k hF, fun j => k.frozen (a := ⟨g, j, none⟩) hF h.lt (h.fz j), Nat.lt_of_lt_of_le h.lt k.size⟩
/-- One of them is overwritten. -/
theorem RM.set {w : World} {g n : Nat} {D : Nat → Tk} {z : Tk} (h : RM w g n D z) {i : Nat} (hi : i < n) (e l r : Int) : RM (((w.setCell ⟨g, i * 3, none⟩ (.int .i64 e)).setCell ⟨g, i * 3 + 1, none⟩ (.int .i64 l)).setCell ⟨g, i * 3 + 2, none⟩ (.int .i64 r)) g n (upd D i ⟨e, l, r⟩) z := by
  have A : ∀ a b : Nat, a ≠ b → (⟨g, a, none⟩ : Addr) ≠ ⟨g, b, none⟩ := fun a b hab q => by simp only [Addr.mk.injEq] at q; omega
  have off : ∀ o t, (o < i ∨ i < o) → TkAt w g (o * 3) t → TkAt (((w.setCell ⟨g, i * 3, none⟩ (.int .i64 e)).setCell ⟨g, i * 3 + 1, none⟩ (.int .i64 l)).setCell ⟨g, i * 3 + 2, none⟩ (.int .i64 r)) g (o * 3) t := fun o t ho h => by
    refine ⟨?_, ?_, ?_⟩
    · rw [World.cell?_setCell_other _ _ _ _ (A _ _ (by omega)), World.cell?_setCell_other _ _ _ _ (A _ _ (by omega)), World.cell?_setCell_other _ _ _ _ (A _ _ (by omega))]
      exact h.c0
    · rw [World.cell?_setCell_other _ _ _ _ (A _ _ (by omega)), World.cell?_setCell_other _ _ _ _ (A _ _ (by omega)), World.cell?_setCell_other _ _ _ _ (A _ _ (by omega))]
      exact h.c1
    · rw [World.cell?_setCell_other _ _ _ _ (A _ _ (by omega)), World.cell?_setCell_other _ _ _ _ (A _ _ (by omega)), World.cell?_setCell_other _ _ _ _ (A _ _ (by omega))]
      exact h.c2
  refine ⟨fun j hj => ?_, off n z (by omega) h.mark, fun k => by simp only [World.frozen?_setCell]; exact h.fz k, ?_⟩
  · by_cases q : j = i
    · subst q
      rw [upd_at]
      obtain ⟨c0, c1, c2⟩ := h.at' j hj
      refine ⟨?_, ?_, ?_⟩
      · rw [World.cell?_setCell_other _ _ _ _ (A _ _ (by omega)), World.cell?_setCell_other _ _ _ _ (A _ _ (by omega))]
        exact World.cell?_setCell_same _ _ _ c0
      · rw [World.cell?_setCell_other _ _ _ _ (A _ _ (by omega))]
        exact World.cell?_setCell_same _ _ _ ((World.cell?_setCell_other _ _ _ _ (A _ _ (by omega))).trans c1)
      · exact World.cell?_setCell_same _ _ _ ((World.cell?_setCell_other _ _ _ _ (A _ _ (by omega))).trans ((World.cell?_setCell_other _ _ _ _ (A _ _ (by omega))).trans c2))
    · rw [upd_ne _ _ q]
      exact off j _ (by omega) (h.at' j hj)
  · have := h.lt
    simpa only [World.size_setCell] using this
end Go.Proofs.Ytjklaemhfhakhaa
