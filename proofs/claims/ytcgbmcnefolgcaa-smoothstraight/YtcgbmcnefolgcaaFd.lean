/- SmoothBacks. -/
import Derived.Test.YtcgbmcnefolgcaaFc
namespace Go.Proofs.Ytcgbmcnefolgcaa
open Go.ChangeShapes Go.WideShapes Go.ChangeAt Go.RowKit Go.Fl Go.Sort
attribute [local go_sem] run_store_float call22 call54 run_neg fold_eq fold_ne fold_lt fold_gt abs_eq

theorem app_ss {w : World} {base m c ty : Nat} {p q : Option Addr} {n cq : Nat} {D : List Stt} {S : Nat → Stt} (hown : SO base w (.slice p m c) D) (hv : SS w q n cq S) (hmn : m + n ≤ 4000000) (hbase : base ≤ w.heap.size) :
    ∃ p' c' w', (Builtin.append_ #[22, 22] ty #[.slice p m c, .slice q n cq]).run Try.prog w = .ok (.slice p' (m + n) c') w' ∧ SO base w' (.slice p' (m + n) c') (D ++ (List.range n).map S) ∧ w.grownBy w' (Value.slice p m c).ownBlock := by
  obtain ⟨i0, hi, hz0, hz1, hz2⟩ := info_parts info27
  have hl := hown.len
  have hmc : m ≤ c := hown.cap
  rcases Nat.eq_zero_or_pos n with rfl | hp
  · refine ⟨p, c, w, ?_, ?_, World.grownBy.refl _ _⟩
    · refine run_append_nothing w 22 22 ty 27 i0 Try.underlying22 hi _ m c hmc _ ?_
      cases q with
      | none => exact Src.ofNil w Try.underlying22 cq
      | some a => exact Src.ofSlice w Try.underlying22 a 0 cq [] (by simp) (fun j u h => by simp at h) (fun u h => by cases h)
    · simpa using hown
  · obtain ⟨b, o, rfl, hr⟩ := hv.src hp
    have hown' : w.ownsRow base 27 5 (.slice p m c) m (fl5 D) := by have := hown; unfold SO at this; rwa [hl] at this
    obtain ⟨g, cap, w', h1, h2, h3, h4, _⟩ := run_append_lies (P := Try.prog) w 22 ty base 27 i0 (.agg #[.float .f64 0, .float .f64 0, .float .f64 0, .float .f64 0, .float .f64 0]) 5 40 Try.underlying22 hi hz0 hz1 hz2 rfl (by omega) (.slice p m c) m (fl5 D) hown' ⟨b, o, none⟩ n cq (fl5 ((List.range n).map S)) (by rw [fl5_len]; simp) hr (fl5_one _) hp (by unfold maxLen; omega) (by omega) hbase w.heap.size rfl
    refine ⟨_, cap, w', h1, ?_, h3⟩
    unfold SO fl5 at *
    rw [List.length_append, List.length_map, List.length_range, hl, List.flatMap_append]
    exact h2
theorem wpList_app_ss {ops : Array Oper} {rest : List Oper} {o : Oper} {a : Act} {w : World} {Q : Exit → Act → World → Prop} (hgd : o.guard = none) (s x : Operand)
    (ho : o.op = .call { callee := .builtin .append, args := #[s, x], argTypes := #[22, 22] })
    (base m c : Nat) (p q : Option Addr) (n cq : Nat) (D : List Stt) (S : Nat → Stt) (hs : a.eval s = .slice p m c) (hx : a.eval x = .slice q n cq) (hown : SO base w (.slice p m c) D) (hv : SS w q n cq S) (hmn : m + n ≤ 4000000) (hbase : base ≤ w.heap.size)
    (h : ∀ p' c' w', SO base w' (.slice p' (m + n) c') (D ++ (List.range n).map S) → w.grownBy w' (Value.slice p m c).ownBlock → wpList Try.prog ops Q rest (a.put o.dst (.slice p' (m + n) c')) w') : wpList Try.prog ops Q (o :: rest) a w := by
  refine wpList_plain hgd fun K hK => ?_
  obtain ⟨p', c', w', h1, h2, h3⟩ := app_ss (ty := o.type) hown hv hmn hbase
  unfold Oper.wp execOp
  simp only [ho, resolve, invoke, builtin, Sem.run_bind, Sem.run_pure, Result.andThen_ok, List.map_toArray, List.map_cons, List.map_nil, hs, hx, h1]
  exact hK _ _ (h p' c' w' h2 h3)
def markS : Stt := ⟨4635118810238550016, 0, 0, 0, 0⟩
/-- A copy of states with spare room that is marked. -/
def OS (b : Nat) (w : World) (g n cap : Nat) (S : Nat → Stt) : Prop := SO b w (.slice (some ⟨g, 0, none⟩) (n + 1) cap) ((List.range n).map S ++ [markS])
theorem OS.up {b : Nat} {w w' : World} {g n cap : Nat} {S : Nat → Stt} (h : OS b w g n cap S) (hu : Up w w') : OS b w' g n cap S := SO.up h hu
theorem OS.ss {b : Nat} {w : World} {g n cap : Nat} {S : Nat → Stt} (h : OS b w g n cap S) (hn : n ≤ 1048576) : SS w (some ⟨g, 0, none⟩) n cap S ∧ n + 1 ≤ cap := by
  have hc := SO.cap h
  refine ⟨⟨by omega, by omega, fun h0 => ⟨g, 0, rfl, fun i hi => ?_⟩⟩, hc⟩
  obtain ⟨g', e, _, _, k⟩ := SO.at h (i := i) (by simp; omega)
  simp only [Option.some.injEq, Addr.mk.injEq] at e
  obtain ⟨rfl, _⟩ := e
  rw [Nat.zero_add]
  have e2 : ((List.range n).map S ++ [markS]).getD i Stt.zero = S i := by
    rw [List.getD_eq_getElem?_getD, List.getElem?_append_left (by simpa using hi)]
    simp [hi]
  rw [e2] at k
  exact k
theorem OS.mark {b : Nat} {w : World} {g n cap : Nat} {S : Nat → Stt} (h : OS b w g n cap S) : w.cell? ⟨g, n * 5, none⟩ = some (.float .f64 4635118810238550016) := by
  obtain ⟨g', e, _, _, k⟩ := SO.at h (i := n) (by simp)
  simp only [Option.some.injEq, Addr.mk.injEq] at e
  obtain ⟨rfl, _⟩ := e
  have e2 : ((List.range n).map S ++ [markS]).getD n Stt.zero = markS := by
    rw [List.getD_eq_getElem?_getD, List.getElem?_append_right (by simp)]
    simp
  rw [e2] at k
  exact k.c0
theorem ss_nil (w : World) : SO w.heap.size w (.slice none 0 0) [] := SO.nil _ _
theorem ss_mark (w : World) : SS (w.alloc (.cells #[.float .f64 4635118810238550016, .float .f64 0, .float .f64 0, .float .f64 0, .float .f64 0] 27)) (some ⟨w.heap.size, 0, none⟩) 1 1 (fun _ => markS) := ss_new w 4635118810238550016 0 0 0 0
end Go.Proofs.Ytcgbmcnefolgcaa
