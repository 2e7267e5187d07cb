/- A row appended to an empty one. -/
import Derived.Test.YtgalgnopjcpocaaFa
import Derived.Deep.Upon
import Derived.Deep.AppendLies
namespace Go.Proofs.Ytgalgnopjcpocaa
open Go.ChangeShapes Go.WideShapes Go.ChangeAt Go.RowKit Go.Fl Ieee

set_option maxRecDepth 20000 in
theorem app_vf {w : World} {base g0 : Nat} {q : Option Addr} {n cq ty : Nat} {f : Nat → Nat} (hown : w.ownsRow base 26 1 (.slice (some ⟨g0, 0, none⟩) 0 0) 0 []) (hv : VF w q n f) (hn : n ≤ 1000000) (hbase : base ≤ w.heap.size) :
    ∃ g cap w', (Builtin.append_ #[28, 28] ty #[.slice (some ⟨g0, 0, none⟩) 0 0, .slice q n cq]).run Try.prog w = .ok (.slice (some ⟨g, 0, none⟩) n cap) w' ∧ w'.ownsRow base 26 1 (.slice (some ⟨g, 0, none⟩) n cap) n ((cutN f n).map (Value.float .f64)) ∧ w.grownBy w' (some g0) ∧ (some g0 = some g ∨ g = w.heap.size) := by
  obtain ⟨i0, hi, hz0, hz1, hz2⟩ := info_parts info26
  rcases Nat.eq_zero_or_pos n with rfl | hp
  · refine ⟨g0, 0, w, ?_, hown, World.grownBy.refl _ _, Or.inl rfl⟩
    refine run_append_nothing w 28 28 ty 26 i0 Try.underlying28 hi _ 0 0 (Nat.le_refl _) _ ?_
    cases q with
    | none => exact Src.ofNil w Try.underlying28 cq
    | some a => exact Src.ofSlice w Try.underlying28 a 0 cq [] (by simp) (fun j u h => by simp at h) (fun u h => by cases h)
  · obtain ⟨b, o, rfl, hr⟩ := hv hp
    obtain ⟨g, cap, w', h1, h2, h3, h4, _⟩ := run_append_lies (P := Try.prog) w 28 ty base 26 i0 (.float .f64 0) 1 8 Try.underlying28 hi hz0 hz1 hz2 rfl (by omega) (.slice (some ⟨g0, 0, none⟩) 0 0) 0 [] hown ⟨b, o, none⟩ n cq ((cutN f n).map (Value.float .f64)) (by simp [cutN_len]) (src_okF hr) fe_one hp (by unfold maxLen; omega) (by omega) hbase w.heap.size rfl
    rw [Nat.zero_add] at h1 h2
    exact ⟨g, cap, w', h1, by simpa using h2, h3, h4⟩
set_option maxRecDepth 20000 in
theorem step_app_vf {ops : Array Oper} {o : Oper} {a : Act} {w : World} {K : Act → World → Prop} {Q : Exit → Act → World → Prop} {E : Prop} (hgd : o.guard = none) (s x : Operand)
    (ho : o.op = .call { callee := .builtin .append, args := #[s, x], argTypes := #[28, 28] })
    (base g0 : Nat) (q : Option Addr) (n cq : Nat) (f : Nat → Nat) (hs : a.eval s = .slice (some ⟨g0, 0, none⟩) 0 0) (hx : a.eval x = .slice q n cq) (hown : w.ownsRow base 26 1 (.slice (some ⟨g0, 0, none⟩) 0 0) 0 []) (hv : VF w q n f) (hn : n ≤ 1000000) (hbase : base ≤ w.heap.size)
    (h : ∀ g cap w', w'.ownsRow base 26 1 (.slice (some ⟨g, 0, none⟩) n cap) n ((cutN f n).map (Value.float .f64)) → w.grownBy w' (some g0) → (some g0 = some g ∨ g = w.heap.size) → K (a.put o.dst (.slice (some ⟨g, 0, none⟩) n cap)) w') :
    if Region.wanted o (yielded ops a.tmps) = true then Oper.wp Try.prog o a w K Q else E := by
  have hw : Region.wanted o (yielded ops a.tmps) = true := by simp [Region.wanted, hgd]
  rw [if_pos hw]
  obtain ⟨g, cap, w', h1, h2, h3, h4⟩ := app_vf (ty := o.type) (cq := cq) hown hv hn hbase
  unfold Oper.wp execOp
  simp only [ho, resolve, invoke, builtin, Sem.run_bind, Sem.run_pure, Result.andThen_ok, List.map_toArray, List.map_cons, List.map_nil, hs, hx, h1]
  exact h g cap w' h2 h3 h4
set_option maxRecDepth 20000 in
theorem upon_app_vf {o : Oper} {a : Act} {w : World} {next : Act → World → Prop} {Q : Exit → Act → World → Prop} {F : Value → World → Result Next} {ty base g0 : Nat} {q : Option Addr} {n cq : Nat} {f : Nat → Nat} (hown : w.ownsRow base 26 1 (.slice (some ⟨g0, 0, none⟩) 0 0) 0 []) (hv : VF w q n f) (hn : n ≤ 1000000) (hbase : base ≤ w.heap.size)
    (h : ∀ g cap w', Hid (w'.ownsRow base 26 1 (.slice (some ⟨g, 0, none⟩) n cap) n ((cutN f n).map (Value.float .f64))) → Hid (w.grownBy w' (some g0)) → Hid (some g0 = some g ∨ g = w.heap.size) → o.upon Try.prog a next Q (F (.slice (some ⟨g, 0, none⟩) n cap) w')) :
    o.upon Try.prog a next Q (((Builtin.append_ #[28, 28] ty #[.slice (some ⟨g0, 0, none⟩) 0 0, .slice q n cq]).run Try.prog w).andThen F) := by
  obtain ⟨g, cap, w', h1, h2, h3, h4⟩ := app_vf (ty := ty) (cq := cq) hown hv hn hbase
  rw [h1]
  exact h g cap w' h2 h3 h4
set_option maxRecDepth 20000 in
theorem wpList_app_vf {ops : Array Oper} {rest : List Oper} {o : Oper} {a : Act} {w : World} {Q : Exit → Act → World → Prop} (hgd : o.guard = none) (s x : Operand)
    (ho : o.op = .call { callee := .builtin .append, args := #[s, x], argTypes := #[28, 28] })
    (base g0 : Nat) (q : Option Addr) (n cq : Nat) (f : Nat → Nat) (hs : a.eval s = .slice (some ⟨g0, 0, none⟩) 0 0) (hx : a.eval x = .slice q n cq) (hown : w.ownsRow base 26 1 (.slice (some ⟨g0, 0, none⟩) 0 0) 0 []) (hv : VF w q n f) (hn : n ≤ 1000000) (hbase : base ≤ w.heap.size)
    (h : ∀ g cap w', w'.ownsRow base 26 1 (.slice (some ⟨g, 0, none⟩) n cap) n ((cutN f n).map (Value.float .f64)) → w.grownBy w' (some g0) → (some g0 = some g ∨ g = w.heap.size) → wpList Try.prog ops Q rest (a.put o.dst (.slice (some ⟨g, 0, none⟩) n cap)) w') : wpList Try.prog ops Q (o :: rest) a w := by
  refine wpList_plain hgd fun K hK => ?_
  obtain ⟨g, cap, w', h1, h2, h3, h4⟩ := app_vf (ty := o.type) (cq := cq) hown hv hn hbase
  unfold Oper.wp execOp
  simp only [ho, resolve, invoke, builtin, Sem.run_bind, Sem.run_pure, Result.andThen_ok, List.map_toArray, List.map_cons, List.map_nil, hs, hx, h1]
  exact hK _ _ (h g cap w' h2 h3 h4)
end Go.Proofs.Ytgalgnopjcpocaa
