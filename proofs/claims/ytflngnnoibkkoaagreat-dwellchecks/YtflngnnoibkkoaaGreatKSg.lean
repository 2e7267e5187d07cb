/- Closed calls; wakes. -/
import Derived.Test.YtflngnnoibkkoaaGreatKSc
import Derived.Test.YtflngnnoibkkoaaGreatKRb
import Derived.Test.YtflngnnoibkkoaaGreatKPg
import Derived.Test.YtflngnnoibkkoaaGreatKUa
namespace Go.Proofs.YtflngnnoibkkoaaGreat.Pk
open Go.ChangeShapes Go.WideShapes Go.ChangeAt Go.RowKit Go.Fl Go.Sort Go.Shelf Go.Lib Go.Maps
set_option maxRecDepth 200000
set_option maxHeartbeats 8000000
attribute [local go_sem] run_store_float run_neg fold_eq fold_ne fold_lt fold_gt abs_eq
set_option maxRecDepth 20000
theorem guard29 : Tryz.prog.eqGuardType Tryz.prog.depth 151 = false := by kernel_rfl
theorem guard39 : Tryz.prog.eqGuardType Tryz.prog.depth 157 = false := by kernel_rfl
theorem eqg29 (op : BinOp) (x y : Operand) (xs ys : Array Value) (w : World) : (eqGuard op 151 x y (.agg xs) (.agg ys)).run Tryz.prog w = .ok () w := run_eqGuard_agg w op 151 x y xs ys guard29
theorem eqg39 (op : BinOp) (x y : Operand) (xs ys : Array Value) (w : World) : (eqGuard op 157 x y (.agg xs) (.agg ys)).run Tryz.prog w = .ok () w := run_eqGuard_agg w op 157 x y xs ys guard39
attribute [local go_sem] eqg29 eqg39
/-- The cells of a row of one's own. -/
theorem owns_cell {b n : Nat} {w : World} {t : TypeId} {p : Option Addr} {c m : Nat} {xs : List Value} (h : w.ownsRow b t 1 (.slice p m c) n xs) (hn : 0 < n) : ∃ g, p = some ⟨g, 0, none⟩ ∧ m = n ∧ ∀ i x, xs[i]? = some x → w.cell? ⟨g, i, none⟩ = some x := by
  obtain ⟨h1, h2⟩ := h
  rcases h2 with ⟨_, h0⟩ | ⟨g, cap, cur, e, k2, k3, k4, k5, k6, k7⟩
  · omega
  · simp only [Value.slice.injEq] at e
    obtain ⟨rfl, rfl, rfl⟩ := e
    refine ⟨g, rfl, rfl, fun i x hx => ?_⟩
    rw [cell_of_row _ _ _ _ _ _ k3]
    have hi : i < xs.length := (List.getElem?_eq_some_iff.1 hx).1
    have t := congrArg (fun l => l[i]?) k7
    simp only [List.getElem?_take] at t
    rw [if_pos (by omega), hx] at t
    rw [← Array.getElem?_toList]; exact t
/-- A list that a call handed back, in memory of its own. -/
def HL (w : World) (L : List Spt) (e : Ending) (w' : World) : Prop := ∃ r c, e = .returned (.slice (some ⟨r, 0, none⟩) L.length c) ∧ Hid (OwnR w' r c L.toArray ∧ w.heap.size ≤ r) ∧ Hid (Up w w')
/-- The groups that a call handed back, each in memory of its own. -/
def GL (w : World) (Gs : List (List Spt)) (e : Ending) (w' : World) : Prop := ∃ (g c : Nat) (A C : Nat → Nat), e = .returned (.slice (some ⟨g, 0, none⟩) Gs.length c) ∧ Hid (∀ a, a < Gs.length → w'.cell? ⟨g, a, none⟩ = some (.slice (some ⟨A a, 0, none⟩) (Gs[a]!).length (C a)) ∧ OwnR w' (A a) (C a) (Gs[a]!).toArray) ∧ Hid (Up w w')
theorem GRes.gl {w : World} {Gs : List (List Spt)} {e : Ending} {w' : World} (h : GRes w Gs e w') (h0 : 0 < Gs.length) : GL w Gs e w' := by
  obtain ⟨p, c, A, C, D, rfl, h1, h2⟩ := h
  obtain ⟨gt, hD⟩ := h1.out
  obtain ⟨g, rfl, _, hc⟩ := owns_cell gt.own h0
  refine ⟨g, c, A, C, rfl, fun a ha => ⟨?_, ?_⟩, h2⟩
  · rw [← hD a ha]
    refine hc a _ ?_
    rw [List.getElem?_map, List.getElem?_range ha]; rfl
  · rw [← hD a ha]; exact (gt.row a ha).1
theorem wf_lit {s : Spt} (h : (decide (-9223372036854775808 ≤ s.1) && decide (s.1 ≤ 9223372036854775807) && decide (-9223372036854775808 ≤ s.2.1) && decide (s.2.1 ≤ 9223372036854775807)) = true) : Wf s := by
  simp only [Bool.and_eq_true, decide_eq_true_eq] at h
  obtain ⟨⟨⟨h1, h2⟩, h3⟩, h4⟩ := h
  exact ⟨⟨h1, h2⟩, h3, h4⟩
end Go.Proofs.YtflngnnoibkkoaaGreat.Pk
