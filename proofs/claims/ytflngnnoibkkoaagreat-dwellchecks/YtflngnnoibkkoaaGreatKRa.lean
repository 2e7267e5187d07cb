/- A map from cells to spots. -/
import Derived.Test.YtflngnnoibkkoaaGreatKSc
import Derived.Maps.OwnSet
import Derived.Maps.Own
import Derived.DeepKeys4
namespace Go.Proofs.YtflngnnoibkkoaaGreat.Pk
open Go.ChangeShapes Go.WideShapes Go.ChangeAt Go.RowKit Go.Fl Go.Sort Go.Shelf Go.Lib Go.Maps
set_option maxRecDepth 200000
set_option maxHeartbeats 8000000

theorem laid0 : laidOutB Tryz.prog = true := by kernel_rfl
theorem row57 : (178 : TypeId) < Tryz.prog.types.size := of_decide_eq_true (by kernel_rfl)
theorem wide57 : (match Tryz.prog.underlying 178 with | some (.array _ _) | some (.struct _) => true | _ => false) = true := by rw [Tryz.underlying178]
theorem law57 : Keyed Tryz.prog 178 := Keyed.of_law (deep_law_laid laid0 (m := 2) (by omega) row57 (by kernel_rfl) wide57)
theorem cells57 : Tryz.prog.cellsOf 178 = 2 := by kernel_rfl
theorem cells3 : Tryz.prog.cellsOf 3 = 1 := by kernel_rfl
theorem keyT57 : Tryz.prog.keyType 178 = true := by kernel_rfl
abbrev kv (c : Int × Int) : Value := .agg #[.int .i64 c.1, .int .i64 c.2]
def Wc (c : Int × Int) : Prop := (-9223372036854775808 ≤ c.1 ∧ c.1 ≤ 9223372036854775807) ∧ (-9223372036854775808 ≤ c.2 ∧ c.2 ≤ 9223372036854775807)
theorem wf_i64 {a : Int} (h : -9223372036854775808 ≤ a ∧ a ≤ 9223372036854775807) : (Lit.int .i64 a).wf = true := by
  simp [Lit.wf, IntKind.min, IntKind.max, IntKind.signed, IntKind.bits]; omega
theorem key57 {c : Int × Int} (h : Wc c) : ∃ kl, keyOf Tryz.prog 178 (kv c) = some kl := by
  have hf : (kv c).formed Tryz.prog 178 = true := by simp [Value.formed, Tryz.underlying178, cells57]
  have h1 := wf_i64 h.1
  have h2 := wf_i64 h.2
  unfold keyOf
  simp only [Tryz.underlying178, keyT57, hf, Bool.and_self, if_true]
  obtain ⟨m, hm⟩ : ∃ m, Tryz.prog.types.size = m + 1 := ⟨Tryz.prog.types.size - 1, by have h := Nat.lt_of_le_of_lt (Nat.zero_le _) row57; exact (Nat.succ_pred_eq_of_pos h).symm⟩
  rw [hm]
  simp [Program.keyLits, Tryz.underlying178, Tryz.underlying3, cells57, cells3, Value.cells, h1, h2]
/-- How a spot reads. -/
def spL : List Value → Option (DataW Spt × List MemPlace)
  | [.int .i64 a, .int .i64 b, .float .f64 c] => some (.held (a, b, c), [])
  | _ => none
def spR : Value → Option (DataW Spt × List MemPlace)
  | .agg cs => spL cs.toList
  | _ => none
abbrev sv (s : Spt) : Value := .agg #[.int .i64 s.1, .int .i64 s.2.1, .float .f64 s.2.2]
theorem spR_mk (s : Spt) : spR (sv s) = some (.held s, []) := rfl
theorem spL_inv {l : List Value} {z : DataW Spt × List MemPlace} (h : spL l = some z) : ∃ s : Spt, l = [.int .i64 s.1, .int .i64 s.2.1, .float .f64 s.2.2] ∧ z = (.held s, []) := by
  unfold spL at h
  split at h
  · cases h; exact ⟨(_, _, _), rfl, rfl⟩
  · cases h
theorem spR_inv {v : Value} {z : DataW Spt × List MemPlace} (h : spR v = some z) : ∃ s, v = sv s ∧ z = (.held s, []) := by
  cases v with
  | agg cs =>
    obtain ⟨s, h1, h2⟩ := spL_inv (l := cs.toList) h
    exact ⟨s, by rw [← Array.toArray_toList (xs := cs), h1], h2⟩
  | _ => cases h
/-- A map of at most N entries that has just these spots at these cells. -/
def MM (w : World) (b N : Nat) (f : Int × Int → Option Spt) : Prop := ∃ D : DataW Spt, w.ownsMap Tryz.prog 178 spR b N D ∧ ∀ c kl, Wc c → keyOf Tryz.prog 178 (kv c) = some kl → Maps.has D kl = (f c).isSome ∧ ∀ s, f c = some s → ∀ z, D.atKey kl z = .held s
theorem MM.made (w : World) : MM (w.alloc (.map #[] 0)) w.heap.size 0 (fun _ => none) :=
  ⟨.map [], World.ownsMap_made _ _ _ _, fun c kl _ _ => ⟨rfl, fun s h => by cases h⟩⟩
theorem MM.lt {w : World} {b N : Nat} {f : Int × Int → Option Spt} (h : MM w b N f) : b < w.heap.size := by
  obtain ⟨D, h1, _⟩ := h; exact h1.lt
theorem MM.kp {w w' : World} {b N : Nat} {f : Int × Int → Option Spt} {F : Nat → Prop} (h : MM w b N f) (hk : Kp F w w') (hF : F b) : MM w' b N f := by
  have hl := h.lt
  obtain ⟨D, ⟨es, cl, h1, h2⟩, h3⟩ := h
  exact ⟨D, ⟨es, cl, (hk.block b hF hl).trans h1, h2⟩, h3⟩
theorem MM.up {w w' : World} {b N : Nat} {f : Int × Int → Option Spt} (h : MM w b N f) (hu : Up w w') : MM w' b N f := h.kp (F := fun _ => True) (Kp.of_up hu) trivial
/-- 's, is := m[c]'. -/
theorem MM.look {w : World} {b N : Nat} {f : Int × Int → Option Spt} (h : MM w b N f) {c : Int × Int} (hc : Wc c) : ∃ s, (Instr.lookup 176 (.map (some b)) (kv c) true).run Tryz.prog w = .ok (.tuple #[sv s, .bool (f c).isSome]) w ∧ ∀ t, f c = some t → t = s := by
  obtain ⟨D, h1, h2⟩ := h
  obtain ⟨kl, hk⟩ := key57 hc
  obtain ⟨v, ps, hrun, hv⟩ := h1.look_ok law57 Tryz.underlying176 (Tryz.zeroValue151 w) (spR_mk (0, 0, 0)) hk
  obtain ⟨s, rfl, hz⟩ := spR_inv hv
  obtain ⟨q1, q2⟩ := h2 c kl hc hk
  rw [q1] at hrun
  refine ⟨s, hrun, fun t ht => ?_⟩
  have := q2 t ht (.held (0, 0, 0))
  have hz1 := congrArg Prod.fst hz
  simp only at hz1
  rw [this] at hz1
  exact DataW.held.inj hz1
theorem mapTurned_kp {w w' : World} {b : Nat} (h : w.mapTurned w' b) : Kp (fun k => k ≠ b) w w' := by
  have g := h.grown
  exact ⟨g.os, g.tape, g.output, g.size, fun k hk hl => g.block k hl (fun e => hk (by simpa using e))⟩
theorem kv_inj {c c' : Int × Int} (h : kv c = kv c') : c = c' := by
  simp at h
  exact Prod.ext h.1 h.2
/-- 'm[c] = s'. -/
theorem MM.store {w : World} {b N : Nat} {f : Int × Int → Option Spt} (h : MM w b N f) {c : Int × Int} (hc : Wc c) (s : Spt) (hN : N < maxLen) :
    ∃ w', (Instr.mapUpdate 176 (.map (some b)) (kv c) (sv s)).run Tryz.prog w = .ok () w' ∧ MM w' b (N + 1) (fun x => if x = c then some s else f x) ∧ Kp (fun k => k ≠ b) w w' := by
  obtain ⟨D, h1, h2⟩ := h
  obtain ⟨kl, hk⟩ := key57 hc
  obtain ⟨w', hrun, hown, ht⟩ := h1.store law57 Tryz.underlying176 hN hk (spR_mk s)
  refine ⟨w', hrun, ⟨_, hown, fun x kx hx hkx => ?_⟩, mapTurned_kp ht⟩
  by_cases hxc : x = c
  · subst hxc
    rw [hk] at hkx
    cases hkx
    simp only [if_pos]
    refine ⟨has_put_same h1.isMap (law57.key hk) _, fun t ht z => ?_⟩
    cases ht
    exact atKey_put_same h1.isMap (law57.key hk) _ _
  · simp only [if_neg hxc]
    have hne : kx ≠ kl := fun e => hxc (kv_inj (law57.inj hkx (e ▸ hk)))
    rw [has_put_other hne]
    obtain ⟨q1, q2⟩ := h2 x kx hx hkx
    exact ⟨q1, fun t ht z => by rw [atKey_put_other hne]; exact q2 t ht z⟩
/-- 'delete(m, c)'. -/
theorem MM.drop {w : World} {b N : Nat} {f : Int × Int → Option Spt} (h : MM w b N f) {c : Int × Int} (hc : Wc c) (ty : TypeId) :
    ∃ w', (Builtin.delete_ #[176, 178] ty #[.map (some b), kv c]).run Tryz.prog w = .ok (.tuple #[]) w' ∧ MM w' b N (fun x => if x = c then none else f x) ∧ Kp (fun k => k ≠ b) w w' := by
  obtain ⟨D, h1, h2⟩ := h
  obtain ⟨kl, hk⟩ := key57 hc
  obtain ⟨w', hrun, hown, ht⟩ := h1.drop law57 Tryz.underlying176 hk ty
  refine ⟨w', hrun, ⟨_, hown, fun x kx hx hkx => ?_⟩, mapTurned_kp ht⟩
  by_cases hxc : x = c
  · subst hxc
    rw [hk] at hkx
    cases hkx
    simp only [if_pos]
    exact ⟨has_del_same, fun t ht => by cases ht⟩
  · simp only [if_neg hxc]
    have hne : kx ≠ kl := fun e => hxc (kv_inj (law57.inj hkx (e ▸ hk)))
    rw [has_del_other hne]
    obtain ⟨q1, q2⟩ := h2 x kx hx hkx
    exact ⟨q1, fun t ht z => by rw [atKey_del_other hne]; exact q2 t ht z⟩
end Go.Proofs.YtflngnnoibkkoaaGreat.Pk
