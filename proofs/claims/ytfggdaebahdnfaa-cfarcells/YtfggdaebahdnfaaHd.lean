/- The cells of a place, on the left and on the right. -/
import Derived.Test.YtfggdaebahdnfaaHc
import Derived.Test.YtfggdaebahdnfaaRh
namespace Go.Proofs.Ytfggdaebahdnfaa
open Go.ChangeShapes Go.WideShapes Go.ChangeAt Go.RowKit Go.Fl Go.Sort
attribute [local go_sem] run_store_float call35 call46 run_neg fold_eq fold_ne fold_lt fold_gt abs_eq

/-- The cells on the left, those on the right. -/
def lef (d : Array Nat) (k G T : Nat) : Array Nat := d.extract (k - G - T) (k - G)
def rig (d : Array Nat) (k G T : Nat) : Array Nat := d.extract (k + G + 1) (k + G + 1 + T)
/-- How a neighbourhood is cut, in memory. -/
def HB (b G T : Nat) (w : World) : Prop := w.cell? ⟨b, 1, none⟩ = some (.int .i64 G) ∧ w.cell? ⟨b, 2, none⟩ = some (.int .i64 T)
theorem SV.cut {w : World} {p : Option Addr} {n cap : Nat} {d : Array Nat} (h : SV w p n cap d) {a b : Nat} (hab : a ≤ b) (hb : b ≤ n) : ∀ q : Option Addr, (∀ (g o : Nat), p = some ⟨g, o, none⟩ → a < b → q = some ⟨g, o + a, none⟩) → SV w q (b - a) (cap - a) (d.extract a b) := by
  intro q hq
  have hl := h.len
  have hc := h.cap
  refine ⟨by simp; omega, by omega, fit_sub h.fit a b (by omega), fun hp => ?_⟩
  obtain ⟨g, o, e, r⟩ := h.rd (by omega)
  exact ⟨g, o + a, hq g o e (by omega), reads_sub r a b (by omega)⟩
theorem at_add (g o k : Nat) : Option.map (fun x : Addr => x.add k) (some ⟨g, o, none⟩) = some ⟨g, o + k, none⟩ := by
  show some (Addr.add _ _) = _
  unfold Addr.add
  split
  · rename_i h; rw [h]; rfl
  · rfl
set_option maxHeartbeats 1000000 in
theorem t49 {w : World} {p : Option Addr} {n cap at0 G T : Nat} {d : Array Nat} (f : Value) (N : Nat) (h : SV w p n cap d) (hn : n ≤ 16384) (hk : at0 < n) (hG : G ≤ 16384) (hT : T ≤ 16384) :
    Calls Try.prog 49 #[.agg #[f, .int .i64 G, .int .i64 T, .int .i64 N], .slice p n cap, .int .i64 at0] w fun e w' => ∃ p1 n1 c1 p2 n2 c2, e = .returned (.tuple #[.slice p1 n1 c1, .slice p2 n2 c2]) ∧ Hid (SV w' p1 n1 c1 (lef d at0 G T)) ∧ Hid (SV w' p2 n2 c2 (rig d at0 G T)) ∧ (n1 ≤ 16384 ∧ n2 ≤ 16384) ∧ Hid (Up w w') := by
  have H : Hid (SV w p n cap d) := h
  have hc := h.cap
  clear h
  obtain ⟨lo, hlo⟩ : ∃ lo, at0 - G = lo := ⟨_, rfl⟩
  obtain ⟨be, hbe⟩ : ∃ be, min (at0 + G + 1) n = be := ⟨_, rfl⟩
  obtain ⟨ll, hll⟩ : ∃ ll, lo - T = ll := ⟨_, rfl⟩
  obtain ⟨bb, hbb⟩ : ∃ bb, min (be + T) n = bb := ⟨_, rfl⟩
  have m1 : max ((at0 : Int) - (G : Int)) 0 = (lo : Int) := by omega
  have m2 : min ((at0 : Int) + (G : Int) + 1) (n : Int) = (be : Int) := by omega
  have m3 : max ((lo : Int) - (T : Int)) 0 = (ll : Int) := by omega
  have m4 : min ((be : Int) + (T : Int)) (n : Int) = (bb : Int) := by omega
  have HE : Hid (at0 - G = lo ∧ min (at0 + G + 1) n = be ∧ lo - T = ll ∧ min (be + T) n = bb) := ⟨hlo, hbe, hll, hbb⟩
  clear hlo hbe hll hbb
  go_enter Try.func49, Try.ntmps49
  go_wp2_with fail
  refine wp_region_ord 14 [(0, none), (1, none), (2, some false), (3, none), (4, none), (5, none), (6, none), (7, some false), (8, none), (9, none), (10, none), (11, none), (12, none), (13, none)] (HB w.heap.size G T) (by kernel_rfl) (by decide) rfl (by kernel_rfl) (fun _ _ d _ _ h => by cases d <;> exact h) (by exact ⟨World.cell?_alloc_at _ _ _ _ rfl, World.cell?_alloc_at _ _ _ _ rfl⟩) ?_
  refine ⟨_, .int .i64 at0, some 10, rfl, rfl, Or.inl ⟨rfl, fun w' hS => ?_⟩, ?_⟩
  · go_simp
  refine ⟨_, .pointer (some ⟨w.heap.size, 1, none⟩), some 11, rfl, rfl, Or.inl ⟨rfl, fun w' hS => ?_⟩, ?_⟩
  · go_simp
  refine ⟨_, .int .i64 G, some 12, rfl, rfl, Or.inl ⟨rfl, fun w' hS => ?_⟩, ?_⟩
  · have l1 := (hS : HB w.heap.size G T w').1
    go_simp
  refine ⟨_, .int .i64 ((at0 : Int) - G), some 13, rfl, rfl, Or.inl ⟨rfl, fun w' hS => ?_⟩, ?_⟩
  · go_simp
    rw [IntKind.wrap_i64]; omega
  refine ⟨_, .int .i64 lo, some 14, rfl, rfl, Or.inl ⟨rfl, fun w' hS => ?_⟩, ?_⟩
  · go_simp
    (split <;> omega)
  refine ⟨_, .int .i64 at0, some 15, rfl, rfl, Or.inl ⟨rfl, fun w' hS => ?_⟩, ?_⟩
  · go_simp
  refine ⟨_, .pointer (some ⟨w.heap.size, 1, none⟩), some 16, rfl, rfl, Or.inl ⟨rfl, fun w' hS => ?_⟩, ?_⟩
  · go_simp
  refine ⟨_, .int .i64 G, some 17, rfl, rfl, Or.inl ⟨rfl, fun w' hS => ?_⟩, ?_⟩
  · have l1 := (hS : HB w.heap.size G T w').1
    go_simp
  refine ⟨_, .int .i64 ((at0 : Int) + G), some 18, rfl, rfl, Or.inl ⟨rfl, fun w' hS => ?_⟩, ?_⟩
  · go_simp
    rw [IntKind.wrap_i64]; omega
  refine ⟨_, .int .i64 ((at0 : Int) + G + 1), some 19, rfl, rfl, Or.inl ⟨rfl, fun w' hS => ?_⟩, ?_⟩
  · go_simp
    rw [IntKind.wrap_i64]; omega
  refine ⟨_, .slice p n cap, some 20, rfl, rfl, Or.inl ⟨rfl, fun w' hS => ?_⟩, ?_⟩
  · go_simp
  refine ⟨_, .int .i64 n, some 21, rfl, rfl, Or.inl ⟨rfl, fun w' hS => ?_⟩, ?_⟩
  · go_simp
  refine ⟨_, .int .i64 be, some 22, rfl, rfl, Or.inl ⟨rfl, fun w' hS => ?_⟩, ?_⟩
  · go_simp
    (split <;> omega)
  refine ⟨_, .int .i64 lo, some 8, rfl, rfl, Or.inl ⟨rfl, fun w' hS => ?_⟩, ?_⟩
  · go_simp
  simp only [OrdW, List.drop_succ_cons, List.drop_zero, Act.put, List.setIfInBounds_toArray, List.set_cons_succ, List.set_cons_zero]
  go_wp2_with fail
  obtain ⟨pl, hpl⟩ : ∃ q, q = (if cap = ll then p else Option.map (fun x => x.add ll) p) := ⟨_, rfl⟩
  obtain ⟨pr, hpr⟩ : ∃ q, q = (if cap = be then p else Option.map (fun x => x.add be) p) := ⟨_, rfl⟩
  have HPL : Hid _ := hpl
  have HPR : Hid _ := hpr
  clear hpl hpr
  obtain ⟨e1, e2, e3, e4⟩ := HE.out
  have q1 : lo ≤ cap := by omega
  have q2 : ll ≤ lo := by omega
  have q3 : bb ≤ cap := by omega
  have q4 : be ≤ bb := by omega
  have q5 : bb - be ≤ 16384 := by omega
  have q6 : lo - ll ≤ 16384 := by omega
  clear e1 e2 e3 e4
  refine wp_region_ord 19 [(0, none), (1, none), (2, none), (3, some false), (4, none), (5, none), (6, none), (7, none), (8, none), (9, none), (10, none), (11, none), (12, some false), (13, none), (14, none), (15, none), (16, none), (17, none), (18, none)] (HB w.heap.size G T) (by kernel_rfl) (by decide) rfl (by kernel_rfl) (fun _ _ d _ _ h => by cases d <;> exact h) (by exact ⟨World.cell?_alloc_at _ _ _ _ rfl, World.cell?_alloc_at _ _ _ _ rfl⟩) ?_
  refine ⟨_, .slice p n cap, some 23, rfl, rfl, Or.inl ⟨rfl, fun w' hS => ?_⟩, ?_⟩
  · go_simp
  refine ⟨_, .int .i64 lo, some 24, rfl, rfl, Or.inl ⟨rfl, fun w' hS => ?_⟩, ?_⟩
  · go_simp
  refine ⟨_, .pointer (some ⟨w.heap.size, 2, none⟩), some 25, rfl, rfl, Or.inl ⟨rfl, fun w' hS => ?_⟩, ?_⟩
  · go_simp
  refine ⟨_, .int .i64 T, some 26, rfl, rfl, Or.inl ⟨rfl, fun w' hS => ?_⟩, ?_⟩
  · have l1 := (hS : HB w.heap.size G T w').2
    go_simp
  refine ⟨_, .int .i64 ((lo : Int) - T), some 27, rfl, rfl, Or.inl ⟨rfl, fun w' hS => ?_⟩, ?_⟩
  · go_simp
    rw [IntKind.wrap_i64]; omega
  refine ⟨_, .int .i64 ll, some 28, rfl, rfl, Or.inl ⟨rfl, fun w' hS => ?_⟩, ?_⟩
  · go_simp
    (split <;> omega)
  refine ⟨_, .int .i64 lo, some 29, rfl, rfl, Or.inl ⟨rfl, fun w' hS => ?_⟩, ?_⟩
  · go_simp
  refine ⟨_, .slice pl (lo - ll) (cap - ll), some 30, rfl, rfl, Or.inl ⟨rfl, fun w' hS => ?_⟩, ?_⟩
  · go_simp
    exact HPL.out.symm
  refine ⟨_, .slice p n cap, some 31, rfl, rfl, Or.inl ⟨rfl, fun w' hS => ?_⟩, ?_⟩
  · go_simp
  refine ⟨_, .int .i64 be, some 32, rfl, rfl, Or.inl ⟨rfl, fun w' hS => ?_⟩, ?_⟩
  · go_simp
  refine ⟨_, .int .i64 be, some 33, rfl, rfl, Or.inl ⟨rfl, fun w' hS => ?_⟩, ?_⟩
  · go_simp
  refine ⟨_, .pointer (some ⟨w.heap.size, 2, none⟩), some 34, rfl, rfl, Or.inl ⟨rfl, fun w' hS => ?_⟩, ?_⟩
  · go_simp
  refine ⟨_, .int .i64 T, some 35, rfl, rfl, Or.inl ⟨rfl, fun w' hS => ?_⟩, ?_⟩
  · have l1 := (hS : HB w.heap.size G T w').2
    go_simp
  refine ⟨_, .int .i64 ((be : Int) + T), some 36, rfl, rfl, Or.inl ⟨rfl, fun w' hS => ?_⟩, ?_⟩
  · go_simp
    rw [IntKind.wrap_i64]; omega
  refine ⟨_, .slice p n cap, some 37, rfl, rfl, Or.inl ⟨rfl, fun w' hS => ?_⟩, ?_⟩
  · go_simp
  refine ⟨_, .int .i64 n, some 38, rfl, rfl, Or.inl ⟨rfl, fun w' hS => ?_⟩, ?_⟩
  · go_simp
  refine ⟨_, .int .i64 bb, some 39, rfl, rfl, Or.inl ⟨rfl, fun w' hS => ?_⟩, ?_⟩
  · go_simp
    (split <;> omega)
  refine ⟨_, .slice pr (bb - be) (cap - be), some 40, rfl, rfl, Or.inl ⟨rfl, fun w' hS => ?_⟩, ?_⟩
  · go_simp
    exact HPR.out.symm
  refine ⟨_, .slice pl (lo - ll) (cap - ll), some 6, rfl, rfl, Or.inl ⟨rfl, fun w' hS => ?_⟩, ?_⟩
  · go_simp
  simp only [OrdW, List.drop_succ_cons, List.drop_zero, Act.put, List.setIfInBounds_toArray, List.set_cons_succ, List.set_cons_zero]
  go_wp2
  go_ret2
  refine ⟨pl, lo - ll, cap - ll, pr, bb - be, cap - be, rfl, ?_, ?_, ⟨q6, q5⟩, ((Up.alloc _ _).trans (Up.drewN _ 1)).trans (Up.drewN _ 1)⟩
  · have := (H.out.up ((Up.alloc w (.cells #[f, .int .i64 G, .int .i64 T, .int .i64 N] 61)).trans (Up.drewN _ 2))).cut (a := ll) (b := lo) q2 (by have := HE.out; omega) pl (fun g o e h => by rw [HPL.out, if_neg (by omega), e]; exact at_add g o ll)
    obtain ⟨e1, e2, e3, e4⟩ := HE.out
    show SV _ _ _ _ (lef d at0 G T)
    unfold lef
    rw [e1, e3]; exact this
  · have := (H.out.up ((Up.alloc w (.cells #[f, .int .i64 G, .int .i64 T, .int .i64 N] 61)).trans (Up.drewN _ 2))).cut (a := be) (b := bb) q4 (by have := HE.out; omega) pr (fun g o e h => by rw [HPR.out, if_neg (by omega), e]; exact at_add g o be)
    obtain ⟨e1, e2, e3, e4⟩ := HE.out
    show SV _ _ _ _ (rig d at0 G T)
    rw [show rig d at0 G T = d.extract be bb by
      have hl := H.out.len
      refine Array.ext (by unfold rig; simp; omega) (fun i h1 h2 => ?_)
      have h3 : i < min (at0 + G + 1 + T) d.size - (at0 + G + 1) := by simpa [rig] using h1
      simp only [rig, Array.getElem_extract]
      have : at0 + G + 1 = be := by omega
      simp only [this]]
    exact this
end Go.Proofs.Ytfggdaebahdnfaa
