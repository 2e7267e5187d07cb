/- rankOf. -/
import Derived.Test.YtflngnnoibkkoaaGreatJA
import Derived.Deep.MidRow
import Derived.Deep.Upon
import Derived.Test.YtflngnnoibkkoaaGreatRows
import Derived.Shelf.SlLaysF
import Derived.Shelf.SlSortCmp.NoneTotal
namespace Go.Proofs.YtflngnnoibkkoaaGreat.Pl
open Go.ChangeShapes Go.WideShapes Go.ChangeAt Go.RowKit Go.Fl Go.Sort
set_option maxRecDepth 200000
set_option maxHeartbeats 8000000
attribute [local go_sem] run_store_float call34 run_neg fold_eq fold_ne fold_lt fold_gt abs_eq
theorem gr_of {w w' : World} (h : Up w w') (hd : w.drawn ≤ w'.drawn) : Gr w w' := by
  have h' : RowKit.Below w.heap.size w w' := h
  refine ⟨w'.drawn - w.drawn, w'.heap.extract w.heap.size w'.heap.size, ?_⟩
  have hh : w'.heap = w.heap ++ w'.heap.extract w.heap.size w'.heap.size := by
    apply Array.ext
    · simp
      have := h'.size
      omega
    · intro i h1 h2
      by_cases hi : i < w.heap.size
      · have := h'.block i hi
        rw [Array.getElem_append_left hi]
        rw [Array.getElem?_eq_getElem h1, Array.getElem?_eq_getElem hi] at this
        exact Option.some.inj this
      · rw [Array.getElem_append_right (by omega)]
        simp
        congr 1
        omega
  have e1 := h'.os
  have e2 := h'.tape
  have e3 := h'.output
  cases w
  cases w'
  simp only [World.drewN, grow] at *
  simp [e1, e2, e3, ← hh]
  omega
theorem gr_drawn {w w' : World} (h : Gr w w') : w.drawn ≤ w'.drawn := by
  obtain ⟨q, os, rfl⟩ := h
  show w.drawn ≤ w.drawn + q
  omega
/-- A plot's cells in memory. -/
structure B5 (w : World) (g : Nat) (r s p b t : Nat) : Prop where
  k0 : w.cell? ⟨g, 0, none⟩ = some (.float .f64 r)
  k1 : w.cell? ⟨g, 1, none⟩ = some (.float .f64 s)
  k2 : w.cell? ⟨g, 2, none⟩ = some (.float .f64 p)
  k3 : w.cell? ⟨g, 3, none⟩ = some (.float .f64 b)
  k4 : w.cell? ⟨g, 4, none⟩ = some (.float .f64 t)
theorem B5.up {w w' : World} {g r s p b t : Nat} (h : B5 w g r s p b t) (hu : Up w w') : B5 w' g r s p b t := ⟨cell_up h.k0 hu, cell_up h.k1 hu, cell_up h.k2 hu, cell_up h.k3 hu, cell_up h.k4 hu⟩
theorem B5.new (w : World) (r s p b t : Nat) (ty : TypeId) : B5 (w.alloc (.cells #[.float .f64 r, .float .f64 s, .float .f64 p, .float .f64 b, .float .f64 t] ty)) w.heap.size r s p b t := by
  constructor <;> exact World.cell?_alloc_at _ _ _ _ rfl
theorem b5drew {w : World} {g r s p b t : Nat} (h : Hid (B5 w g r s p b t)) : B5 w.drew g r s p b t := h.out.up (Up.drew _)
theorem eg205 (args : Array Value) (w : World) : (callFunc 205 args).run Tryz.prog w = .ok (.enter 205 args) w := enters Tryz.func205 (by kernel_rfl) (by kernel_rfl) _ _
theorem eg206 (args : Array Value) (w : World) : (callFunc 206 args).run Tryz.prog w = .ok (.enter 206 args) w := enters Tryz.func206 (by kernel_rfl) (by kernel_rfl) _ _
theorem size92 : (Tryz.prog.info? 208).map (·.size) = some 5 := by kernel_rfl
/-- Five cells in a block of their own. -/
def Bk (w : World) (g : Nat) (ty : TypeId) (c0 c1 c2 c3 c4 : Value) : Prop := w.heap[g]? = some (.cells #[c0, c1, c2, c3, c4] ty)
theorem Bk.cells {w : World} {g : Nat} {ty : TypeId} {c0 c1 c2 c3 c4 : Value} (h : Bk w g ty c0 c1 c2 c3 c4) : w.cell? ⟨g, 0, none⟩ = some c0 ∧ w.cell? ⟨g, 1, none⟩ = some c1 ∧ w.cell? ⟨g, 2, none⟩ = some c2 ∧ w.cell? ⟨g, 3, none⟩ = some c3 ∧ w.cell? ⟨g, 4, none⟩ = some c4 := by
  unfold Bk at h
  unfold World.cell?
  simp [h]
theorem Bk.frz {w : World} {g : Nat} {ty : TypeId} {c0 c1 c2 c3 c4 : Value} (h : Bk w g ty c0 c1 c2 c3 c4) (i : Nat) : w.frozen? ⟨g, i, none⟩ = false := by
  unfold Bk at h
  unfold World.frozen?
  simp [h]
theorem Bk.lt {w : World} {g : Nat} {ty : TypeId} {c0 c1 c2 c3 c4 : Value} (h : Bk w g ty c0 c1 c2 c3 c4) : g < w.heap.size := by
  unfold Bk at h
  exact (Array.getElem?_eq_some_iff.1 h).1
theorem Bk.up {w w' : World} {g : Nat} {ty : TypeId} {c0 c1 c2 c3 c4 : Value} (h : Bk w g ty c0 c1 c2 c3 c4) (hu : Up w w') : Bk w' g ty c0 c1 c2 c3 c4 := by
  have := RowKit.Below.block hu g h.lt
  unfold Bk at *
  rw [this]; exact h
theorem Bk.new (w : World) (ty : TypeId) (c0 c1 c2 c3 c4 : Value) : Bk (w.alloc (.cells #[c0, c1, c2, c3, c4] ty)) w.heap.size ty c0 c1 c2 c3 c4 := heap_alloc_last _ _
theorem Bk.there {w : World} {g : Nat} {ty : TypeId} {c0 c1 c2 c3 c4 : Value} (h : Bk w g ty c0 c1 c2 c3 c4) : w.there g 0 5 := by
  intro j hj
  obtain ⟨k0, k1, k2, k3, k4⟩ := h.cells
  refine ⟨?_, by rw [Nat.zero_add]; exact h.frz j⟩
  rcases (show j = 0 ∨ j = 1 ∨ j = 2 ∨ j = 3 ∨ j = 4 by omega) with rfl | rfl | rfl | rfl | rfl
  · rw [Nat.zero_add, k0]; rfl
  · rw [Nat.zero_add, k1]; rfl
  · rw [Nat.zero_add, k2]; rfl
  · rw [Nat.zero_add, k3]; rfl
  · rw [Nat.zero_add, k4]; rfl
theorem Bk.set {w : World} {g : Nat} {ty : TypeId} {c0 c1 c2 c3 c4 : Value} (h : Bk w g ty c0 c1 c2 c3 c4) (v0 v1 v2 v3 v4 : Value) : Bk (w.setCells g 0 [v0, v1, v2, v3, v4]) g ty v0 v1 v2 v3 v4 := by
  unfold Bk at *
  simp only [World.setCells, World.setCell, Array.getElem?_modify, h]
  simp
theorem Bk.other {w : World} {g g' : Nat} {ty : TypeId} {c0 c1 c2 c3 c4 : Value} (h : Bk w g ty c0 c1 c2 c3 c4) (hne : g ≠ g') (o : Nat) (l : List Value) : Bk (w.setCells g' o l) g ty c0 c1 c2 c3 c4 := by
  unfold Bk at *
  rw [World.heap_setCells_other w g' o l (Bk.lt h) hne]; exact h
theorem up_set {w w' : World} {g : Nat} (h : Up w w') (hg : w.heap.size ≤ g) : ∀ (o : Nat) (l : List Value), Up w (w'.setCells g o l)
  | _, [] => h
  | o, v :: l => up_set (w' := w'.setCell ⟨g, o, none⟩ v) (Below.setCell h hg _) hg (o + 1) l
theorem drawn_set (g : Nat) : ∀ (l : List Value) (o : Nat) (w : World), (w.setCells g o l).drawn = w.drawn
  | [], _, _ => rfl
  | v :: l, o, w => by
    unfold World.setCells
    rw [drawn_set g l]
    rfl
theorem gr_set {w w' : World} {g : Nat} (h : Gr w w') (hg : w.heap.size ≤ g) (o : Nat) (l : List Value) : Gr w (w'.setCells g o l) := gr_of (up_set h.up hg o l) (by rw [drawn_set]; exact gr_drawn h)

set_option maxHeartbeats 2000000 in
theorem t188 (p : Plt) (hp : p.Fit) (w : World) : Calls Tryz.prog 188 #[.agg (pC p)] w fun e w' => e = .returned (.agg (rC p)) ∧ Hid (Gr w w') := by
  have C0 : Hid (∀ w, Calls Tryz.prog 205 #[.float .f64 p.p] w fun e w' => e = .returned (.int .u64 (fall p.p)) ∧ w' = w) := fun w => t205 _ w hp.p
  have C1 : Hid (∀ w, Calls Tryz.prog 206 #[.float .f64 p.r] w fun e w' => e = .returned (.int .u64 (key p.r)) ∧ w' = w) := fun w => t206 _ w hp.r
  have C2 : Hid (∀ w, Calls Tryz.prog 206 #[.float .f64 p.s] w fun e w' => e = .returned (.int .u64 (key p.s)) ∧ w' = w) := fun w => t206 _ w hp.s
  have C3 : Hid (∀ w, Calls Tryz.prog 206 #[.float .f64 p.b] w fun e w' => e = .returned (.int .u64 (key p.b)) ∧ w' = w) := fun w => t206 _ w hp.b
  have C4 : Hid (∀ w, Calls Tryz.prog 206 #[.float .f64 p.t] w fun e w' => e = .returned (.int .u64 (key p.t)) ∧ w' = w) := fun w => t206 _ w hp.t
  unfold pC rC
  obtain ⟨r, s, q, b, t⟩ := p
  simp only at *
  generalize fall q = f0 at *
  generalize key r = k1 at *
  generalize key s = k2 at *
  generalize key b = k3 at *
  generalize key t = k4 at *
  clear hp
  have HB : Hid (B5 ((w.alloc (.cells #[.float .f64 r, .float .f64 s, .float .f64 q, .float .f64 b, .float .f64 t] 64)).alloc (.cells #[.int .u64 0, .int .u64 0, .int .u64 0, .int .u64 0, .int .u64 0] 208)) w.heap.size r s q b t) := (B5.new w r s q b t 64).up (Up.alloc _ _)
  have HG : Hid (Gr w ((w.alloc (.cells #[.float .f64 r, .float .f64 s, .float .f64 q, .float .f64 b, .float .f64 t] 64)).alloc (.cells #[.int .u64 0, .int .u64 0, .int .u64 0, .int .u64 0, .int .u64 0] 208))) := (Gr.alloc _ _).trans (Gr.alloc _ _)
  have HR : Hid (((w.alloc (.cells #[.float .f64 r, .float .f64 s, .float .f64 q, .float .f64 b, .float .f64 t] 64)).alloc (.cells #[.int .u64 0, .int .u64 0, .int .u64 0, .int .u64 0, .int .u64 0] 208)).heap[w.heap.size + 1]? = some (.cells #[.int .u64 0, .int .u64 0, .int .u64 0, .int .u64 0, .int .u64 0] 208)) := by
    have := heap_alloc_last (w.alloc (.cells #[.float .f64 r, .float .f64 s, .float .f64 q, .float .f64 b, .float .f64 t] 64)) (.cells #[.int .u64 0, .int .u64 0, .int .u64 0, .int .u64 0, .int .u64 0] 208)
    rwa [show (w.alloc (.cells #[.float .f64 r, .float .f64 s, .float .f64 q, .float .f64 b, .float .f64 t] 64)).heap.size = w.heap.size + 1 by simp] at this
  go_enter Tryz.func188, Tryz.ntmps188
  go_wp2_with fail
  generalize (w.alloc (.cells #[.float .f64 r, .float .f64 s, .float .f64 q, .float .f64 b, .float .f64 t] 64)).alloc (.cells #[.int .u64 0, .int .u64 0, .int .u64 0, .int .u64 0, .int .u64 0] 208) = W at *
  have HL : Hid (w.heap.size ≤ w.heap.size + 1) := Nat.le_succ _
  generalize w.heap.size + 1 = g at *
  generalize hh0 : w.heap.size = h0 at *
  refine wp_region_shut 16 [(0, none), (1, some false), (3, none), (4, some false), (6, none), (7, some false), (9, none), (10, some false), (12, none), (13, some false), (2, some true), (5, some true), (8, some true), (11, some true), (14, some true), (15, none)] (fun w' => B5 w' h0 r s q b t) (by kernel_rfl) (by decide) rfl (by kernel_rfl) (fun _ _ d _ _ h => by cases d <;> exact h) (b5drew HB) ?_
  refine OrdS.looks (.pointer (some ⟨h0, 2, none⟩)) (some 3) _ rfl rfl (Or.inl ⟨by kernel_rfl, fun w' hS => ?_⟩) ?_
  · go_simp
  refine OrdS.reads (.float .f64 q) (some 4) _ rfl rfl (Or.inl ⟨by kernel_rfl, fun w' hS => ?_⟩) ?_
  · obtain ⟨z0, z1, z2, z3, z4⟩ := hS
    go_simp
  refine OrdS.looks (.pointer (some ⟨h0, 0, none⟩)) (some 6) _ rfl rfl (Or.inl ⟨by kernel_rfl, fun w' hS => ?_⟩) ?_
  · go_simp
  refine OrdS.reads (.float .f64 r) (some 7) _ rfl rfl (Or.inl ⟨by kernel_rfl, fun w' hS => ?_⟩) ?_
  · obtain ⟨z0, z1, z2, z3, z4⟩ := hS
    go_simp
  refine OrdS.looks (.pointer (some ⟨h0, 1, none⟩)) (some 9) _ rfl rfl (Or.inl ⟨by kernel_rfl, fun w' hS => ?_⟩) ?_
  · go_simp
  refine OrdS.reads (.float .f64 s) (some 10) _ rfl rfl (Or.inl ⟨by kernel_rfl, fun w' hS => ?_⟩) ?_
  · obtain ⟨z0, z1, z2, z3, z4⟩ := hS
    go_simp
  refine OrdS.looks (.pointer (some ⟨h0, 3, none⟩)) (some 12) _ rfl rfl (Or.inl ⟨by kernel_rfl, fun w' hS => ?_⟩) ?_
  · go_simp
  refine OrdS.reads (.float .f64 b) (some 13) _ rfl rfl (Or.inl ⟨by kernel_rfl, fun w' hS => ?_⟩) ?_
  · obtain ⟨z0, z1, z2, z3, z4⟩ := hS
    go_simp
  refine OrdS.looks (.pointer (some ⟨h0, 4, none⟩)) (some 15) _ rfl rfl (Or.inl ⟨by kernel_rfl, fun w' hS => ?_⟩) ?_
  · go_simp
  refine OrdS.reads (.float .f64 t) (some 16) _ rfl rfl (Or.inl ⟨by kernel_rfl, fun w' hS => ?_⟩) ?_
  · obtain ⟨z0, z1, z2, z3, z4⟩ := hS
    go_simp
  simp only [Act.put, List.setIfInBounds_toArray, List.set_cons_succ, List.set_cons_zero]
  refine OrdS.does ?_
  refine wpOp_callG (f := 205) (some 5) rfl rfl (by kernel_rfl) rfl #[.float .f64 q] (by kernel_rfl) (eg205 _ _) ?_
  refine (C0.out _).mono ?_
  rintro e w' ⟨rfl, hw⟩
  subst w'
  refine ⟨_, rfl, b5drew HB, ?_⟩
  refine OrdS.does ?_
  refine wpOp_callG (f := 206) (some 8) rfl rfl (by kernel_rfl) rfl #[.float .f64 r] (by kernel_rfl) (eg206 _ _) ?_
  refine (C1.out _).mono ?_
  rintro e w' ⟨rfl, hw⟩
  subst w'
  refine ⟨_, rfl, b5drew HB, ?_⟩
  refine OrdS.does ?_
  refine wpOp_callG (f := 206) (some 11) rfl rfl (by kernel_rfl) rfl #[.float .f64 s] (by kernel_rfl) (eg206 _ _) ?_
  refine (C2.out _).mono ?_
  rintro e w' ⟨rfl, hw⟩
  subst w'
  refine ⟨_, rfl, b5drew HB, ?_⟩
  refine OrdS.does ?_
  refine wpOp_callG (f := 206) (some 14) rfl rfl (by kernel_rfl) rfl #[.float .f64 b] (by kernel_rfl) (eg206 _ _) ?_
  refine (C3.out _).mono ?_
  rintro e w' ⟨rfl, hw⟩
  subst w'
  refine ⟨_, rfl, b5drew HB, ?_⟩
  refine OrdS.does ?_
  refine wpOp_callG (f := 206) (some 17) rfl rfl (by kernel_rfl) rfl #[.float .f64 t] (by kernel_rfl) (eg206 _ _) ?_
  refine (C4.out _).mono ?_
  rintro e w' ⟨rfl, hw⟩
  subst w'
  refine ⟨_, rfl, b5drew HB, ?_⟩
  simp only [Act.put, List.setIfInBounds_toArray, List.set_cons_succ, List.set_cons_zero]
  refine OrdS.looks (.agg #[.int .u64 f0, .int .u64 k1, .int .u64 k2, .int .u64 k3, .int .u64 k4]) (some 18) _ rfl rfl (Or.inl ⟨by kernel_rfl, fun w' hS => ?_⟩) ?_
  · go_simp
  refine OrdS.ends ?_
  simp only [List.drop_succ_cons, List.drop_zero, Act.put, List.setIfInBounds_toArray, List.set_cons_succ, List.set_cons_zero]
  refine wpList_store_mid rfl 208 _ _ rfl g 0 _ rfl rfl (Bk.there HR.out) size92 (by simp [Value.oneCell']) ?_
  have HG2 : Hid (Gr w (W.drew.setCells g 0 [.int .u64 f0, .int .u64 k1, .int .u64 k2, .int .u64 k3, .int .u64 k4])) := gr_set (HG.out.trans (Gr.drewN W 1)) (by rw [hh0]; exact HL.out) 0 _
  have HR2 : Hid (Bk (W.drew.setCells g 0 [.int .u64 f0, .int .u64 k1, .int .u64 k2, .int .u64 k3, .int .u64 k4]) g 208 (.int .u64 f0) (.int .u64 k1) (.int .u64 k2) (.int .u64 k3) (.int .u64 k4)) := Bk.set (Bk.up (show Bk W g 208 _ _ _ _ _ from HR.out) (Up.drew W)) _ _ _ _ _
  simp only
  generalize W.drew.setCells g 0 [.int .u64 f0, .int .u64 k1, .int .u64 k2, .int .u64 k3, .int .u64 k4] = W2 at *
  go_wp2
  exact bodyPost_ret (results_cell_row Tryz.results188 _ _ g 208 _ (0, 0) _ rfl HR2.out Tryz.underlying208 rfl size92) rfl ⟨rfl, HG2⟩
end Go.Proofs.YtflngnnoibkkoaaGreat.Pl
/- slices.Compare of ranks; how two plots stand to each other. -/
namespace Go.Proofs.YtflngnnoibkkoaaGreat.Pl
open Go.ChangeShapes Go.WideShapes Go.ChangeAt Go.RowKit Go.Fl Go.Sort
set_option maxRecDepth 200000
set_option maxHeartbeats 8000000
attribute [local go_sem] run_store_float call34 run_neg fold_eq fold_ne fold_lt fold_gt abs_eq

def fromN (A B : Nat → Nat) : Nat → Nat → Int
  | 0, _ => 0
  | n + 1, i => orI (cmpN (A i) (B i)) (fromN A B n (i + 1))
/-- Five numbers that can be read. -/
structure R5 (w : World) (g : Nat) (A : Nat → Nat) : Prop where
  at' : ∀ j, j < 5 → w.cell? ⟨g, j, none⟩ = some (.int .u64 (A j))
theorem t189 (g h : Nat) (A B : Nat → Nat) (w : World) (ha : R5 w g A) (hb : R5 w h B) : Calls Tryz.prog 189 #[.slice (some ⟨g, 0, none⟩) 5 5, .slice (some ⟨h, 0, none⟩) 5 5] w fun e w' => e = .returned (.int .i64 (fromN A B 5 0)) ∧ w' = w := by
  have HA : Hid (R5 w g A) := ha
  have HB : Hid (R5 w h B) := hb
  clear ha hb
  generalize hR : fromN A B 5 0 = R
  have HR : Hid (R = fromN A B (5 - 0) 0) := hR.symm
  clear hR
  go_enter Tryz.func189, Tryz.ntmps189
  go_wp2
  go_loopw [11] (fun vi wr => ∃ i : Nat, i ≤ 5 ∧ vi = .int .i64 i ∧ wr = w ∧ Hid (R = fromN A B (5 - i) i)) (fun vi _ => 5 - (intOf vi).toNat)
  case atStart => exact ⟨0, by omega, rfl, rfl, HR⟩
  case round =>
    obtain ⟨i, hi, rfl, hw, HI⟩ := hrel
    subst hw
    by_cases hlt : i < 5
    · have ca := HA.out.at' i hlt
      have cb := HB.out.at' i hlt
      have HI2 : Hid (R = orI (cmpN (A i) (B i)) (fromN A B (5 - (i + 1)) (i + 1))) := by
        have e := HI.out
        rw [show 5 - i = (5 - (i + 1)) + 1 by omega] at e
        exact e
      clear HI
      generalize A i = a at *
      generalize B i = b at *
      have C : Hid (∀ w, Calls Tryz.prog 207 #[.int .u64 a, .int .u64 b] w fun e w' => e = .returned (.int .i64 (cmpN a b)) ∧ w' = w) := fun w => t207u a b w
      generalize cmpN a b = c at *
      by_cases hc : c = 0
      · have HN : Hid (R = fromN A B (5 - (i + 1)) (i + 1)) := by
          have e := HI2.out
          unfold orI at e
          rw [if_neg (by simp [hc])] at e
          exact e
        have b0 : (c != 0) = false := by simp [hc]
        clear hc HI2
        go_wp2_with (go_at_call 207; (with_reducible refine (C.out _).mono ?_); rintro e w' ⟨rfl, hw⟩; subst w')
        go_roundw
        case rel => exact ⟨i + 1, by omega, by go_num, by first | rfl | trivial, HN⟩
        case measure => simp [intOf]; omega
      · have HN : Hid (R = c) := by
          have e := HI2.out
          unfold orI at e
          rw [if_pos (by simpa using hc)] at e
          exact e
        have b0 : (c != 0) = true := by simp [hc]
        clear hc HI2
        go_wp2_with (go_at_call 207; (with_reducible refine (C.out _).mono ?_); rintro e w' ⟨rfl, hw⟩; subst w')
        go_ret
        exact ⟨by rw [HN.out]; rfl, rfl⟩
    · obtain rfl : i = 5 := by omega
      have HN : Hid (R = 0) := HI.out
      clear HI hlt
      go_wp2
      go_ret
      exact ⟨by rw [HN.out]; rfl, rfl⟩
end Go.Proofs.YtflngnnoibkkoaaGreat.Pl
/- A region that draws its order: what is first only reads, lays blocks and calls what only lays blocks, in whatever order; what writes comes behind all of it. No program. -/
namespace Go.Proofs.YtflngnnoibkkoaaGreat.Pl
open Go Go.RowKit
set_option maxRecDepth 200000
set_option maxHeartbeats 8000000

theorem any_more {P : Program} {ops : Array Oper} {Q : Exit → Act → World → Prop} : ∀ (f : Nat) (listed : Array Bool) (a : Act) (w : World), wpAny P .any ops Q f listed a w → wpAny P .any ops Q (f + 1) listed a w
  | 0, _, _, _, h => ⟨fun _ => h.2, fun i hi => by rw [h.1] at hi; cases hi⟩
  | f + 1, _, _, _, h => ⟨h.1, fun i hi => wpOp_mono (fun a' w' k => any_more f _ a' w' k) (h.2 i hi)⟩
theorem any_more' {P : Program} {ops : Array Oper} {Q : Exit → Act → World → Prop} {f : Nat} {listed : Array Bool} {a : Act} {w : World} (h : wpAny P .any ops Q f listed a w) : ∀ k, wpAny P .any ops Q (f + k) listed a w
  | 0 => h
  | k + 1 => any_more _ _ _ _ (any_more' h k)
/-- What is known while the first n operations are under way. -/
structure Jn (a : Act) (W0 : World) (ds : List Nat) (V : Nat → Value → World → Prop) (R : Nat → Nat → Value → Value → Prop) (listed : Array Bool) (a' : Act) (w' : World) : Prop where
  gr : Gr W0 w'
  size : a'.tmps.size = a.tmps.size
  defers : a'.defers = a.defers
  rest : ∀ t, t ∉ ds → a'.tmps.getD t undef = a.tmps.getD t undef
  done : ∀ i d, ds[i]? = some d → listed.getD i false = true → V i (a'.tmps.getD d undef) w'
  apart : ∀ i d j e, ds[i]? = some d → ds[j]? = some e → i ≠ j → listed.getD i false = true → listed.getD j false = true → R i j (a'.tmps.getD d undef) (a'.tmps.getD e undef)
/-- How many are left. -/
def leftN (n : Nat) (listed : Array Bool) : Nat := ((List.range n).filter fun j => !(listed.getD j true)).length
theorem leftN_set {n i : Nat} {listed : Array Bool} (hi : i < n) (hl : listed.getD i true = false) : leftN n (listed.setIfInBounds i true) + 1 = leftN n listed := by
  have hs : i < listed.size := by
    rcases Nat.lt_or_ge i listed.size with h | h
    · exact h
    · rw [Array.getD_eq_getD_getElem?, Array.getElem?_eq_none (by omega)] at hl; cases hl
  have hnd : ((List.range n).filter fun j => !(listed.getD j true)).Nodup := List.Nodup.sublist List.filter_sublist List.nodup_range
  have hm : i ∈ ((List.range n).filter fun j => !(listed.getD j true)) := by
    rw [List.mem_filter, List.mem_range]
    exact ⟨hi, by rw [hl]; rfl⟩
  have e : ((List.range n).filter fun j => !((listed.setIfInBounds i true).getD j true)) = ((List.range n).filter fun j => !(listed.getD j true)).erase i := by
    rw [hnd.erase_eq_filter, List.filter_filter]
    apply List.filter_congr
    intro j _
    by_cases e : j = i
    · subst e
      simp [hs]
    · rw [getD_set_ne true (Ne.symm e)]
      simp [e]
  unfold leftN
  rw [e, List.length_erase_of_mem hm]
  have := List.length_pos_of_mem hm
  omega
theorem leftN_zero {n : Nat} {listed : Array Bool} (h : leftN n listed = 0) : ∀ i, i < n → listed.getD i true = true := by
  intro i hi
  unfold leftN at h
  have := List.filter_eq_nil_iff.1 (List.eq_nil_of_length_eq_zero h) i (List.mem_range.2 hi)
  simpa using this
/-- What is first waits for what stands ahead of it alone. -/
def lowB (l : List Oper) (n : Nat) : Bool := (List.range n).all fun i => match l[i]? with | some o => o.after.all fun e => !Region.binds .any e || decide (e.on < i) | none => true
theorem low_spec {l : List Oper} {n : Nat} (h : lowB l n = true) {i : Nat} {o : Oper} (hi : i < n) (ho : l[i]? = some o) : ∀ e ∈ o.after, Region.binds .any e = true → e.on < i := by
  intro e he hb
  have := List.all_eq_true.1 h i (List.mem_range.2 hi)
  simp only [ho] at this
  have := Array.all_eq_true'.1 this e he
  simpa [hb] using this
theorem ready_some {l : List Oper} {n : Nat} (hlow : lowB l n = true) {listed : Array Bool} (hI : HeadInv .any l.toArray n listed) (hn : n < l.length) : ∀ (i : Nat), i < n → listed.getD i true = false → Region.ready .any l.toArray listed ≠ [] := by
  intro i
  induction i using Nat.strongRecOn with
  | ind i ih =>
    intro hi hun hr
    have hl : i < l.length := by omega
    by_cases hall : ∀ e ∈ (l[i]).after, Region.binds .any e = true → listed.getD e.on false = true
    · have : i ∈ Region.ready .any l.toArray listed := mem_ready.2 ⟨hun, l[i], by simp [hl], hall⟩
      rw [hr] at this
      cases this
    · obtain ⟨e, he⟩ := Classical.not_forall.1 hall
      obtain ⟨he1, he⟩ := Classical.not_imp.1 he
      obtain ⟨he2, he3⟩ := Classical.not_imp.1 he
      have hlt := low_spec hlow hi (List.getElem?_eq_getElem hl) e he1 he2
      have hsz : e.on < listed.size := by rw [hI.size]; simp; omega
      exact ih e.on hlt (by omega) (by simp [hsz] at he3 ⊢; exact he3) hr
theorem grow_any {P : Program} {l : List Oper} {Q : Exit → Act → World → Prop} {n : Nat} {ds : List Nat} {V : Nat → Value → World → Prop} {R : Nat → Nat → Value → Value → Prop} {a : Act} {W0 : World} (hn : n < l.length) (hlen : ds.length = n) (hds : (l.take n).map (·.dst) = ds.map some) (hnd : ds.Nodup) (hin : ∀ d ∈ ds, d < a.tmps.size)
    (hlow : lowB l n = true) (hs : Region.sinkB .any l.toArray n = true) (hc : Region.chainB .any l.toArray n = true)
    (hq : Region.seqB .any l.toArray (l.length - n) n (Array.replicate n true ++ Array.replicate (l.length - n) false) = true)
    (hV : ∀ i v w w', V i v w → Gr w w' → V i v w')
    (hstep : ∀ i o, i < n → l[i]? = some o → ∀ listed a' w', Jn a W0 ds V R listed a' w' → (∀ e ∈ o.after, Region.binds .any e = true → listed.getD e.on false = true) → wpOp P l.toArray Q i (fun a'' w'' => ∃ v, a'' = a'.put o.dst v ∧ V i v w'' ∧ Gr w' w'' ∧ ∀ j d, ds[j]? = some d → i ≠ j → listed.getD j false = true → R i j v (a'.tmps.getD d undef) ∧ R j i (a'.tmps.getD d undef) v) a' w')
    (hend : ∀ a' w', Gr W0 w' → a'.tmps.size = a.tmps.size → a'.defers = a.defers → (∀ t, t ∉ ds → a'.tmps.getD t undef = a.tmps.getD t undef) → (∀ i d, ds[i]? = some d → V i (a'.tmps.getD d undef) w') → (∀ i d j e, ds[i]? = some d → ds[j]? = some e → i ≠ j → R i j (a'.tmps.getD d undef) (a'.tmps.getD e undef)) → wpList P l.toArray Q (l.drop n) a' w') :
    ∀ (u : Nat) (listed : Array Bool) (a' : Act) (w' : World), leftN n listed = u → HeadInv .any l.toArray n listed → Jn a W0 ds V R listed a' w' → wpAny P .any l.toArray Q (u + (l.length - n)) listed a' w'
  | 0, listed, a', w', hu, hI, hJ => by
    have hall := leftN_zero hu
    have hdl : (l.drop n).length = l.length - n := by simp
    have hsz := hI.size
    have e : listed = Array.replicate n true ++ Array.replicate (l.length - n) false := by
      apply Array.ext
      · rw [hsz]; simp; omega
      · intro i h1 h2
        by_cases hi : i < n
        · have := hall i hi
          rw [Array.getElem_append_left (by simpa using hi)]
          simp
          simpa [h1] using this
        · have := hI.tail i (by omega) (by rw [← hsz]; exact h1)
          rw [Array.getElem_append_right (by simp; omega)]
          simp
          simpa [h1] using this
    rw [Nat.zero_add]
    have hyes : ∀ i d, ds[i]? = some d → listed.getD i false = true := fun i d hd => by
      have hi : i < n := by rw [← hlen]; exact (List.getElem?_eq_some_iff.1 hd).1
      have := hall i hi
      have hlt : i < listed.size := by rw [hsz]; simp; omega
      simpa [hlt] using this
    have hx := wpAny_of_seq (P := P) (md := .any) (ops := l.toArray) (Q' := Q) (l.drop n) n listed a' w' (fun j => by simp [List.getElem?_drop]) (by rw [hdl, e]; exact hq)
      (hend a' w' hJ.gr hJ.size hJ.defers hJ.rest (fun i d hd => hJ.done i d hd (hyes i d hd)) (fun i d j e hd he hne => hJ.apart i d j e hd he hne (hyes i d hd) (hyes j e he)))
    rw [hdl] at hx
    exact hx
  | u + 1, listed, a', w', hu, hI, hJ => by
    rw [show u + 1 + (l.length - n) = (u + (l.length - n)) + 1 by omega]
    have hsome : ∃ i, i < n ∧ listed.getD i true = false := by
      have : ∃ i, i ∈ ((List.range n).filter fun j => !(listed.getD j true)) := by
        cases hf : ((List.range n).filter fun j => !(listed.getD j true)) with
        | nil => unfold leftN at hu; rw [hf] at hu; cases hu
        | cons x t => exact ⟨x, by simp⟩
      obtain ⟨i, hi⟩ := this
      rw [List.mem_filter, List.mem_range] at hi
      exact ⟨i, hi.1, by simpa using hi.2⟩
    obtain ⟨i0, hi0, hun0⟩ := hsome
    have key : ∀ j ∈ Region.ready .any l.toArray listed, j < n := fun j hj => by
      rcases Nat.lt_or_ge j n with h | h
      · exact h
      · exact absurd hj (tail_waits hs hc (by simpa using hn) hI _ i0 rfl hi0 hun0 j h)
    refine ⟨fun hr => ?_, fun j hj => ?_⟩
    · exact absurd hr (ready_some hlow hI hn i0 hi0 hun0)
    · have hjn := key j hj
      obtain ⟨hjun, o, ho, hall⟩ := mem_ready.1 hj
      have ho' : l[j]? = some o := by simpa using ho
      obtain ⟨d, hd⟩ : ∃ d, ds[j]? = some d := ⟨ds[j]'(by omega), List.getElem?_eq_getElem (by omega)⟩
      have hod : o.dst = some d := by
        have := congrArg (fun x => x[j]?) hds
        simp only [List.getElem?_map, List.getElem?_take, if_pos hjn, ho', hd, Option.map_some] at this
        exact Option.some.inj this
      refine wpOp_mono (fun a2 w2 k => ?_) (hstep j o hjn ho' listed a' w' hJ hall)
      obtain ⟨v, rfl, hv, hg, hR⟩ := k
      have hdm : d ∈ ds := List.mem_of_getElem? hd
      have hda : d < a'.tmps.size := by rw [hJ.size]; exact hin d hdm
      refine grow_any hn hlen hds hnd hin hlow hs hc hq hV hstep hend u _ _ _ (by have := leftN_set hjn hjun; omega) (hI.set hj hjn) ⟨hJ.gr.trans hg, ?_, ?_, ?_, ?_, ?_⟩
      · rw [hod]; simp [Act.put, hJ.size]
      · rw [hod]; simp [Act.put, hJ.defers]
      · intro t ht
        rw [hod]
        have hne : d ≠ t := fun e => ht (e ▸ hdm)
        have := hJ.rest t ht
        simp only [Act.put, Array.getD_eq_getD_getElem?] at this ⊢
        rw [Array.getElem?_setIfInBounds_ne hne]
        exact this
      · intro i d' hd' hl
        rw [hod]
        simp only [Act.put, Array.getD_eq_getD_getElem?]
        by_cases e : i = j
        · subst e
          rw [hd] at hd'
          obtain rfl := Option.some.inj hd'
          rw [Array.getElem?_setIfInBounds_self_of_lt hda]
          exact hv
        · have hne : d ≠ d' := by
            intro he
            subst he
            have h1 := List.getElem?_eq_some_iff.1 hd
            have h2 := List.getElem?_eq_some_iff.1 hd'
            obtain ⟨p1, q1⟩ := h1
            obtain ⟨p2, q2⟩ := h2
            exact e ((List.getElem_inj hnd).1 (q2.trans q1.symm))
          rw [Array.getElem?_setIfInBounds_ne hne]
          have hl' : listed.getD i false = true := by rw [getD_set_ne false (Ne.symm e)] at hl; exact hl
          have := hJ.done i d' hd' hl'
          rw [Array.getD_eq_getD_getElem?] at this
          exact hV _ _ _ _ this hg
      · intro i d1 i2 d2 h1 h2 hne hl1 hl2
        have other : ∀ i d', ds[i]? = some d' → i ≠ j → (listed.setIfInBounds j true).getD i false = true → (a'.tmps.setIfInBounds d v).getD d' undef = a'.tmps.getD d' undef ∧ listed.getD i false = true := by
          intro i d' hd' e hl
          have hne : d ≠ d' := by
            intro he
            subst he
            obtain ⟨p1, q1⟩ := List.getElem?_eq_some_iff.1 hd
            obtain ⟨p2, q2⟩ := List.getElem?_eq_some_iff.1 hd'
            exact e ((List.getElem_inj hnd).1 (q2.trans q1.symm))
          refine ⟨?_, by rw [getD_set_ne false (Ne.symm e)] at hl; exact hl⟩
          simp only [Array.getD_eq_getD_getElem?]
          rw [Array.getElem?_setIfInBounds_ne hne]
        have self : (a'.tmps.setIfInBounds d v).getD d undef = v := by
          simp only [Array.getD_eq_getD_getElem?]
          rw [Array.getElem?_setIfInBounds_self_of_lt hda]
          rfl
        rw [hod]
        show R i i2 ((a'.tmps.setIfInBounds d v).getD d1 undef) ((a'.tmps.setIfInBounds d v).getD d2 undef)
        by_cases e1 : i = j
        · subst e1
          rw [hd] at h1
          obtain rfl := Option.some.inj h1
          obtain ⟨o1, o2⟩ := other i2 d2 h2 (Ne.symm hne) hl2
          rw [self, o1]
          exact (hR i2 d2 h2 hne o2).1
        · obtain ⟨o1, o2⟩ := other i d1 h1 e1 hl1
          rw [o1]
          by_cases e2 : i2 = j
          · subst e2
            rw [hd] at h2
            obtain rfl := Option.some.inj h2
            rw [self]
            exact (hR i d1 h1 (Ne.symm hne) o2).2
          · obtain ⟨o3, o4⟩ := other i2 d2 h2 e2 hl2
            rw [o3]
            exact hJ.apart i d1 i2 d2 h1 h2 hne o2 o4
/-- The law. -/
theorem wp_region_grow {P : Program} {id : Nat} {l : List Oper} {Q : Exit → Act → World → Prop} {a : Act} {w : World} (n : Nat) (ds : List Nat) (V : Nat → Value → World → Prop) (R : Nat → Nat → Value → Value → Prop) (hm : P.follows .mixedOrders = true) (hn : n < l.length) (hlen : ds.length = n) (hds : (l.take n).map (·.dst) = ds.map some) (hnd : ds.Nodup) (hin : ∀ d ∈ ds, d < a.tmps.size)
    (hlow : lowB l n = true) (hs : Region.sinkB .any l.toArray n = true) (hc : Region.chainB .any l.toArray n = true)
    (hq : Region.seqB .any l.toArray (l.length - n) n (Array.replicate n true ++ Array.replicate (l.length - n) false) = true)
    (hV : ∀ i v w w', V i v w → Gr w w' → V i v w')
    (hstep : ∀ i o, i < n → l[i]? = some o → ∀ listed a' w', Jn a w.drew ds V R listed a' w' → (∀ e ∈ o.after, Region.binds .any e = true → listed.getD e.on false = true) → wpOp P l.toArray Q i (fun a'' w'' => ∃ v, a'' = a'.put o.dst v ∧ V i v w'' ∧ Gr w' w'' ∧ ∀ j d, ds[j]? = some d → i ≠ j → listed.getD j false = true → R i j v (a'.tmps.getD d undef) ∧ R j i (a'.tmps.getD d undef) v) a' w')
    (hend : ∀ a' w', Gr w.drew w' → a'.tmps.size = a.tmps.size → a'.defers = a.defers → (∀ t, t ∉ ds → a'.tmps.getD t undef = a.tmps.getD t undef) → (∀ i d, ds[i]? = some d → V i (a'.tmps.getD d undef) w') → (∀ i d j e, ds[i]? = some d → ds[j]? = some e → i ≠ j → R i j (a'.tmps.getD d undef) (a'.tmps.getD e undef)) → wpList P l.toArray Q (l.drop n) a' w') :
    (Code.region id l.toArray true).wp P Q a w := by
  refine wp_region_any hm ?_
  have hI : HeadInv .any l.toArray n (Array.replicate l.toArray.size false) := ⟨by simp, fun j oj _ hl => (by rw [getD_replicate_false] at hl; cases hl), fun t _ ht => getD_in (by simpa using ht) (getD_replicate_false _ _)⟩
  have hJ : Jn a w.drew ds V R (Array.replicate l.toArray.size false) a w.drew := ⟨Gr.refl _, rfl, rfl, fun _ _ => rfl, fun i d _ hl => (by rw [getD_replicate_false] at hl; cases hl), fun i d j e _ _ _ hl => (by rw [getD_replicate_false] at hl; cases hl)⟩
  have H := grow_any (P := P) (Q := Q) hn hlen hds hnd hin hlow hs hc hq hV hstep hend _ _ _ _ rfl hI hJ
  have hle : leftN n (Array.replicate l.toArray.size false) ≤ n := by
    unfold leftN
    have := List.length_filter_le (fun j => !((Array.replicate l.toArray.size false).getD j true)) (List.range n)
    simpa using this
  have := any_more' H (n - leftN n (Array.replicate l.toArray.size false))
  rw [show leftN n (Array.replicate l.toArray.size false) + (l.length - n) + (n - leftN n (Array.replicate l.toArray.size false)) = l.toArray.size by simp at hle ⊢; omega] at this
  exact this
end Go.Proofs.YtflngnnoibkkoaaGreat.Pl
/- How two plots stand to each other. -/
namespace Go.Proofs.YtflngnnoibkkoaaGreat.Pl
open Go.ChangeShapes Go.WideShapes Go.ChangeAt Go.RowKit Go.Fl Go.Sort
set_option maxRecDepth 200000
set_option maxHeartbeats 8000000
attribute [local go_sem] run_store_float call34 run_neg fold_eq fold_ne fold_lt fold_gt abs_eq

/-- An operation that yields a value in one world's growing. -/
theorem wpOp_run {P : Program} {ops : Array Oper} {Q : Exit → Act → World → Prop} {K : Act → World → Prop} {a : Act} {w w' : World} {m : Nat} {o : Oper} {v : Value} (ho : ops[m]? = some o) (hg : o.guard = none) (he : (execOp a.eval o).run P w = .ok (.value v) w') (h : K (a.put o.dst v) w') : wpOp P ops Q m K a w := by
  unfold wpOp
  have hw : Region.wanted o (yielded ops a.tmps) = true := by simp [Region.wanted, hg]
  simp only [ho, hw, if_true]
  left
  unfold Oper.wp
  rw [he]
  exact h
theorem wpOp_of {P : Program} {ops : Array Oper} {Q : Exit → Act → World → Prop} {K : Act → World → Prop} {a : Act} {w : World} {m : Nat} {o : Oper} (ho : ops[m]? = some o) (hg : o.guard = none) (h : o.wp P a w K Q) : wpOp P ops Q m K a w := by
  unfold wpOp
  have hw : Region.wanted o (yielded ops a.tmps) = true := by simp [Region.wanted, hg]
  simp only [ho, hw, if_true]
  exact Or.inl h
theorem act_of {a' : Act} {t : Array Value} {d : List Deferred} (hs : a'.tmps.size = t.size) (hd : a'.defers = d) (h : ∀ i, i < t.size → a'.tmps.getD i undef = t.getD i undef) : a' = ⟨t, d⟩ := by
  obtain ⟨t', d'⟩ := a'
  simp only at hs hd h
  subst hd
  congr 1
  apply Array.ext hs
  intro i h1 h2
  have := h i h2
  simpa [h1, h2] using this
theorem eg188 (args : Array Value) (w : World) : (callFunc 188 args).run Tryz.prog w = .ok (.enter 188 args) w := enters Tryz.func188 (by kernel_rfl) (by kernel_rfl) _ _
theorem eg189 (args : Array Value) (w : World) : (callFunc 189 args).run Tryz.prog w = .ok (.enter 189 args) w := enters Tryz.func189 (by kernel_rfl) (by kernel_rfl) _ _
theorem size28 : (Tryz.prog.info? 64).map (·.size) = some 5 := by kernel_rfl
theorem orI_zero (x : Int) : orI x 0 = x := by unfold orI; split <;> simp_all
theorem from5 (p q : Plt) : fromN (fun j => [fall p.p, key p.r, key p.s, key p.b, key p.t].getD j 0) (fun j => [fall q.p, key q.r, key q.s, key q.b, key q.t].getD j 0) 5 0 = cmp5 p q := by
  show orI (cmpN (fall p.p) (fall q.p)) (orI (cmpN (key p.r) (key q.r)) (orI (cmpN (key p.s) (key q.s)) (orI (cmpN (key p.b) (key q.b)) (orI (cmpN (key p.t) (key q.t)) 0)))) = _
  rw [orI_zero]
  rfl
/-- What the first six operations yield. -/
def V38 (b0 : Nat) (p q : Plt) (i : Nat) (v : Value) (w : World) : Prop :=
  match i with
  | 0 => v = .agg (pC p)
  | 1 => v = .agg (rC p)
  | 2 => v = .agg (pC q)
  | 3 => v = .agg (rC q)
  | _ => ∃ g, v = .pointer (some ⟨g, 0, none⟩) ∧ b0 ≤ g ∧ Bk w g 208 (.int .u64 0) (.int .u64 0) (.int .u64 0) (.int .u64 0) (.int .u64 0)
def R38 (i j : Nat) (u v : Value) : Prop := i = 4 → j = 5 → u ≠ v
theorem r_any {i j : Nat} {u v : Value} (h : ¬(i = 4 ∧ j = 5)) : R38 i j u v := fun a b => absurd ⟨a, b⟩ h
theorem V38.up {b0 : Nat} {p q : Plt} {i : Nat} {v : Value} {w w' : World} (h : V38 b0 p q i v w) (hg : Gr w w') : V38 b0 p q i v w' := by
  unfold V38 at *
  split at h
  · exact h
  · exact h
  · exact h
  · exact h
  · obtain ⟨g, h1, h2, h3⟩ := h
    exact ⟨g, h1, h2, h3.up hg.up⟩

set_option maxHeartbeats 4000000 in
theorem t159 (p q : Plt) (hp : p.Fit) (hq : q.Fit) (w : World) : Calls Tryz.prog 159 #[.agg (pC p), .agg (pC q)] w fun e w' => e = .returned (.int .i64 (cmp5 p q)) ∧ Hid (Gr w w') := by
  have CP : Hid (∀ w, Calls Tryz.prog 188 #[.agg (pC p)] w fun e w' => e = .returned (.agg (rC p)) ∧ Hid (Gr w w')) := fun w => t188 p hp w
  have CQ : Hid (∀ w, Calls Tryz.prog 188 #[.agg (pC q)] w fun e w' => e = .returned (.agg (rC q)) ∧ Hid (Gr w w')) := fun w => t188 q hq w
  have HA : Hid (((w.alloc (.cells (pC p) 64)).alloc (.cells (pC q) 64)).heap[w.heap.size]? = some (.cells (pC p) 64)) := by
    have h1 : (w.alloc (.cells (pC p) 64)).heap[w.heap.size]? = some (.cells (pC p) 64) := heap_alloc_last _ _
    exact (RowKit.Below.block (Up.alloc (w.alloc (.cells (pC p) 64)) _) w.heap.size (by simp)).trans h1
  have HB : Hid (((w.alloc (.cells (pC p) 64)).alloc (.cells (pC q) 64)).heap[w.heap.size + 1]? = some (.cells (pC q) 64)) := by
    have := heap_alloc_last (w.alloc (.cells (pC p) 64)) (.cells (pC q) 64)
    rwa [show (w.alloc (.cells (pC p) 64)).heap.size = w.heap.size + 1 by simp] at this
  have HG : Hid (Gr w ((w.alloc (.cells (pC p) 64)).alloc (.cells (pC q) 64))) := (Gr.alloc _ _).trans (Gr.alloc _ _)
  have hpc : (pC p).size = 5 := rfl
  have hqc : (pC q).size = 5 := rfl
  clear hp hq
  generalize hPP : pC p = PP at *
  generalize hQQ : pC q = QQ at *
  go_enter Tryz.func159, Tryz.ntmps159
  go_wp2_with fail
  generalize (w.alloc (.cells PP 64)).alloc (.cells QQ 64) = W at *
  have hx : w.heap.size ≤ W.heap.size := HG.out.up.size
  generalize hww : w.heap.size + 1 = y at *
  refine wp_region_grow 6 [7, 8, 9, 10, 5, 6] (V38 W.heap.size p q) R38 (by kernel_rfl) (by decide) rfl rfl (by decide) (by simp) (by kernel_rfl) (by kernel_rfl) (by kernel_rfl) (by kernel_rfl) (fun _ _ _ _ h hg => h.up hg) ?_ ?_
  · intro i o hi ho listed a' w' hJ hall
    have hup := hJ.gr.up
    have hup0 : Up W w' := (Up.drew W).trans hup
    rcases (show i = 0 ∨ i = 1 ∨ i = 2 ∨ i = 3 ∨ i = 4 ∨ i = 5 by omega) with rfl | rfl | rfl | rfl | rfl | rfl
    · obtain rfl := Option.some.inj ho
      have h2 := hJ.rest 2 (by decide)
      have hb : w'.heap[w.heap.size]? = some (.cells PP 64) := (RowKit.Below.block hup0 _ (Array.getElem?_eq_some_iff.1 HA.out).1).trans HA.out
      exact wpOp_of rfl rfl (wp_load_row 64 (.tmp 2) rfl w.heap.size h2 64 PP (0, 0) _ hb Tryz.underlying64 rfl (by rw [size28, hpc]) ⟨_, rfl, congrArg Value.agg hPP.symm, Gr.refl _, fun j d _ hne _ => ⟨r_any (by omega), r_any (by omega)⟩⟩)
    · obtain rfl := Option.some.inj ho
      have h7 : V38 W.heap.size p q 0 (a'.tmps.getD 7 undef) w' := hJ.done 0 7 rfl (hall ⟨0, .data⟩ (by simp) rfl)
      have h7' : a'.eval (.tmp 7) = .agg PP := h7.trans (congrArg Value.agg hPP)
      refine wpOp_call (f := 188) rfl rfl rfl #[.agg PP] (by simp [h7']) (eg188 _ _) ?_
      refine (CP.out _).mono ?_
      rintro e w2 ⟨rfl, hg⟩
      exact ⟨_, rfl, _, rfl, rfl, hg.out, fun j d _ hne _ => ⟨r_any (by omega), r_any (by omega)⟩⟩
    · obtain rfl := Option.some.inj ho
      have h2 := hJ.rest 3 (by decide)
      have hb : w'.heap[y]? = some (.cells QQ 64) := (RowKit.Below.block hup0 _ (Array.getElem?_eq_some_iff.1 HB.out).1).trans HB.out
      exact wpOp_of rfl rfl (wp_load_row 64 (.tmp 3) rfl y h2 64 QQ (0, 0) _ hb Tryz.underlying64 rfl (by rw [size28, hqc]) ⟨_, rfl, congrArg Value.agg hQQ.symm, Gr.refl _, fun j d _ hne _ => ⟨r_any (by omega), r_any (by omega)⟩⟩)
    · obtain rfl := Option.some.inj ho
      have h7 : V38 W.heap.size p q 2 (a'.tmps.getD 9 undef) w' := hJ.done 2 9 rfl (hall ⟨2, .data⟩ (by simp) rfl)
      have h7' : a'.eval (.tmp 9) = .agg QQ := h7.trans (congrArg Value.agg hQQ)
      refine wpOp_call (f := 188) rfl rfl rfl #[.agg QQ] (by simp [h7']) (eg188 _ _) ?_
      refine (CQ.out _).mono ?_
      rintro e w2 ⟨rfl, hg⟩
      exact ⟨_, rfl, _, rfl, rfl, hg.out, fun j d _ hne _ => ⟨r_any (by omega), r_any (by omega)⟩⟩
    · obtain rfl := Option.some.inj ho
      refine wpOp_run (v := .pointer (some ⟨w'.heap.size, 0, none⟩)) (w' := w'.alloc (.cells #[.int .u64 0, .int .u64 0, .int .u64 0, .int .u64 0, .int .u64 0] 208)) rfl rfl (by kernel_rfl) ⟨_, rfl, ⟨_, rfl, hup0.size, Bk.new _ _ _ _ _ _ _⟩, Gr.alloc _ _, fun j d hd hne hl => ⟨fun _ h5 => ?_, r_any (by omega)⟩⟩
      subst h5
      obtain rfl := Option.some.inj hd
      obtain ⟨g, e1, e2, e3⟩ : V38 W.heap.size p q 5 (a'.tmps.getD 6 undef) w' := hJ.done 5 6 rfl hl
      rw [e1]
      intro he
      have := e3.lt
      injection he with he
      injection he with he
      injection he with he
      omega
    · obtain rfl := Option.some.inj ho
      refine wpOp_run (v := .pointer (some ⟨w'.heap.size, 0, none⟩)) (w' := w'.alloc (.cells #[.int .u64 0, .int .u64 0, .int .u64 0, .int .u64 0, .int .u64 0] 208)) rfl rfl (by kernel_rfl) ⟨_, rfl, ⟨_, rfl, hup0.size, Bk.new _ _ _ _ _ _ _⟩, Gr.alloc _ _, fun j d hd hne hl => ⟨r_any (by omega), fun h4 _ => ?_⟩⟩
      subst h4
      obtain rfl := Option.some.inj hd
      obtain ⟨g, e1, e2, e3⟩ : V38 W.heap.size p q 4 (a'.tmps.getD 5 undef) w' := hJ.done 4 5 rfl hl
      rw [e1]
      intro he
      have := e3.lt
      injection he with he
      injection he with he
      injection he with he
      omega
  · intro a' w' hgr hsz hdf hrest hdone hap
    have hup0 : Up W w' := (Up.drew W).trans hgr.up
    obtain ⟨g5, e5, l5, B5⟩ : V38 W.heap.size p q 4 (a'.tmps.getD 5 undef) w' := hdone 4 5 rfl
    obtain ⟨g6, e6, l6, B6⟩ : V38 W.heap.size p q 5 (a'.tmps.getD 6 undef) w' := hdone 5 6 rfl
    have e7 : a'.tmps.getD 7 undef = .agg PP := (show V38 W.heap.size p q 0 (a'.tmps.getD 7 undef) w' from hdone 0 7 rfl).trans (congrArg Value.agg hPP)
    have e8 : a'.tmps.getD 8 undef = .agg (rC p) := (show V38 W.heap.size p q 1 (a'.tmps.getD 8 undef) w' from hdone 1 8 rfl)
    have e9 : a'.tmps.getD 9 undef = .agg QQ := (show V38 W.heap.size p q 2 (a'.tmps.getD 9 undef) w' from hdone 2 9 rfl).trans (congrArg Value.agg hQQ)
    have e10 : a'.tmps.getD 10 undef = .agg (rC q) := (show V38 W.heap.size p q 3 (a'.tmps.getD 10 undef) w' from hdone 3 10 rfl)
    have hne : g5 ≠ g6 := fun he => by
      have := hap 4 5 5 6 rfl rfl (by decide) rfl rfl
      rw [e5, e6, he] at this
      exact this rfl
    have ea : a' = ⟨#[.agg PP, .agg QQ, .pointer (some ⟨w.heap.size, 0, none⟩), .pointer (some ⟨y, 0, none⟩), .int .i64 0, .pointer (some ⟨g5, 0, none⟩), .pointer (some ⟨g6, 0, none⟩), .agg PP, .agg (rC p), .agg QQ, .agg (rC q), undef, undef, undef], []⟩ := by
      refine act_of hsz hdf (fun i hi => ?_)
      have hi' : i < 14 := hi
      rcases (show i = 0 ∨ i = 1 ∨ i = 2 ∨ i = 3 ∨ i = 4 ∨ i = 5 ∨ i = 6 ∨ i = 7 ∨ i = 8 ∨ i = 9 ∨ i = 10 ∨ i = 11 ∨ i = 12 ∨ i = 13 by omega) with rfl | rfl | rfl | rfl | rfl | rfl | rfl | rfl | rfl | rfl | rfl | rfl | rfl | rfl
      · exact hrest 0 (by decide)
      · exact hrest 1 (by decide)
      · exact hrest 2 (by decide)
      · exact hrest 3 (by decide)
      · exact hrest 4 (by decide)
      · exact e5
      · exact e6
      · exact e7
      · exact e8
      · exact e9
      · exact e10
      · exact hrest 11 (by decide)
      · exact hrest 12 (by decide)
      · exact hrest 13 (by decide)
    subst ea
    have HG2 : Hid (Gr w w') := HG.out.trans ((Gr.drewN W 1).trans hgr)
    clear hsz hdf hrest hdone hap e5 e6 e7 e8 e9 e10 HA HB HG CP CQ hgr hup0
    have HL5 : Hid (w.heap.size ≤ g5) := Nat.le_trans hx l5
    have HL6 : Hid (w.heap.size ≤ g6) := Nat.le_trans hx l6
    simp only [List.drop_succ_cons, List.drop_zero]
    refine wpList_store_mid rfl 208 _ _ rfl g5 0 (rC p) rfl rfl B5.there size92 (by simp [rC, Value.oneCell']) ?_
    refine wpList_store_mid rfl 208 _ _ rfl g6 0 (rC q) rfl rfl (Bk.other B6 (Ne.symm hne) 0 _).there size92 (by simp [rC, Value.oneCell']) ?_
    have B5' : Hid (Bk ((w'.setCells g5 0 (rC p).toList).setCells g6 0 (rC q).toList) g5 208 (.int .u64 (fall p.p)) (.int .u64 (key p.r)) (.int .u64 (key p.s)) (.int .u64 (key p.b)) (.int .u64 (key p.t))) := Bk.other (Bk.set B5 _ _ _ _ _) hne 0 _
    have B6' : Hid (Bk ((w'.setCells g5 0 (rC p).toList).setCells g6 0 (rC q).toList) g6 208 (.int .u64 (fall q.p)) (.int .u64 (key q.r)) (.int .u64 (key q.s)) (.int .u64 (key q.b)) (.int .u64 (key q.t))) := Bk.set (Bk.other B6 (Ne.symm hne) 0 _) _ _ _ _ _
    have HG3 : Hid (Gr w ((w'.setCells g5 0 (rC p).toList).setCells g6 0 (rC q).toList)) := gr_set (gr_set HG2.out HL5.out 0 _) HL6.out 0 _
    clear B5 B6 HG2
    generalize (w'.setCells g5 0 (rC p).toList).setCells g6 0 (rC q).toList = W2 at *
    have F5 : Hid (R5 W2 g5 fun j => [fall p.p, key p.r, key p.s, key p.b, key p.t].getD j 0) := ⟨fun j hj => by
      obtain ⟨k0, k1, k2, k3, k4⟩ := B5'.out.cells
      rcases (show j = 0 ∨ j = 1 ∨ j = 2 ∨ j = 3 ∨ j = 4 by omega) with rfl | rfl | rfl | rfl | rfl
      · exact k0
      · exact k1
      · exact k2
      · exact k3
      · exact k4⟩
    have F6 : Hid (R5 W2 g6 fun j => [fall q.p, key q.r, key q.s, key q.b, key q.t].getD j 0) := ⟨fun j hj => by
      obtain ⟨k0, k1, k2, k3, k4⟩ := B6'.out.cells
      rcases (show j = 0 ∨ j = 1 ∨ j = 2 ∨ j = 3 ∨ j = 4 by omega) with rfl | rfl | rfl | rfl | rfl
      · exact k0
      · exact k1
      · exact k2
      · exact k3
      · exact k4⟩
    have C60 : Hid (Calls Tryz.prog 189 #[.slice (some ⟨g5, 0, none⟩) 5 5, .slice (some ⟨g6, 0, none⟩) 5 5] W2.drew fun e w' => e = .returned (.int .i64 (cmp5 p q)) ∧ w' = W2.drew) := by
      refine (t189 g5 g6 _ _ W2.drew ⟨fun j hj => cell_up (F5.out.at' j hj) (Up.drew _)⟩ ⟨fun j hj => cell_up (F6.out.at' j hj) (Up.drew _)⟩).mono ?_
      rintro e w3 ⟨rfl, rfl⟩
      exact ⟨by rw [← from5 p q], rfl⟩
    generalize hc0 : cmp5 p q = c at C60
    go_wp2_with fail
    simp only [Act.put]
    refine wp_region_shut 3 [(0, none), (1, none), (2, some true)] (fun _ => True) (by kernel_rfl) (by decide) rfl (by kernel_rfl) (fun _ _ d _ _ h => by cases d <;> exact h) (trivial) ?_
    refine OrdS.looks (.slice (some ⟨g5, 0, none⟩) 5 5) (some 11) _ rfl rfl (Or.inl ⟨by kernel_rfl, fun w' hS => ?_⟩) ?_
    · go_simp
    refine OrdS.looks (.slice (some ⟨g6, 0, none⟩) 5 5) (some 12) _ rfl rfl (Or.inl ⟨by kernel_rfl, fun w' hS => ?_⟩) ?_
    · go_simp
    refine OrdS.does ?_
    refine wpOp_callG (f := 189) (some 13) rfl rfl (by kernel_rfl) rfl #[.slice (some ⟨g5, 0, none⟩) 5 5, .slice (some ⟨g6, 0, none⟩) 5 5] (by kernel_rfl) (eg189 _ _) ?_
    refine C60.out.mono ?_
    rintro e w' ⟨rfl, hw⟩
    subst w'
    refine ⟨_, rfl, trivial, ?_⟩
    refine OrdS.ends ?_
    simp only [List.drop_succ_cons, List.drop_zero, Act.put, List.setIfInBounds_toArray, List.set_cons_succ, List.set_cons_zero]
    go_wp2
    go_ret
    exact ⟨by rw [hc0]; rfl, HG3.out.trans (Gr.drewN _ 1)⟩
end Go.Proofs.YtflngnnoibkkoaaGreat.Pl
/- The places' order, one pair. -/
namespace Go.Proofs.YtflngnnoibkkoaaGreat.Pl
open Go.ChangeShapes Go.WideShapes Go.ChangeAt Go.RowKit Go.Fl Go.Sort
set_option maxRecDepth 200000
set_option maxHeartbeats 8000000
attribute [local go_sem] run_store_float call34 run_neg fold_eq fold_ne fold_lt fold_gt abs_eq

/-- A plot's cells at a place. -/
structure P5 (w : World) (b o : Nat) (p : Plt) : Prop where
  c0 : w.cell? ⟨b, o, none⟩ = some (.float .f64 p.r)
  c1 : w.cell? ⟨b, o + 1, none⟩ = some (.float .f64 p.s)
  c2 : w.cell? ⟨b, o + 2, none⟩ = some (.float .f64 p.p)
  c3 : w.cell? ⟨b, o + 3, none⟩ = some (.float .f64 p.b)
  c4 : w.cell? ⟨b, o + 4, none⟩ = some (.float .f64 p.t)
theorem P5.up {w w' : World} {b o : Nat} {p : Plt} (h : P5 w b o p) (hu : Up w w') : P5 w' b o p := ⟨cell_up h.c0 hu, cell_up h.c1 hu, cell_up h.c2 hu, cell_up h.c3 hu, cell_up h.c4 hu⟩
/-- A slice that holds these plots. -/
structure PV (w : World) (p : Option Addr) (n cap : Nat) (P : Nat → Plt) : Prop where
  cap : n ≤ cap
  few : n ≤ 1000000
  fit : ∀ i, i < n → (P i).Fit
  rd : 0 < n → ∃ b o, p = some ⟨b, o, none⟩ ∧ ∀ i, i < n → P5 w b (o + i * 5) (P i)
theorem PV.up {w w' : World} {p : Option Addr} {n cap : Nat} {P : Nat → Plt} (h : PV w p n cap P) (hu : Up w w') : PV w' p n cap P :=
  ⟨h.cap, h.few, h.fit, fun h0 => by
    obtain ⟨b, o, e, k⟩ := h.rd h0
    exact ⟨b, o, e, fun i hi => (k i hi).up hu⟩⟩
/-- What the closure reads. -/
structure S56 (w : World) (cb lb : Nat) (p : Option Addr) (n cap b o i j : Nat) (X Y : Plt) : Prop where
  f : w.cell? ⟨cb, 0, none⟩ = some (.func (.func 159) #[] #[])
  l : w.cell? ⟨lb, 0, none⟩ = some (.slice p n cap)
  x : P5 w b (o + i * 5) X
  y : P5 w b (o + j * 5) Y
theorem S56.up {w w' : World} {cb lb : Nat} {p : Option Addr} {n cap b o i j : Nat} {X Y : Plt} (h : S56 w cb lb p n cap b o i j X Y) (hg : Gr w w') : S56 w' cb lb p n cap b o i j X Y := ⟨cell_up h.f hg.up, cell_up h.l hg.up, h.x.up hg.up, h.y.up hg.up⟩
/-- A call of what lies in a slot, in a region whose order is drawn. -/
theorem wpOp_callF {P : Program} {ops : Array Oper} {Q : Exit → Act → World → Prop} {K : Act → World → Prop} {a : Act} {w : World} {m f : Nat} {o : Oper} {x : Operand} {args : Array Operand} {tys : Array TypeId} (d : Option Tmp) (ho : ops[m]? = some o) (hd : o.dst = d) (hw : Region.wanted o (yielded ops a.tmps) = true) (hop : o.op = .call { callee := .value x, args := args, argTypes := tys }) (hx : a.eval x = .func (.func f) #[] #[]) (vs : Array Value) (hvs : args.map a.eval = vs) (hen : (callFunc f vs).run P w = .ok (.enter f vs) w)
    (h : Calls P f vs w (fun e w' => ∃ v, e = .returned v ∧ K (a.put d v) w')) : wpOp P ops Q m K a w := by
  subst hd
  unfold wpOp
  simp only [ho, hw, if_true]
  left
  unfold Oper.wp
  simp [execOp, hop, resolve, invoke, hx, Oper.upon, Deferred.ofValue, hvs, hen]
  refine h.mono ?_
  rintro e w' ⟨v, rfl, hk⟩
  exact hk
theorem eg159 (args : Array Value) (w : World) : (callFunc 159 args).run Tryz.prog w = .ok (.enter 159 args) w := enters Tryz.func159 (by kernel_rfl) (by kernel_rfl) _ _
theorem eg187 (args : Array Value) (w : World) : (callFunc 187 args).run Tryz.prog w = .ok (.enter 187 args) w := enters Tryz.func187 (by kernel_rfl) (by kernel_rfl) _ _
theorem eg186 (args : Array Value) (w : World) : (callFunc 186 args).run Tryz.prog w = .ok (.enter 186 args) w := enters Tryz.func186 (by kernel_rfl) (by kernel_rfl) _ _
theorem eg185 (args : Array Value) (w : World) : (callFunc 185 args).run Tryz.prog w = .ok (.enter 185 args) w := enters Tryz.func185 (by kernel_rfl) (by kernel_rfl) _ _

set_option maxHeartbeats 4000000 in
theorem t185 {w : World} {cb lb : Nat} {p : Option Addr} {n cap b o i j : Nat} {X Y : Plt} (hS : S56 w cb lb p n cap b o i j X Y) (hpb : p = some ⟨b, o, none⟩) (hX : X.Fit) (hY : Y.Fit) (hi : i < n) (hj : j < n) (_hn : n ≤ 1000000) : Calls Tryz.prog 185 #[.int .i64 i, .int .i64 j, .pointer (some ⟨cb, 0, none⟩), .pointer (some ⟨lb, 0, none⟩)] w fun e w' => e = .returned (.int .i64 (orI (cmp5 X Y) (cmpN i j))) ∧ Hid (Gr w w') := by
  have C38 : Hid (∀ w, Calls Tryz.prog 159 #[.agg (pC X), .agg (pC Y)] w fun e w' => e = .returned (.int .i64 (cmp5 X Y)) ∧ Hid (Gr w w')) := fun w => t159 X Y hX hY w
  have C58 : Hid (∀ w, Calls Tryz.prog 187 #[.int .i64 i, .int .i64 j] w fun e w' => e = .returned (.int .i64 (cmpN i j)) ∧ w' = w) := fun w => (t202 i j w).mono fun e w' ⟨h1, h2⟩ => ⟨by rw [h1]; unfold cmpI cmpN; simp only [Int.ofNat_lt], h2⟩
  have HS : Hid (S56 w.drew cb lb p n cap b o i j X Y) := hS.up (Gr.drewN w 1)
  have hn1 : (i : Int) < n := by omega
  have hn2 : (j : Int) < n := by omega
  clear hS hX hY
  generalize hc1 : cmp5 X Y = c1 at *
  generalize hc2 : cmpN i j = c2 at *
  have C57 : Hid (∀ w1 : World, Calls Tryz.prog 186 #[.slice (some ⟨w1.heap.size, 0, none⟩) 2 2] (w1.alloc (.cells #[.int .i64 c1, .int .i64 c2] 3)) fun e w' => e = .returned (.int .i64 (orI c1 c2)) ∧ w' = w1.alloc (.cells #[.int .i64 c1, .int .i64 c2] 3)) := fun w1 => t203 (two_cells w1 _ _ 3).1 (two_cells w1 _ _ 3).2
  generalize orI c1 c2 = c3 at *
  go_enter Tryz.func185, Tryz.ntmps185
  go_wp2_with fail
  refine wp_region_shut 15 [(0, some false), (1, some false), (2, none), (3, none), (4, some false), (5, some false), (6, none), (7, none), (8, some false), (10, none), (11, none), (9, some true), (12, some true), (13, some true), (14, some true)] (fun w' => S56 w' cb lb p n cap b o i j X Y) (by kernel_rfl) (by decide) rfl (by kernel_rfl) (fun _ _ d _ _ h => by cases d <;> exact h) (HS.out) ?_
  refine OrdS.reads (.func (.func 159) #[] #[]) (some 7) _ rfl rfl (Or.inl ⟨by kernel_rfl, fun w' hS => ?_⟩) ?_
  · obtain ⟨z1, z2, ⟨x0, x1, x2, x3, x4⟩, y0, y1, y2, y3, y4⟩ := hS
    go_simp
  refine OrdS.reads (.slice p n cap) (some 8) _ rfl rfl (Or.inl ⟨by kernel_rfl, fun w' hS => ?_⟩) ?_
  · obtain ⟨z1, z2, ⟨x0, x1, x2, x3, x4⟩, y0, y1, y2, y3, y4⟩ := hS
    go_simp
  refine OrdS.looks (.int .i64 i) (some 9) _ rfl rfl (Or.inl ⟨by kernel_rfl, fun w' hS => ?_⟩) ?_
  · go_simp
  simp only [Act.put, List.setIfInBounds_toArray, List.set_cons_succ, List.set_cons_zero]
  refine OrdS.looks (.pointer (some ⟨b, o + i * 5, none⟩)) (some 10) _ rfl rfl (Or.inl ⟨by kernel_rfl, fun w' hS => ?_⟩) ?_
  · subst hpb
    go_simp
  refine OrdS.reads (.agg (pC X)) (some 11) _ rfl rfl (Or.inl ⟨by kernel_rfl, fun w' hS => ?_⟩) ?_
  · obtain ⟨z1, z2, ⟨x0, x1, x2, x3, x4⟩, y0, y1, y2, y3, y4⟩ := hS
    unfold pC
    go_simp
  refine OrdS.reads (.slice p n cap) (some 12) _ rfl rfl (Or.inl ⟨by kernel_rfl, fun w' hS => ?_⟩) ?_
  · obtain ⟨z1, z2, ⟨x0, x1, x2, x3, x4⟩, y0, y1, y2, y3, y4⟩ := hS
    go_simp
  refine OrdS.looks (.int .i64 j) (some 13) _ rfl rfl (Or.inl ⟨by kernel_rfl, fun w' hS => ?_⟩) ?_
  · go_simp
  simp only [Act.put, List.setIfInBounds_toArray, List.set_cons_succ, List.set_cons_zero]
  refine OrdS.looks (.pointer (some ⟨b, o + j * 5, none⟩)) (some 14) _ rfl rfl (Or.inl ⟨by kernel_rfl, fun w' hS => ?_⟩) ?_
  · subst hpb
    go_simp
  refine OrdS.reads (.agg (pC Y)) (some 15) _ rfl rfl (Or.inl ⟨by kernel_rfl, fun w' hS => ?_⟩) ?_
  · obtain ⟨z1, z2, ⟨x0, x1, x2, x3, x4⟩, y0, y1, y2, y3, y4⟩ := hS
    unfold pC
    go_simp
  refine OrdS.looks (.int .i64 i) (some 17) _ rfl rfl (Or.inl ⟨by kernel_rfl, fun w' hS => ?_⟩) ?_
  · go_simp
  refine OrdS.looks (.int .i64 j) (some 18) _ rfl rfl (Or.inl ⟨by kernel_rfl, fun w' hS => ?_⟩) ?_
  · go_simp
  simp only [Act.put, List.setIfInBounds_toArray, List.set_cons_succ, List.set_cons_zero]
  refine OrdS.does ?_
  refine wpOp_callF (f := 159) (some 16) rfl rfl (by kernel_rfl) rfl rfl #[.agg (pC X), .agg (pC Y)] (by kernel_rfl) (eg159 _ _) ?_
  refine (C38.out _).mono ?_
  rintro e w1 ⟨rfl, HG1⟩
  refine ⟨_, rfl, HS.out.up HG1.out, ?_⟩
  refine OrdS.does ?_
  refine wpOp_callG (f := 187) (some 19) rfl rfl (by kernel_rfl) rfl #[.int .i64 i, .int .i64 j] (by kernel_rfl) (eg187 _ _) ?_
  refine (C58.out _).mono ?_
  rintro e w2 ⟨rfl, hw⟩
  subst w2
  refine ⟨_, rfl, HS.out.up HG1.out, ?_⟩
  refine OrdS.does ?_
  refine wpOp_run (v := .slice (some ⟨w1.heap.size, 0, none⟩) 2 2) (w' := w1.alloc (.cells #[.int .i64 c1, .int .i64 c2] 3)) rfl rfl (by kernel_rfl) ?_
  refine ⟨HS.out.up (HG1.out.trans (Gr.alloc _ _)), ?_⟩
  refine OrdS.does ?_
  refine wpOp_callG (f := 186) (some 21) rfl rfl (by kernel_rfl) rfl #[.slice (some ⟨w1.heap.size, 0, none⟩) 2 2] (by kernel_rfl) (eg186 _ _) ?_
  refine (C57.out w1).mono ?_
  rintro e w2 ⟨rfl, hw⟩
  subst w2
  refine ⟨_, rfl, HS.out.up (HG1.out.trans (Gr.alloc _ _)), ?_⟩
  refine OrdS.ends ?_
  simp only [List.drop_succ_cons, List.drop_zero, Act.put, List.setIfInBounds_toArray, List.set_cons_succ, List.set_cons_zero]
  go_wp2
  go_ret
  exact ⟨rfl, (Gr.drewN w 1).trans (HG1.out.trans (Gr.alloc _ _))⟩
end Go.Proofs.YtflngnnoibkkoaaGreat.Pl
/- slices.SortFunc of places: its text is the library's. -/
namespace Go.Proofs.YtflngnnoibkkoaaGreat.Pl
open Go.Shelf
set_option maxRecDepth 200000
set_option maxHeartbeats 8000000
def sortRen : Go.Shelf.Ren := ⟨fun | 6 => 184 | 15 => 202 | 14 => 203 | 28 => 226 | 29 => 227 | 20 => 228 | 21 => 229 | 22 => 230 | 23 => 231 | 24 => 232 | 25 => 233 | 26 => 234 | 27 => 235 | 46 => 247 | 47 => 243 | 48 => 244 | 49 => 248 | 50 => 249 | 57 => 255 | n => n, fun | 22 => 32 | 24 => 3 | 25 => 50 | 3 => 3 | 39 => 214 | 0 => 0 | 53 => 241 | 55 => 43 | 4 => 4 | 46 => 234 | 45 => 233 | 50 => 238 | 5 => 5 | 9 => 9 | 66 => 252 | 70 => 255 | 76 => 261 | 77 => 262 | n => n, fun | n => n⟩
set_option maxHeartbeats 4000000 in
theorem sortPlaces : Go.Proofs.SlLaysF.n6 Tryz.prog sortRen :=
  { mixed := by kernel_rfl,
    f6 := ⟨Tryz.f184.name, by decide, Tryz.func184.trans (congrArg some (by kernel_rfl))⟩,
    f14 := ⟨Tryz.f203.name, by decide, Tryz.func203.trans (congrArg some (by kernel_rfl))⟩,
    f15 := Tryz.func202.trans (congrArg some (by kernel_rfl)),
    f20 := ⟨Tryz.f228.name, by decide, Tryz.func228.trans (congrArg some (by kernel_rfl))⟩,
    f21 := ⟨Tryz.f229.name, by decide, Tryz.func229.trans (congrArg some (by kernel_rfl))⟩,
    f22 := ⟨Tryz.f230.name, by decide, Tryz.func230.trans (congrArg some (by kernel_rfl))⟩,
    f23 := ⟨Tryz.f231.name, by decide, Tryz.func231.trans (congrArg some (by kernel_rfl))⟩,
    f24 := ⟨Tryz.f232.name, by decide, Tryz.func232.trans (congrArg some (by kernel_rfl))⟩,
    f25 := ⟨Tryz.f233.name, by decide, Tryz.func233.trans (congrArg some (by kernel_rfl))⟩,
    f26 := ⟨Tryz.f234.name, by decide, Tryz.func234.trans (congrArg some (by kernel_rfl))⟩,
    f27 := ⟨Tryz.f235.name, by decide, Tryz.func235.trans (congrArg some (by kernel_rfl))⟩,
    f28 := Tryz.func226.trans (congrArg some (by kernel_rfl)),
    f29 := Tryz.func227.trans (congrArg some (by kernel_rfl)),
    f46 := ⟨Tryz.f247.name, by decide, Tryz.func247.trans (congrArg some (by kernel_rfl))⟩,
    f47 := Tryz.func243.trans (congrArg some (by kernel_rfl)),
    f48 := Tryz.func244.trans (congrArg some (by kernel_rfl)),
    f49 := ⟨Tryz.f248.name, by decide, Tryz.func248.trans (congrArg some (by kernel_rfl))⟩,
    f50 := ⟨Tryz.f249.name, by decide, Tryz.func249.trans (congrArg some (by kernel_rfl))⟩,
    f57 := ⟨Tryz.f255.name, by decide, Tryz.func255.trans (congrArg some (by kernel_rfl))⟩,
    t0 := Tryz.underlying0,
    a0 := Tryz.isAgg0,
    z0 := Tryz.sizeOf0,
    v0 := Tryz.zeroValue0,
    t3 := Tryz.underlying3,
    a3 := Tryz.isAgg3,
    z3 := Tryz.sizeOf3,
    v3 := Tryz.zeroValue3,
    t4 := Tryz.underlying4,
    a4 := Tryz.isAgg4,
    z4 := Tryz.sizeOf4,
    v4 := Tryz.zeroValue4,
    t5 := Tryz.underlying5,
    a5 := Tryz.isAgg5,
    z5 := Tryz.sizeOf5,
    v5 := Tryz.zeroValue5,
    t9 := Tryz.underlying9,
    a9 := Tryz.isAgg9,
    z9 := Tryz.sizeOf9,
    v9 := Tryz.zeroValue9,
    t22 := Tryz.underlying32,
    a22 := Tryz.isAgg32,
    z22 := Tryz.sizeOf32,
    v22 := Tryz.zeroValue32,
    a24 := Tryz.isAgg3,
    z24 := Tryz.sizeOf3,
    t25 := Tryz.underlying50,
    a25 := Tryz.isAgg50,
    z25 := Tryz.sizeOf50,
    v25 := Tryz.zeroValue50,
    t39 := Tryz.underlying214,
    a39 := Tryz.isAgg214,
    z39 := Tryz.sizeOf214,
    v39 := Tryz.zeroValue214,
    t45 := Tryz.underlying233,
    a45 := Tryz.isAgg233,
    z45 := Tryz.sizeOf233,
    v45 := Tryz.zeroValue233,
    t46 := Tryz.underlying234,
    a46 := Tryz.isAgg234,
    z46 := Tryz.sizeOf234,
    v46 := Tryz.zeroValue234,
    t50 := Tryz.underlying238,
    a50 := Tryz.isAgg238,
    z50 := Tryz.sizeOf238,
    v50 := Tryz.zeroValue238,
    t53 := Tryz.underlying241,
    a53 := Tryz.isAgg241,
    z53 := Tryz.sizeOf241,
    v53 := Tryz.zeroValue241,
    t55 := Tryz.underlying43,
    a55 := Tryz.isAgg43,
    z55 := Tryz.sizeOf43,
    v55 := Tryz.zeroValue43,
    t66 := Tryz.underlying252,
    a66 := Tryz.isAgg252,
    z66 := Tryz.sizeOf252,
    v66 := Tryz.zeroValue252,
    t70 := Tryz.underlying255,
    a70 := Tryz.isAgg255,
    z70 := Tryz.sizeOf255,
    v70 := Tryz.zeroValue255,
    t76 := Tryz.underlying261,
    a76 := Tryz.isAgg261,
    z76 := Tryz.sizeOf261,
    v76 := Tryz.zeroValue261,
    t77 := Tryz.underlying262,
    a77 := Tryz.isAgg262,
    z77 := Tryz.sizeOf262,
    v77 := Tryz.zeroValue262 }
end Go.Proofs.YtflngnnoibkkoaaGreat.Pl
/- Rows of one's own, whatever stands in them. -/
namespace Go.Proofs.YtflngnnoibkkoaaGreat.Pl
open Go.ChangeShapes Go.WideShapes Go.ChangeAt Go.RowKit Go.Fl Go.Sort
set_option maxRecDepth 200000
set_option maxHeartbeats 8000000

/-- The form of a row's value. -/
theorem own_form {b n : Nat} {w : World} {t : TypeId} {s : Nat} {v : Value} {xs : List Value} (h : w.ownsRow b t s v n xs) : ∃ p cap, v = .slice p n cap ∧ (0 < n → ∃ g, p = some ⟨g, 0, none⟩) := by
  rcases h.2 with ⟨rfl, rfl⟩ | ⟨g, cap, cur, rfl, _⟩
  · exact ⟨none, 0, rfl, fun h => by omega⟩
  · exact ⟨_, cap, rfl, fun _ => ⟨g, rfl⟩⟩
/-- But for one block nothing has turned. -/
def But (g : Nat) (w w' : World) : Prop := w.grownBy w' (some g)
theorem But.up {g : Nat} {w0 w w' : World} (h : But g w w') (hu : Up w0 w) (hg : w0.heap.size ≤ g) : Up w0 w' := RowKit.Below.grown hu h hu.size (fun k hk => by cases hk; exact hg)
/-- A row of one's own. -/
def OR {α : Type} (enc : α → Value) (t : TypeId) (b : Nat) (w : World) (v : Value) (d : List α) : Prop := w.ownsRow b t 1 v d.length (d.map enc)
theorem OR.form {α : Type} {enc : α → Value} {t : TypeId} {b : Nat} {w : World} {v : Value} {d : List α} (h : OR enc t b w v d) : ∃ p cap, v = .slice p d.length cap ∧ (0 < d.length → ∃ g, p = some ⟨g, 0, none⟩) := own_form h
theorem OR.cell {α : Type} [Inhabited α] {enc : α → Value} {t : TypeId} {b g n cap : Nat} {w : World} {d : List α} (h : OR enc t b w (.slice (some ⟨g, 0, none⟩) n cap) d) {i : Nat} (hi : i < d.length) : w.cell? ⟨g, i, none⟩ = some (enc d[i]!) := by
  obtain ⟨p, cap', he, _⟩ := own_form h
  simp only [Value.slice.injEq] at he
  obtain ⟨rfl, rfl, rfl⟩ := he
  rw [World.ownsRow.cellAt h i (by omega)]
  rw [List.getElem?_map, List.getElem?_eq_getElem hi, getElem!_pos d i hi]
  rfl
theorem OR.len {α : Type} {enc : α → Value} {t : TypeId} {b n cap : Nat} {p : Option Addr} {w : World} {d : List α} (h : OR enc t b w (.slice p n cap) d) : d.length = n := by
  obtain ⟨p, cap', he, _⟩ := own_form h
  simp only [Value.slice.injEq] at he
  exact he.2.1.symm
theorem OR.put {α : Type} {enc : α → Value} {t : TypeId} {b g n cap : Nat} {w : World} {d : List α} (h : OR enc t b w (.slice (some ⟨g, 0, none⟩) n cap) d) (k : Nat) (r : α) : OR enc t b (w.setCell ⟨g, k, none⟩ (enc r)) (.slice (some ⟨g, 0, none⟩) n cap) (d.set k r) ∧ But g w (w.setCell ⟨g, k, none⟩ (enc r)) := by
  have hn := h.len
  subst hn
  obtain ⟨s1, s2⟩ := World.ownsRow.stored h k (enc r)
  refine ⟨?_, s2⟩
  unfold OR
  rw [List.length_set, List.map_set]
  exact s1
theorem OR.frz {α : Type} {enc : α → Value} {t : TypeId} {b g n cap : Nat} {w : World} {d : List α} (h : OR enc t b w (.slice (some ⟨g, 0, none⟩) n cap) d) (i : Nat) : w.frozen? ⟨g, i, none⟩ = false := by
  have hn := h.len
  subst hn
  exact World.ownsRow.frozenAt h i
theorem OR.at_ {α : Type} {enc : α → Value} {t : TypeId} {b g n cap : Nat} {w : World} {d : List α} (h : OR enc t b w (.slice (some ⟨g, 0, none⟩) n cap) d) : b ≤ g ∧ g < w.heap.size := World.ownsRow.lt h g rfl
end Go.Proofs.YtflngnnoibkkoaaGreat.Pl
/- Places sorted: slices.SortFunc by the closure. -/
namespace Go.Proofs.YtflngnnoibkkoaaGreat.Pl
open Go.ChangeShapes Go.WideShapes Go.ChangeAt Go.RowKit Go.Fl Go.Sort Go.Shelf Go.Lib
set_option maxRecDepth 200000
set_option maxHeartbeats 8000000

def encP {n : Nat} (x : Fin n) : Value := .int .i64 (x.val : Int)
def nv (i : Nat) : Value := .int .i64 (i : Int)
def cfP (P : Nat → Plt) {n : Nat} (x y : Fin n) : Int := cmpN (kAt P x) (kAt P y)
theorem cmpN_neg (a b : Nat) : cmpN a b < 0 ↔ a < b := by unfold cmpN; repeat' split <;> omega
theorem lt_cfP {P : Nat → Plt} {n : Nat} (x y : Fin n) : ltOf (cfP P) x y = decide (kAt P x < kAt P y) := by
  unfold ltOf cfP
  rw [decide_eq_decide]
  exact cmpN_neg _ _
theorem swoP (P : Nat → Plt) (n : Nat) : SWO (ltOf (cfP P (n := n))) where
  irrefl x := by rw [lt_cfP]; simp
  trans x y z h1 h2 := by rw [lt_cfP] at *; simp at *; omega
  ntrans x y z h1 h2 := by rw [lt_cfP] at *; simp at *; omega
/-- The row that was sorted. -/
theorem owns_sorted {α : Type} [Inhabited α] {enc : α → Value} {w : World} {b g n cap m : Nat} {t : TypeId} {xs : List Value} {dk : Array α} {os : Array Obj} (h : w.ownsRow b t 1 (.slice (some ⟨g, 0, none⟩) n cap) n xs) (hs : dk.size = n) : (sortWorld enc w g 0 m dk os).ownsRow b t 1 (.slice (some ⟨g, 0, none⟩) n cap) n (dk.toList.map enc) := by
  rcases h.2 with ⟨h0, _⟩ | ⟨g', cap', cur, e, h1, h2, h3, h4, h5, h6⟩
  · cases h0
  · simp only [Value.slice.injEq, Option.some.injEq, Addr.mk.injEq] at e
    obtain ⟨⟨rfl, _⟩, _, rfl⟩ := e
    refine ⟨by simp [hs], Or.inr ⟨g, cap, putCells enc 0 dk cur, rfl, h1, ?_, h3, h4, ?_, ?_⟩⟩
    · have hl := (Array.getElem?_eq_some_iff.1 h2).1
      show (grow (putRow enc (Sort.ahead w m) g 0 dk) os).heap[g]? = _
      rw [heap_grow_old _ os (by rw [size_putRow]; exact hl)]
      simp only [putRow, mapBlock, Sort.ahead, Array.getElem?_modify, if_true, h2]
      rfl
    · simp [putCells, h5]
    · apply List.ext_getElem
      · simp [putCells, h5, hs]; omega
      · intro i h7 h8
        simp at h7 h8
        simp only [List.getElem_take, Array.getElem_toList, putCells, Array.getElem_mapIdx, List.getElem_map, Nat.sub_zero]
        rw [if_pos (by omega), getElem!_pos dk i (by omega)]
theorem gr_sorted_up {α : Type} [Inhabited α] {enc : α → Value} {w0 w : World} {g m : Nat} {dk : Array α} {os : Array Obj} (h : Up w0 w) (hg : w0.heap.size ≤ g) : Up w0 (sortWorld enc w g 0 m dk os) := by
  have hb : ∀ k, k < w0.heap.size → (sortWorld enc w g 0 m dk os).heap[k]? = w.heap[k]? := fun k hk => by
    have hkw : k < w.heap.size := Nat.lt_of_lt_of_le hk h.size
    show (grow (putRow enc (Sort.ahead w m) g 0 dk) os).heap[k]? = _
    rw [heap_grow_old _ os (by rw [size_putRow]; exact hkw)]
    simp only [putRow, mapBlock, Sort.ahead, Array.getElem?_modify, if_neg (show ¬ g = k by omega)]
  exact ⟨h.os, h.tape, h.output, by
    show _ ≤ (grow (putRow enc (Sort.ahead w m) g 0 dk) os).heap.size
    rw [size_grow, size_putRow]
    exact Nat.le_trans h.size (Nat.le_add_right _ _), fun k hk => (hb k hk).trans (h.block k hk)⟩
theorem inord_of {P : Nat → Plt} {n : Nat} (hn : n < 2 ^ 64) : InOrd P n (((List.finRange n).mergeSort fun x y => !(ltOf (cfP P)) y x).map (·.val)) := by
  have hp := List.mergeSort_perm (List.finRange n) (fun x y => !(ltOf (cfP P)) y x)
  have hr : (List.finRange n).map (·.val) = List.range n := by
    apply List.ext_getElem
    · simp
    · intro i h1 h2; simp
  constructor
  · have := hp.map (·.val)
    rwa [hr] at this
  · have hnd : (((List.finRange n).mergeSort fun x y => !(ltOf (cfP P)) y x)).Nodup := hp.nodup_iff.2 (by
      have : ((List.finRange n).map (·.val)).Nodup := by rw [hr]; exact List.nodup_range
      exact List.Pairwise.of_map _ (fun a b h e => h (by rw [e])) this)
    have hs := List.pairwise_mergeSort (le := fun x y => !(ltOf (cfP P (n := n))) y x) (fun a b c h1 h2 => by
      simp only [lt_cfP, Bool.not_eq_true', decide_eq_false_iff_not] at *
      omega) (fun a b => by
      simp only [lt_cfP, Bool.or_eq_true, Bool.not_eq_true', decide_eq_false_iff_not]
      omega) (List.finRange n)
    rw [List.pairwise_map]
    refine List.Pairwise.imp_of_mem ?_ (hs.and hnd)
    intro a b _ _ ⟨h1, h2⟩
    simp only [lt_cfP, Bool.not_eq_true', decide_eq_false_iff_not] at h1
    have : kAt P a ≠ kAt P b := fun e => h2 (Fin.ext (kAt_inj (by omega) (by omega) e))
    omega
/-- What a call leaves that hands back places. -/
def OPl (b : Nat) (w : World) (v : Value) (o : List Nat) : Prop := OR nv 3 b w v o
theorem cell_sorted {α : Type} [Inhabited α] {enc : α → Value} {w : World} {g m b k : Nat} {dk : Array α} {os : Array Obj} {v : Value} (hb : b ≠ g) (h : w.cell? ⟨b, k, none⟩ = some v) : (sortWorld enc w g 0 m dk os).cell? ⟨b, k, none⟩ = some v := by
  have hl := World.block_lt_of_cell? w _ h
  have e : (sortWorld enc w g 0 m dk os).heap[b]? = w.heap[b]? := by
    show (grow (putRow enc (Sort.ahead w m) g 0 dk) os).heap[b]? = _
    rw [heap_grow_old _ os (by rw [size_putRow]; exact hl)]
    simp only [putRow, mapBlock, Sort.ahead, Array.getElem?_modify, if_neg (Ne.symm hb)]
  unfold World.cell? at *
  simp only [e]
  exact h
/-- The sort of the places. -/
theorem t184 {w : World} {p : Option Addr} {n cap b0 g cb lb : Nat} {P : Nat → Plt} (hn : 0 < n) (hV : PV w p n cap P) (hg : ∀ b o, p = some ⟨b, o, none⟩ → b ≠ g) (hcb : cb ≠ g) (hlb : lb ≠ g) (hc : w.cell? ⟨cb, 0, none⟩ = some (.func (.func 159) #[] #[])) (hl : w.cell? ⟨lb, 0, none⟩ = some (.slice p n cap)) (hO : OPl b0 w (.slice (some ⟨g, 0, none⟩) n n) (List.range n)) :
    Calls Tryz.prog 184 #[.slice (some ⟨g, 0, none⟩) n n, .func (.func 185) #[] #[.pointer (some ⟨cb, 0, none⟩), .pointer (some ⟨lb, 0, none⟩)]] w fun e w' => e = .returned (.tuple #[]) ∧ ∃ o, Hid (InOrd P n o ∧ OPl b0 w' (.slice (some ⟨g, 0, none⟩) n n) o ∧ ∀ w0, Up w0 w → w0.heap.size ≤ g → Up w0 w') := by
  haveI : Inhabited (Fin n) := ⟨⟨0, hn⟩⟩
  have few := hV.few
  obtain ⟨b, o, hp, hrd⟩ := hV.rd hn
  have hsz : (List.finRange n).toArray.size = n := by simp
  have hlt := (OR.at_ hO)
  have hH : Holds (encP (n := n)) w g 0 (List.finRange n).toArray := fun j hj => by
    rw [hsz] at hj
    refine ⟨?_, by rw [Nat.zero_add]; exact OR.frz hO j⟩
    rw [Nat.zero_add, OR.cell hO (by simpa using hj), getElem!_pos _ j (by simpa using hj), getElem!_pos _ j (by simpa using hj)]
    simp [encP, nv]
  have hcmp : CmpLays1 Tryz.prog 185 #[.pointer (some ⟨cb, 0, none⟩), .pointer (some ⟨lb, 0, none⟩)] (encP (n := n)) (cfP P) g 0 (List.finRange n).toArray.size w := by
    intro m os dk _ x y
    have hS : S56 (sortWorld (encP (n := n)) w g 0 m dk os) cb lb p n cap b o x.val y.val (P x) (P y) := by
      have hbg := hg b o hp
      have cc : ∀ i, i < n → P5 (sortWorld (encP (n := n)) w g 0 m dk os) b (o + i * 5) (P i) := fun i hi => by
        have k := hrd i hi
        exact ⟨cell_sorted hbg k.c0, cell_sorted hbg k.c1, cell_sorted hbg k.c2, cell_sorted hbg k.c3, cell_sorted hbg k.c4⟩
      exact ⟨cell_sorted hcb hc, cell_sorted hlb hl, cc x x.isLt, cc y y.isLt⟩
    have hx := x.isLt
    have hy := y.isLt
    refine (t185 hS hp (hV.fit x hx) (hV.fit y hy) hx hy few).mono ?_
    rintro e w' ⟨rfl, hgr⟩
    refine ⟨?_, hgr.out⟩
    unfold cfP
    rw [cmp_at (hV.fit x hx) (hV.fit y hy) (by omega) (by omega)]
  have H := Any.slices_SortFunc_total sortPlaces (encP (n := n)) (fun _ => rfl) (cfP P) (swoP P n) 185 #[.pointer (some ⟨cb, 0, none⟩), .pointer (some ⟨lb, 0, none⟩)] g 0 n (List.finRange n).toArray w (fun args w => eg185 args w) hcmp hH hlt.2 (by rw [hsz]; omega) (fun x y h1 h2 => by
    rw [lt_cfP] at h1 h2
    simp at h1 h2
    exact Fin.ext (kAt_inj (P := P) (by omega) (by omega) (by omega)))
  rw [hsz] at H
  refine H.mono ?_
  rintro e w' ⟨rfl, m, os, rfl⟩
  refine ⟨rfl, _, inord_of (P := P) (n := n) (by omega), ?_, fun w0 hu hg0 => gr_sorted_up hu hg0⟩
  have hown : w.ownsRow b0 3 1 (.slice (some ⟨g, 0, none⟩) n n) n ((List.range n).map nv) := by
    have := hO
    unfold OPl OR at this
    rwa [List.length_range] at this
  have hl2 : ((List.finRange n).mergeSort fun x y => !(ltOf (cfP P)) y x).toArray.size = n := by simp
  have := owns_sorted (enc := encP (n := n)) (m := m) (os := os) hown hl2
  unfold OPl OR
  simp only [List.length_map, List.length_mergeSort, List.length_finRange, List.map_map]
  exact this
end Go.Proofs.YtflngnnoibkkoaaGreat.Pl
