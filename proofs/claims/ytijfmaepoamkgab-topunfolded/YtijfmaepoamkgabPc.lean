/- rankOf. -/
import Derived.Test.YtijfmaepoamkgabPb
import Derived.Deep.MidRow
import Derived.Deep.Upon
namespace Go.Proofs.Ytijfmaepoamkgab
open Go.ChangeShapes Go.WideShapes Go.ChangeAt Go.RowKit Go.Fl Go.Sort
attribute [local go_sem] run_store_float call18 run_neg fold_eq fold_ne fold_lt fold_gt abs_eq
theorem gr_of {w w' : World} (h : Up w w') (hd : w.drawn ≤ w'.drawn) : Gr w w' := by
  have h' : RowKit.Below w.heap.size w w' := h
  refine ⟨w'.drawn - w.drawn, w'.heap.extract w.heap.size w'.heap.size, ?_⟩
  have hh : w'.heap = w.heap ++ w'.heap.extract w.heap.size w'.heap.size := by
    apply Array.ext
    · simp
      have := h'.size
      omega
    · intro i h1 h2
      by_cases hi : i < w.heap.size
      · have := h'.block i hi
        rw [Array.getElem_append_left hi]
        rw [Array.getElem?_eq_getElem h1, Array.getElem?_eq_getElem hi] at this
        exact Option.some.inj this
      · rw [Array.getElem_append_right (by omega)]
        simp
        congr 1
        omega
  have e1 := h'.os
  have e2 := h'.tape
  have e3 := h'.output
  cases w
  cases w'
  simp only [World.drewN, grow] at *
  simp [e1, e2, e3, ← hh]
  omega
theorem gr_drawn {w w' : World} (h : Gr w w') : w.drawn ≤ w'.drawn := by
  obtain ⟨q, os, rfl⟩ := h
  show w.drawn ≤ w.drawn + q
  omega
/-- A plot's cells in memory. -/
structure B5 (w : World) (g : Nat) (r s p b t : Nat) : Prop where
  k0 : w.cell? ⟨g, 0, none⟩ = some (.float .f64 r)
  k1 : w.cell? ⟨g, 1, none⟩ = some (.float .f64 s)
  k2 : w.cell? ⟨g, 2, none⟩ = some (.float .f64 p)
  k3 : w.cell? ⟨g, 3, none⟩ = some (.float .f64 b)
  k4 : w.cell? ⟨g, 4, none⟩ = some (.float .f64 t)
theorem B5.up {w w' : World} {g r s p b t : Nat} (h : B5 w g r s p b t) (hu : Up w w') : B5 w' g r s p b t := ⟨cell_up h.k0 hu, cell_up h.k1 hu, cell_up h.k2 hu, cell_up h.k3 hu, cell_up h.k4 hu⟩
theorem B5.new (w : World) (r s p b t : Nat) (ty : TypeId) : B5 (w.alloc (.cells #[.float .f64 r, .float .f64 s, .float .f64 p, .float .f64 b, .float .f64 t] ty)) w.heap.size r s p b t := by
  constructor <;> exact World.cell?_alloc_at _ _ _ _ rfl
theorem b5drew {w : World} {g r s p b t : Nat} (h : Hid (B5 w g r s p b t)) : B5 w.drew g r s p b t := h.out.up (Up.drew _)
theorem eg55 (args : Array Value) (w : World) : (callFunc 55 args).run Try.prog w = .ok (.enter 55 args) w := enters Try.func55 (by kernel_rfl) (by kernel_rfl) _ _
theorem eg56 (args : Array Value) (w : World) : (callFunc 56 args).run Try.prog w = .ok (.enter 56 args) w := enters Try.func56 (by kernel_rfl) (by kernel_rfl) _ _
theorem size92 : (Try.prog.info? 87).map (·.size) = some 5 := by kernel_rfl
/-- Five cells in a block of their own. -/
def Bk (w : World) (g : Nat) (ty : TypeId) (c0 c1 c2 c3 c4 : Value) : Prop := w.heap[g]? = some (.cells #[c0, c1, c2, c3, c4] ty)
theorem Bk.cells {w : World} {g : Nat} {ty : TypeId} {c0 c1 c2 c3 c4 : Value} (h : Bk w g ty c0 c1 c2 c3 c4) : w.cell? ⟨g, 0, none⟩ = some c0 ∧ w.cell? ⟨g, 1, none⟩ = some c1 ∧ w.cell? ⟨g, 2, none⟩ = some c2 ∧ w.cell? ⟨g, 3, none⟩ = some c3 ∧ w.cell? ⟨g, 4, none⟩ = some c4 := by
  unfold Bk at h
  unfold World.cell?
  simp [h]
theorem Bk.frz {w : World} {g : Nat} {ty : TypeId} {c0 c1 c2 c3 c4 : Value} (h : Bk w g ty c0 c1 c2 c3 c4) (i : Nat) : w.frozen? ⟨g, i, none⟩ = false := by
  unfold Bk at h
  unfold World.frozen?
  simp [h]
theorem Bk.lt {w : World} {g : Nat} {ty : TypeId} {c0 c1 c2 c3 c4 : Value} (h : Bk w g ty c0 c1 c2 c3 c4) : g < w.heap.size := by
  unfold Bk at h
  exact (Array.getElem?_eq_some_iff.1 h).1
theorem Bk.up {w w' : World} {g : Nat} {ty : TypeId} {c0 c1 c2 c3 c4 : Value} (h : Bk w g ty c0 c1 c2 c3 c4) (hu : Up w w') : Bk w' g ty c0 c1 c2 c3 c4 := by
  have := RowKit.Below.block hu g h.lt
  unfold Bk at *
  rw [this]; exact h
theorem Bk.new (w : World) (ty : TypeId) (c0 c1 c2 c3 c4 : Value) : Bk (w.alloc (.cells #[c0, c1, c2, c3, c4] ty)) w.heap.size ty c0 c1 c2 c3 c4 := heap_alloc_last _ _
theorem Bk.there {w : World} {g : Nat} {ty : TypeId} {c0 c1 c2 c3 c4 : Value} (h : Bk w g ty c0 c1 c2 c3 c4) : w.there g 0 5 := by
  intro j hj
  obtain ⟨k0, k1, k2, k3, k4⟩ := h.cells
  refine ⟨?_, by rw [Nat.zero_add]; exact h.frz j⟩
  rcases (show j = 0 ∨ j = 1 ∨ j = 2 ∨ j = 3 ∨ j = 4 by omega) with rfl | rfl | rfl | rfl | rfl
  · rw [Nat.zero_add, k0]; rfl
  · rw [Nat.zero_add, k1]; rfl
  · rw [Nat.zero_add, k2]; rfl
  · rw [Nat.zero_add, k3]; rfl
  · rw [Nat.zero_add, k4]; rfl
theorem Bk.set {w : World} {g : Nat} {ty : TypeId} {c0 c1 c2 c3 c4 : Value} (h : Bk w g ty c0 c1 c2 c3 c4) (v0 v1 v2 v3 v4 : Value) : Bk (w.setCells g 0 [v0, v1, v2, v3, v4]) g ty v0 v1 v2 v3 v4 := by
  unfold Bk at *
  simp only [World.setCells, World.setCell, Array.getElem?_modify, h]
  simp
theorem Bk.other {w : World} {g g' : Nat} {ty : TypeId} {c0 c1 c2 c3 c4 : Value} (h : Bk w g ty c0 c1 c2 c3 c4) (hne : g ≠ g') (o : Nat) (l : List Value) : Bk (w.setCells g' o l) g ty c0 c1 c2 c3 c4 := by
  unfold Bk at *
  rw [World.heap_setCells_other w g' o l (Bk.lt h) hne]; exact h
theorem up_set {w w' : World} {g : Nat} (h : Up w w') (hg : w.heap.size ≤ g) : ∀ (o : Nat) (l : List Value), Up w (w'.setCells g o l)
  | _, [] => h
  | o, v :: l => up_set (w' := w'.setCell ⟨g, o, none⟩ v) (Below.setCell h hg _) hg (o + 1) l
theorem drawn_set (g : Nat) : ∀ (l : List Value) (o : Nat) (w : World), (w.setCells g o l).drawn = w.drawn
  | [], _, _ => rfl
  | v :: l, o, w => by
    unfold World.setCells
    rw [drawn_set g l]
    rfl
theorem gr_set {w w' : World} {g : Nat} (h : Gr w w') (hg : w.heap.size ≤ g) (o : Nat) (l : List Value) : Gr w (w'.setCells g o l) := gr_of (up_set h.up hg o l) (by rw [drawn_set]; exact gr_drawn h)

set_option maxRecDepth 20000 in
set_option maxHeartbeats 2000000 in
theorem t40 (p : Plt) (hp : p.Fit) (w : World) : Calls Try.prog 40 #[.agg (pC p)] w fun e w' => e = .returned (.agg (rC p)) ∧ Hid (Gr w w') := by
  have C0 : Hid (∀ w, Calls Try.prog 55 #[.float .f64 p.p] w fun e w' => e = .returned (.int .u64 (fall p.p)) ∧ w' = w) := fun w => t55 _ w hp.p
  have C1 : Hid (∀ w, Calls Try.prog 56 #[.float .f64 p.r] w fun e w' => e = .returned (.int .u64 (key p.r)) ∧ w' = w) := fun w => t56 _ w hp.r
  have C2 : Hid (∀ w, Calls Try.prog 56 #[.float .f64 p.s] w fun e w' => e = .returned (.int .u64 (key p.s)) ∧ w' = w) := fun w => t56 _ w hp.s
  have C3 : Hid (∀ w, Calls Try.prog 56 #[.float .f64 p.b] w fun e w' => e = .returned (.int .u64 (key p.b)) ∧ w' = w) := fun w => t56 _ w hp.b
  have C4 : Hid (∀ w, Calls Try.prog 56 #[.float .f64 p.t] w fun e w' => e = .returned (.int .u64 (key p.t)) ∧ w' = w) := fun w => t56 _ w hp.t
  unfold pC rC
  obtain ⟨r, s, q, b, t⟩ := p
  simp only at *
  generalize fall q = f0 at *
  generalize key r = k1 at *
  generalize key s = k2 at *
  generalize key b = k3 at *
  generalize key t = k4 at *
  clear hp
  have HB : Hid (B5 ((w.alloc (.cells #[.float .f64 r, .float .f64 s, .float .f64 q, .float .f64 b, .float .f64 t] 27)).alloc (.cells #[.int .u64 0, .int .u64 0, .int .u64 0, .int .u64 0, .int .u64 0] 87)) w.heap.size r s q b t) := (B5.new w r s q b t 27).up (Up.alloc _ _)
  have HG : Hid (Gr w ((w.alloc (.cells #[.float .f64 r, .float .f64 s, .float .f64 q, .float .f64 b, .float .f64 t] 27)).alloc (.cells #[.int .u64 0, .int .u64 0, .int .u64 0, .int .u64 0, .int .u64 0] 87))) := (Gr.alloc _ _).trans (Gr.alloc _ _)
  have HR : Hid (((w.alloc (.cells #[.float .f64 r, .float .f64 s, .float .f64 q, .float .f64 b, .float .f64 t] 27)).alloc (.cells #[.int .u64 0, .int .u64 0, .int .u64 0, .int .u64 0, .int .u64 0] 87)).heap[w.heap.size + 1]? = some (.cells #[.int .u64 0, .int .u64 0, .int .u64 0, .int .u64 0, .int .u64 0] 87)) := by
    have := heap_alloc_last (w.alloc (.cells #[.float .f64 r, .float .f64 s, .float .f64 q, .float .f64 b, .float .f64 t] 27)) (.cells #[.int .u64 0, .int .u64 0, .int .u64 0, .int .u64 0, .int .u64 0] 87)
    rwa [show (w.alloc (.cells #[.float .f64 r, .float .f64 s, .float .f64 q, .float .f64 b, .float .f64 t] 27)).heap.size = w.heap.size + 1 by simp] at this
  go_enter Try.func40, Try.ntmps40
  go_wp2_with fail
  generalize (w.alloc (.cells #[.float .f64 r, .float .f64 s, .float .f64 q, .float .f64 b, .float .f64 t] 27)).alloc (.cells #[.int .u64 0, .int .u64 0, .int .u64 0, .int .u64 0, .int .u64 0] 87) = W at *
  have HL : Hid (w.heap.size ≤ w.heap.size + 1) := Nat.le_succ _
  generalize w.heap.size + 1 = g at *
  generalize hh0 : w.heap.size = h0 at *
  refine wp_region_shut 16 [(0, none), (1, some false), (3, none), (4, some false), (6, none), (7, some false), (9, none), (10, some false), (12, none), (13, some false), (2, some true), (5, some true), (8, some true), (11, some true), (14, some true), (15, none)] (fun w' => B5 w' h0 r s q b t) (by kernel_rfl) (by decide) rfl (by kernel_rfl) (fun _ _ d _ _ h => by cases d <;> exact h) (b5drew HB) ?_
  refine OrdS.looks (.pointer (some ⟨h0, 2, none⟩)) (some 3) _ rfl rfl (Or.inl ⟨by kernel_rfl, fun w' hS => ?_⟩) ?_
  · go_simp
  refine OrdS.reads (.float .f64 q) (some 4) _ rfl rfl (Or.inl ⟨by kernel_rfl, fun w' hS => ?_⟩) ?_
  · obtain ⟨z0, z1, z2, z3, z4⟩ := hS
    go_simp
  refine OrdS.looks (.pointer (some ⟨h0, 0, none⟩)) (some 6) _ rfl rfl (Or.inl ⟨by kernel_rfl, fun w' hS => ?_⟩) ?_
  · go_simp
  refine OrdS.reads (.float .f64 r) (some 7) _ rfl rfl (Or.inl ⟨by kernel_rfl, fun w' hS => ?_⟩) ?_
  · obtain ⟨z0, z1, z2, z3, z4⟩ := hS
    go_simp
  refine OrdS.looks (.pointer (some ⟨h0, 1, none⟩)) (some 9) _ rfl rfl (Or.inl ⟨by kernel_rfl, fun w' hS => ?_⟩) ?_
  · go_simp
  refine OrdS.reads (.float .f64 s) (some 10) _ rfl rfl (Or.inl ⟨by kernel_rfl, fun w' hS => ?_⟩) ?_
  · obtain ⟨z0, z1, z2, z3, z4⟩ := hS
    go_simp
  refine OrdS.looks (.pointer (some ⟨h0, 3, none⟩)) (some 12) _ rfl rfl (Or.inl ⟨by kernel_rfl, fun w' hS => ?_⟩) ?_
  · go_simp
  refine OrdS.reads (.float .f64 b) (some 13) _ rfl rfl (Or.inl ⟨by kernel_rfl, fun w' hS => ?_⟩) ?_
  · obtain ⟨z0, z1, z2, z3, z4⟩ := hS
    go_simp
  refine OrdS.looks (.pointer (some ⟨h0, 4, none⟩)) (some 15) _ rfl rfl (Or.inl ⟨by kernel_rfl, fun w' hS => ?_⟩) ?_
  · go_simp
  refine OrdS.reads (.float .f64 t) (some 16) _ rfl rfl (Or.inl ⟨by kernel_rfl, fun w' hS => ?_⟩) ?_
  · obtain ⟨z0, z1, z2, z3, z4⟩ := hS
    go_simp
  simp only [Act.put, List.setIfInBounds_toArray, List.set_cons_succ, List.set_cons_zero]
  refine OrdS.does ?_
  refine wpOp_callG (f := 55) (some 5) rfl rfl (by kernel_rfl) rfl #[.float .f64 q] (by kernel_rfl) (eg55 _ _) ?_
  refine (C0.out _).mono ?_
  rintro e w' ⟨rfl, hw⟩
  subst w'
  refine ⟨_, rfl, b5drew HB, ?_⟩
  refine OrdS.does ?_
  refine wpOp_callG (f := 56) (some 8) rfl rfl (by kernel_rfl) rfl #[.float .f64 r] (by kernel_rfl) (eg56 _ _) ?_
  refine (C1.out _).mono ?_
  rintro e w' ⟨rfl, hw⟩
  subst w'
  refine ⟨_, rfl, b5drew HB, ?_⟩
  refine OrdS.does ?_
  refine wpOp_callG (f := 56) (some 11) rfl rfl (by kernel_rfl) rfl #[.float .f64 s] (by kernel_rfl) (eg56 _ _) ?_
  refine (C2.out _).mono ?_
  rintro e w' ⟨rfl, hw⟩
  subst w'
  refine ⟨_, rfl, b5drew HB, ?_⟩
  refine OrdS.does ?_
  refine wpOp_callG (f := 56) (some 14) rfl rfl (by kernel_rfl) rfl #[.float .f64 b] (by kernel_rfl) (eg56 _ _) ?_
  refine (C3.out _).mono ?_
  rintro e w' ⟨rfl, hw⟩
  subst w'
  refine ⟨_, rfl, b5drew HB, ?_⟩
  refine OrdS.does ?_
  refine wpOp_callG (f := 56) (some 17) rfl rfl (by kernel_rfl) rfl #[.float .f64 t] (by kernel_rfl) (eg56 _ _) ?_
  refine (C4.out _).mono ?_
  rintro e w' ⟨rfl, hw⟩
  subst w'
  refine ⟨_, rfl, b5drew HB, ?_⟩
  simp only [Act.put, List.setIfInBounds_toArray, List.set_cons_succ, List.set_cons_zero]
  refine OrdS.looks (.agg #[.int .u64 f0, .int .u64 k1, .int .u64 k2, .int .u64 k3, .int .u64 k4]) (some 18) _ rfl rfl (Or.inl ⟨by kernel_rfl, fun w' hS => ?_⟩) ?_
  · go_simp
  refine OrdS.ends ?_
  simp only [List.drop_succ_cons, List.drop_zero, Act.put, List.setIfInBounds_toArray, List.set_cons_succ, List.set_cons_zero]
  refine wpList_store_mid rfl 87 _ _ rfl g 0 _ rfl rfl (Bk.there HR.out) size92 (by simp [Value.oneCell']) ?_
  have HG2 : Hid (Gr w (W.drew.setCells g 0 [.int .u64 f0, .int .u64 k1, .int .u64 k2, .int .u64 k3, .int .u64 k4])) := gr_set (HG.out.trans (Gr.drewN W 1)) (by rw [hh0]; exact HL.out) 0 _
  have HR2 : Hid (Bk (W.drew.setCells g 0 [.int .u64 f0, .int .u64 k1, .int .u64 k2, .int .u64 k3, .int .u64 k4]) g 87 (.int .u64 f0) (.int .u64 k1) (.int .u64 k2) (.int .u64 k3) (.int .u64 k4)) := Bk.set (Bk.up (show Bk W g 87 _ _ _ _ _ from HR.out) (Up.drew W)) _ _ _ _ _
  simp only
  generalize W.drew.setCells g 0 [.int .u64 f0, .int .u64 k1, .int .u64 k2, .int .u64 k3, .int .u64 k4] = W2 at *
  go_wp2
  exact bodyPost_ret (results_cell_row Try.results40 _ _ g 87 _ (0, 0) _ rfl HR2.out Try.underlying87 rfl size92) rfl ⟨rfl, HG2⟩
end Go.Proofs.Ytijfmaepoamkgab
