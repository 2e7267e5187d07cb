/- A plot's rank, and how two plots stand to each other: the program's. -/
import Derived.Test.YtijfmaepoamkgaaRz
import Derived.StillTailTactics
import Derived.Laws.Rows
import Derived.Deep.MidRow
import Derived.Deep.Upon
namespace Go.Proofs.Ytijfmaepoamkgaa
open Go.ChangeShapes Go.WideShapes Go.ChangeAt Go.RowKit Go.Fl Go.Sort
attribute [local go_sem] run_store_float call53 run_neg fold_eq fold_ne fold_lt fold_gt abs_eq

theorem t72 (x : Nat) (w : World) (hx : x < 2 ^ 64) : Calls Try.prog 72 #[.float .f64 x] w fun e w' => e = .returned (.int .u64 (key x)) ∧ w' = w := by
  cases hN : isN x
  · rcases Nat.lt_or_ge x (2 ^ 63) with hl | hg
    · have h1 := and_top x hx
      rw [if_pos hl] at h1
      have h2 := or_top x hl
      have hk : key x = x + 2 ^ 63 := by unfold key; rw [hN, if_pos hl]; rfl
      rw [hk]
      go_enter Try.func72, Try.ntmps72
      go_wp2_with (go_at_call 49; refine (t49 _ _).mono ?_; rintro e w' ⟨rfl, rfl⟩; rw [hN])
      go_ret
      exact ⟨rfl, rfl⟩
    · have h1 := and_top x hx
      rw [if_neg (by omega)] at h1
      have h2 := xor_top x hx
      have hk : key x = 2 ^ 64 - 1 - x := by unfold key; rw [hN, if_neg (by simp), if_neg (by omega)]
      rw [hk]
      go_enter Try.func72, Try.ntmps72
      go_wp2_with (go_at_call 49; refine (t49 _ _).mono ?_; rintro e w' ⟨rfl, rfl⟩; rw [hN])
      go_ret
      exact ⟨rfl, rfl⟩
  · have hk : key x = 18446744073709551615 := key_nan hN
    rw [hk]
    go_enter Try.func72, Try.ntmps72
    go_wp2_with (go_at_call 49; refine (t49 _ _).mono ?_; rintro e w' ⟨rfl, rfl⟩; rw [hN])
    go_ret
    exact ⟨rfl, rfl⟩
theorem t71 (x : Nat) (w : World) (hx : x < 2 ^ 64) : Calls Try.prog 71 #[.float .f64 x] w fun e w' => e = .returned (.int .u64 (fall x)) ∧ w' = w := by
  cases hN : isN x
  · have h2 := xor_top (key x) (key_lt hx)
    have hk : fall x = 2 ^ 64 - 1 - key x := by unfold fall; rw [hN]; rfl
    rw [hk]
    go_enter Try.func71, Try.ntmps71
    go_wp2_with (first | (go_at_call 49; refine (t49 _ _).mono ?_; rintro e w' ⟨rfl, rfl⟩; rw [hN]) | (go_at_call 72; refine (t72 _ _ hx).mono ?_; rintro e w' ⟨rfl, rfl⟩))
    go_ret
    exact ⟨rfl, rfl⟩
  · have hk : fall x = 18446744073709551615 := by unfold fall; rw [hN]; rfl
    rw [hk]
    go_enter Try.func71, Try.ntmps71
    go_wp2_with (go_at_call 49; refine (t49 _ _).mono ?_; rintro e w' ⟨rfl, rfl⟩; rw [hN])
    go_ret
    exact ⟨rfl, rfl⟩
theorem t87 (a : Int) (w : World) : Calls Try.prog 87 #[.int .u64 a] w fun e w' => e = .returned (.bool false) ∧ w' = w := by
  go_enter Try.func87, Try.ntmps87
  go_wp2
  go_ret
  exact ⟨by simp, rfl⟩
theorem t73u (a b : Nat) (w : World) : Calls Try.prog 73 #[.int .u64 a, .int .u64 b] w fun e w' => e = .returned (.int .i64 (cmpN a b)) ∧ w' = w := by
  go_enter Try.func73, Try.ntmps73
  go_wp2_with (go_at_call 87; (with_reducible refine (t87 _ _).mono ?_); rintro e w' ⟨rfl, hw⟩; subst w')
  all_goals (go_ret; go_tidy; refine ⟨?_, rfl⟩; unfold cmpN)
  · rw [if_pos (by omega)]; rfl
  · rw [if_neg (by omega), if_pos (by omega)]; rfl
  · rw [if_neg (by omega), if_neg (by omega)]; rfl
/-- A rank in memory. -/
structure RkAt (w : World) (g : Nat) (p : Plt) : Prop where
  k0 : w.cell? ⟨g, 0, none⟩ = some (.int .u64 (fall p.p))
  k1 : w.cell? ⟨g, 1, none⟩ = some (.int .u64 (key p.r))
  k2 : w.cell? ⟨g, 2, none⟩ = some (.int .u64 (key p.s))
  k3 : w.cell? ⟨g, 3, none⟩ = some (.int .u64 (key p.b))
  k4 : w.cell? ⟨g, 4, none⟩ = some (.int .u64 (key p.t))
def pC (p : Plt) : Array Value := #[.float .f64 p.r, .float .f64 p.s, .float .f64 p.p, .float .f64 p.b, .float .f64 p.t]
def rC (p : Plt) : Array Value := #[.int .u64 (fall p.p), .int .u64 (key p.r), .int .u64 (key p.s), .int .u64 (key p.b), .int .u64 (key p.t)]
end Go.Proofs.Ytijfmaepoamkgaa
/- rankOf. -/
namespace Go.Proofs.Ytijfmaepoamkgaa
open Go.ChangeShapes Go.WideShapes Go.ChangeAt Go.RowKit Go.Fl Go.Sort
attribute [local go_sem] run_store_float call53 run_neg fold_eq fold_ne fold_lt fold_gt abs_eq
theorem gr_of {w w' : World} (h : Up w w') (hd : w.drawn ≤ w'.drawn) : Gr w w' := by
  have h' : RowKit.Below w.heap.size w w' := h
  refine ⟨w'.drawn - w.drawn, w'.heap.extract w.heap.size w'.heap.size, ?_⟩
  have hh : w'.heap = w.heap ++ w'.heap.extract w.heap.size w'.heap.size := by
    apply Array.ext
    · simp
      have := h'.size
      omega
    · intro i h1 h2
      by_cases hi : i < w.heap.size
      · have := h'.block i hi
        rw [Array.getElem_append_left hi]
        rw [Array.getElem?_eq_getElem h1, Array.getElem?_eq_getElem hi] at this
        exact Option.some.inj this
      · rw [Array.getElem_append_right (by omega)]
        simp
        congr 1
        omega
  have e1 := h'.os
  have e2 := h'.tape
  have e3 := h'.output
  cases w
  cases w'
  simp only [World.drewN, grow] at *
  simp [e1, e2, e3, ← hh]
  omega
theorem gr_drawn {w w' : World} (h : Gr w w') : w.drawn ≤ w'.drawn := by
  obtain ⟨q, os, rfl⟩ := h
  show w.drawn ≤ w.drawn + q
  omega
/-- A plot's cells in memory. -/
structure B5 (w : World) (g : Nat) (r s p b t : Nat) : Prop where
  k0 : w.cell? ⟨g, 0, none⟩ = some (.float .f64 r)
  k1 : w.cell? ⟨g, 1, none⟩ = some (.float .f64 s)
  k2 : w.cell? ⟨g, 2, none⟩ = some (.float .f64 p)
  k3 : w.cell? ⟨g, 3, none⟩ = some (.float .f64 b)
  k4 : w.cell? ⟨g, 4, none⟩ = some (.float .f64 t)
theorem B5.up {w w' : World} {g r s p b t : Nat} (h : B5 w g r s p b t) (hu : Up w w') : B5 w' g r s p b t := ⟨cell_up h.k0 hu, cell_up h.k1 hu, cell_up h.k2 hu, cell_up h.k3 hu, cell_up h.k4 hu⟩
theorem B5.new (w : World) (r s p b t : Nat) (ty : TypeId) : B5 (w.alloc (.cells #[.float .f64 r, .float .f64 s, .float .f64 p, .float .f64 b, .float .f64 t] ty)) w.heap.size r s p b t := by
  constructor <;> exact World.cell?_alloc_at _ _ _ _ rfl
theorem b5drew {w : World} {g r s p b t : Nat} (h : Hid (B5 w g r s p b t)) : B5 w.drew g r s p b t := h.out.up (Up.drew _)
theorem eg71 (args : Array Value) (w : World) : (callFunc 71 args).run Try.prog w = .ok (.enter 71 args) w := enters Try.func71 (by kernel_rfl) (by kernel_rfl) _ _
theorem eg72 (args : Array Value) (w : World) : (callFunc 72 args).run Try.prog w = .ok (.enter 72 args) w := enters Try.func72 (by kernel_rfl) (by kernel_rfl) _ _
theorem size92 : (Try.prog.info? 92).map (·.size) = some 5 := by kernel_rfl
/-- Five cells in a block of their own. -/
def Bk (w : World) (g : Nat) (ty : TypeId) (c0 c1 c2 c3 c4 : Value) : Prop := w.heap[g]? = some (.cells #[c0, c1, c2, c3, c4] ty)
theorem Bk.cells {w : World} {g : Nat} {ty : TypeId} {c0 c1 c2 c3 c4 : Value} (h : Bk w g ty c0 c1 c2 c3 c4) : w.cell? ⟨g, 0, none⟩ = some c0 ∧ w.cell? ⟨g, 1, none⟩ = some c1 ∧ w.cell? ⟨g, 2, none⟩ = some c2 ∧ w.cell? ⟨g, 3, none⟩ = some c3 ∧ w.cell? ⟨g, 4, none⟩ = some c4 := by
  unfold Bk at h
  unfold World.cell?
  simp [h]
theorem Bk.frz {w : World} {g : Nat} {ty : TypeId} {c0 c1 c2 c3 c4 : Value} (h : Bk w g ty c0 c1 c2 c3 c4) (i : Nat) : w.frozen? ⟨g, i, none⟩ = false := by
  unfold Bk at h
  unfold World.frozen?
  simp [h]
theorem Bk.lt {w : World} {g : Nat} {ty : TypeId} {c0 c1 c2 c3 c4 : Value} (h : Bk w g ty c0 c1 c2 c3 c4) : g < w.heap.size := by
  unfold Bk at h
  exact (Array.getElem?_eq_some_iff.1 h).1
theorem Bk.up {w w' : World} {g : Nat} {ty : TypeId} {c0 c1 c2 c3 c4 : Value} (h : Bk w g ty c0 c1 c2 c3 c4) (hu : Up w w') : Bk w' g ty c0 c1 c2 c3 c4 := by
  have := RowKit.Below.block hu g h.lt
  unfold Bk at *
  rw [this]; exact h
theorem Bk.new (w : World) (ty : TypeId) (c0 c1 c2 c3 c4 : Value) : Bk (w.alloc (.cells #[c0, c1, c2, c3, c4] ty)) w.heap.size ty c0 c1 c2 c3 c4 := heap_alloc_last _ _
theorem Bk.there {w : World} {g : Nat} {ty : TypeId} {c0 c1 c2 c3 c4 : Value} (h : Bk w g ty c0 c1 c2 c3 c4) : w.there g 0 5 := by
  intro j hj
  obtain ⟨k0, k1, k2, k3, k4⟩ := h.cells
  refine ⟨?_, by rw [Nat.zero_add]; exact h.frz j⟩
  rcases (show j = 0 ∨ j = 1 ∨ j = 2 ∨ j = 3 ∨ j = 4 by omega) with rfl | rfl | rfl | rfl | rfl
  · rw [Nat.zero_add, k0]; rfl
  · rw [Nat.zero_add, k1]; rfl
  · rw [Nat.zero_add, k2]; rfl
  · rw [Nat.zero_add, k3]; rfl
  · rw [Nat.zero_add, k4]; rfl
theorem Bk.set {w : World} {g : Nat} {ty : TypeId} {c0 c1 c2 c3 c4 : Value} (h : Bk w g ty c0 c1 c2 c3 c4) (v0 v1 v2 v3 v4 : Value) : Bk (w.setCells g 0 [v0, v1, v2, v3, v4]) g ty v0 v1 v2 v3 v4 := by
  unfold Bk at *
  simp only [World.setCells, World.setCell, Array.getElem?_modify, h]
  simp
theorem Bk.other {w : World} {g g' : Nat} {ty : TypeId} {c0 c1 c2 c3 c4 : Value} (h : Bk w g ty c0 c1 c2 c3 c4) (hne : g ≠ g') (o : Nat) (l : List Value) : Bk (w.setCells g' o l) g ty c0 c1 c2 c3 c4 := by
  unfold Bk at *
  rw [World.heap_setCells_other w g' o l (Bk.lt h) hne]; exact h
theorem up_set {w w' : World} {g : Nat} (h : Up w w') (hg : w.heap.size ≤ g) : ∀ (o : Nat) (l : List Value), Up w (w'.setCells g o l)
  | _, [] => h
  | o, v :: l => up_set (w' := w'.setCell ⟨g, o, none⟩ v) (Below.setCell h hg _) hg (o + 1) l
theorem drawn_set (g : Nat) : ∀ (l : List Value) (o : Nat) (w : World), (w.setCells g o l).drawn = w.drawn
  | [], _, _ => rfl
  | v :: l, o, w => by
    unfold World.setCells
    rw [drawn_set g l]
    rfl
theorem gr_set {w w' : World} {g : Nat} (h : Gr w w') (hg : w.heap.size ≤ g) (o : Nat) (l : List Value) : Gr w (w'.setCells g o l) := gr_of (up_set h.up hg o l) (by rw [drawn_set]; exact gr_drawn h)

set_option maxRecDepth 20000 in
set_option maxHeartbeats 2000000 in
theorem t59 (p : Plt) (hp : p.Fit) (w : World) : Calls Try.prog 59 #[.agg (pC p)] w fun e w' => e = .returned (.agg (rC p)) ∧ Hid (Gr w w') := by
  have C0 : Hid (∀ w, Calls Try.prog 71 #[.float .f64 p.p] w fun e w' => e = .returned (.int .u64 (fall p.p)) ∧ w' = w) := fun w => t71 _ w hp.p
  have C1 : Hid (∀ w, Calls Try.prog 72 #[.float .f64 p.r] w fun e w' => e = .returned (.int .u64 (key p.r)) ∧ w' = w) := fun w => t72 _ w hp.r
  have C2 : Hid (∀ w, Calls Try.prog 72 #[.float .f64 p.s] w fun e w' => e = .returned (.int .u64 (key p.s)) ∧ w' = w) := fun w => t72 _ w hp.s
  have C3 : Hid (∀ w, Calls Try.prog 72 #[.float .f64 p.b] w fun e w' => e = .returned (.int .u64 (key p.b)) ∧ w' = w) := fun w => t72 _ w hp.b
  have C4 : Hid (∀ w, Calls Try.prog 72 #[.float .f64 p.t] w fun e w' => e = .returned (.int .u64 (key p.t)) ∧ w' = w) := fun w => t72 _ w hp.t
  unfold pC rC
  obtain ⟨r, s, q, b, t⟩ := p
  simp only at *
  generalize fall q = f0 at *
  generalize key r = k1 at *
  generalize key s = k2 at *
  generalize key b = k3 at *
  generalize key t = k4 at *
  clear hp
  have HB : Hid (B5 ((w.alloc (.cells #[.float .f64 r, .float .f64 s, .float .f64 q, .float .f64 b, .float .f64 t] 28)).alloc (.cells #[.int .u64 0, .int .u64 0, .int .u64 0, .int .u64 0, .int .u64 0] 92)) w.heap.size r s q b t) := (B5.new w r s q b t 28).up (Up.alloc _ _)
  have HG : Hid (Gr w ((w.alloc (.cells #[.float .f64 r, .float .f64 s, .float .f64 q, .float .f64 b, .float .f64 t] 28)).alloc (.cells #[.int .u64 0, .int .u64 0, .int .u64 0, .int .u64 0, .int .u64 0] 92))) := (Gr.alloc _ _).trans (Gr.alloc _ _)
  have HR : Hid (((w.alloc (.cells #[.float .f64 r, .float .f64 s, .float .f64 q, .float .f64 b, .float .f64 t] 28)).alloc (.cells #[.int .u64 0, .int .u64 0, .int .u64 0, .int .u64 0, .int .u64 0] 92)).heap[w.heap.size + 1]? = some (.cells #[.int .u64 0, .int .u64 0, .int .u64 0, .int .u64 0, .int .u64 0] 92)) := by
    have := heap_alloc_last (w.alloc (.cells #[.float .f64 r, .float .f64 s, .float .f64 q, .float .f64 b, .float .f64 t] 28)) (.cells #[.int .u64 0, .int .u64 0, .int .u64 0, .int .u64 0, .int .u64 0] 92)
    rwa [show (w.alloc (.cells #[.float .f64 r, .float .f64 s, .float .f64 q, .float .f64 b, .float .f64 t] 28)).heap.size = w.heap.size + 1 by simp] at this
  go_enter Try.func59, Try.ntmps59
  go_wp2_with fail
  generalize (w.alloc (.cells #[.float .f64 r, .float .f64 s, .float .f64 q, .float .f64 b, .float .f64 t] 28)).alloc (.cells #[.int .u64 0, .int .u64 0, .int .u64 0, .int .u64 0, .int .u64 0] 92) = W at *
  have HL : Hid (w.heap.size ≤ w.heap.size + 1) := Nat.le_succ _
  generalize w.heap.size + 1 = g at *
  generalize hh0 : w.heap.size = h0 at *
  refine wp_region_shut 16 [(0, none), (1, some false), (3, none), (4, some false), (6, none), (7, some false), (9, none), (10, some false), (12, none), (13, some false), (2, some true), (5, some true), (8, some true), (11, some true), (14, some true), (15, none)] (fun w' => B5 w' h0 r s q b t) (by kernel_rfl) (by decide) rfl (by kernel_rfl) (fun _ _ d _ _ h => by cases d <;> exact h) (b5drew HB) ?_
  refine OrdS.looks (.pointer (some ⟨h0, 2, none⟩)) (some 3) _ rfl rfl (Or.inl ⟨by kernel_rfl, fun w' hS => ?_⟩) ?_
  · go_simp
  refine OrdS.reads (.float .f64 q) (some 4) _ rfl rfl (Or.inl ⟨by kernel_rfl, fun w' hS => ?_⟩) ?_
  · obtain ⟨z0, z1, z2, z3, z4⟩ := hS
    go_simp
  refine OrdS.looks (.pointer (some ⟨h0, 0, none⟩)) (some 6) _ rfl rfl (Or.inl ⟨by kernel_rfl, fun w' hS => ?_⟩) ?_
  · go_simp
  refine OrdS.reads (.float .f64 r) (some 7) _ rfl rfl (Or.inl ⟨by kernel_rfl, fun w' hS => ?_⟩) ?_
  · obtain ⟨z0, z1, z2, z3, z4⟩ := hS
    go_simp
  refine OrdS.looks (.pointer (some ⟨h0, 1, none⟩)) (some 9) _ rfl rfl (Or.inl ⟨by kernel_rfl, fun w' hS => ?_⟩) ?_
  · go_simp
  refine OrdS.reads (.float .f64 s) (some 10) _ rfl rfl (Or.inl ⟨by kernel_rfl, fun w' hS => ?_⟩) ?_
  · obtain ⟨z0, z1, z2, z3, z4⟩ := hS
    go_simp
  refine OrdS.looks (.pointer (some ⟨h0, 3, none⟩)) (some 12) _ rfl rfl (Or.inl ⟨by kernel_rfl, fun w' hS => ?_⟩) ?_
  · go_simp
  refine OrdS.reads (.float .f64 b) (some 13) _ rfl rfl (Or.inl ⟨by kernel_rfl, fun w' hS => ?_⟩) ?_
  · obtain ⟨z0, z1, z2, z3, z4⟩ := hS
    go_simp
  refine OrdS.looks (.pointer (some ⟨h0, 4, none⟩)) (some 15) _ rfl rfl (Or.inl ⟨by kernel_rfl, fun w' hS => ?_⟩) ?_
  · go_simp
  refine OrdS.reads (.float .f64 t) (some 16) _ rfl rfl (Or.inl ⟨by kernel_rfl, fun w' hS => ?_⟩) ?_
  · obtain ⟨z0, z1, z2, z3, z4⟩ := hS
    go_simp
  simp only [Act.put, List.setIfInBounds_toArray, List.set_cons_succ, List.set_cons_zero]
  refine OrdS.does ?_
  refine wpOp_callG (f := 71) (some 5) rfl rfl (by kernel_rfl) rfl #[.float .f64 q] (by kernel_rfl) (eg71 _ _) ?_
  refine (C0.out _).mono ?_
  rintro e w' ⟨rfl, hw⟩
  subst w'
  refine ⟨_, rfl, b5drew HB, ?_⟩
  refine OrdS.does ?_
  refine wpOp_callG (f := 72) (some 8) rfl rfl (by kernel_rfl) rfl #[.float .f64 r] (by kernel_rfl) (eg72 _ _) ?_
  refine (C1.out _).mono ?_
  rintro e w' ⟨rfl, hw⟩
  subst w'
  refine ⟨_, rfl, b5drew HB, ?_⟩
  refine OrdS.does ?_
  refine wpOp_callG (f := 72) (some 11) rfl rfl (by kernel_rfl) rfl #[.float .f64 s] (by kernel_rfl) (eg72 _ _) ?_
  refine (C2.out _).mono ?_
  rintro e w' ⟨rfl, hw⟩
  subst w'
  refine ⟨_, rfl, b5drew HB, ?_⟩
  refine OrdS.does ?_
  refine wpOp_callG (f := 72) (some 14) rfl rfl (by kernel_rfl) rfl #[.float .f64 b] (by kernel_rfl) (eg72 _ _) ?_
  refine (C3.out _).mono ?_
  rintro e w' ⟨rfl, hw⟩
  subst w'
  refine ⟨_, rfl, b5drew HB, ?_⟩
  refine OrdS.does ?_
  refine wpOp_callG (f := 72) (some 17) rfl rfl (by kernel_rfl) rfl #[.float .f64 t] (by kernel_rfl) (eg72 _ _) ?_
  refine (C4.out _).mono ?_
  rintro e w' ⟨rfl, hw⟩
  subst w'
  refine ⟨_, rfl, b5drew HB, ?_⟩
  simp only [Act.put, List.setIfInBounds_toArray, List.set_cons_succ, List.set_cons_zero]
  refine OrdS.looks (.agg #[.int .u64 f0, .int .u64 k1, .int .u64 k2, .int .u64 k3, .int .u64 k4]) (some 18) _ rfl rfl (Or.inl ⟨by kernel_rfl, fun w' hS => ?_⟩) ?_
  · go_simp
  refine OrdS.ends ?_
  simp only [List.drop_succ_cons, List.drop_zero, Act.put, List.setIfInBounds_toArray, List.set_cons_succ, List.set_cons_zero]
  refine wpList_store_mid rfl 92 _ _ rfl g 0 _ rfl rfl (Bk.there HR.out) size92 (by simp [Value.oneCell']) ?_
  have HG2 : Hid (Gr w (W.drew.setCells g 0 [.int .u64 f0, .int .u64 k1, .int .u64 k2, .int .u64 k3, .int .u64 k4])) := gr_set (HG.out.trans (Gr.drewN W 1)) (by rw [hh0]; exact HL.out) 0 _
  have HR2 : Hid (Bk (W.drew.setCells g 0 [.int .u64 f0, .int .u64 k1, .int .u64 k2, .int .u64 k3, .int .u64 k4]) g 92 (.int .u64 f0) (.int .u64 k1) (.int .u64 k2) (.int .u64 k3) (.int .u64 k4)) := Bk.set (Bk.up (show Bk W g 92 _ _ _ _ _ from HR.out) (Up.drew W)) _ _ _ _ _
  simp only
  generalize W.drew.setCells g 0 [.int .u64 f0, .int .u64 k1, .int .u64 k2, .int .u64 k3, .int .u64 k4] = W2 at *
  go_wp2
  exact bodyPost_ret (results_cell_row Try.results59 _ _ g 92 _ (0, 0) _ rfl HR2.out Try.underlying92 rfl size92) rfl ⟨rfl, HG2⟩
end Go.Proofs.Ytijfmaepoamkgaa
/- slices.Compare of ranks; how two plots stand to each other. -/
namespace Go.Proofs.Ytijfmaepoamkgaa
open Go.ChangeShapes Go.WideShapes Go.ChangeAt Go.RowKit Go.Fl Go.Sort
attribute [local go_sem] run_store_float call53 run_neg fold_eq fold_ne fold_lt fold_gt abs_eq

def fromN (A B : Nat → Nat) : Nat → Nat → Int
  | 0, _ => 0
  | n + 1, i => orI (cmpN (A i) (B i)) (fromN A B n (i + 1))
/-- Five numbers that can be read. -/
structure R5 (w : World) (g : Nat) (A : Nat → Nat) : Prop where
  at' : ∀ j, j < 5 → w.cell? ⟨g, j, none⟩ = some (.int .u64 (A j))
theorem t60 (g h : Nat) (A B : Nat → Nat) (w : World) (ha : R5 w g A) (hb : R5 w h B) : Calls Try.prog 60 #[.slice (some ⟨g, 0, none⟩) 5 5, .slice (some ⟨h, 0, none⟩) 5 5] w fun e w' => e = .returned (.int .i64 (fromN A B 5 0)) ∧ w' = w := by
  have HA : Hid (R5 w g A) := ha
  have HB : Hid (R5 w h B) := hb
  clear ha hb
  generalize hR : fromN A B 5 0 = R
  have HR : Hid (R = fromN A B (5 - 0) 0) := hR.symm
  clear hR
  go_enter Try.func60, Try.ntmps60
  go_wp2
  go_loopw [11] (fun vi wr => ∃ i : Nat, i ≤ 5 ∧ vi = .int .i64 i ∧ wr = w ∧ Hid (R = fromN A B (5 - i) i)) (fun vi _ => 5 - (intOf vi).toNat)
  case atStart => exact ⟨0, by omega, rfl, rfl, HR⟩
  case round =>
    obtain ⟨i, hi, rfl, hw, HI⟩ := hrel
    subst hw
    by_cases hlt : i < 5
    · have ca := HA.out.at' i hlt
      have cb := HB.out.at' i hlt
      have HI2 : Hid (R = orI (cmpN (A i) (B i)) (fromN A B (5 - (i + 1)) (i + 1))) := by
        have e := HI.out
        rw [show 5 - i = (5 - (i + 1)) + 1 by omega] at e
        exact e
      clear HI
      generalize A i = a at *
      generalize B i = b at *
      have C : Hid (∀ w, Calls Try.prog 73 #[.int .u64 a, .int .u64 b] w fun e w' => e = .returned (.int .i64 (cmpN a b)) ∧ w' = w) := fun w => t73u a b w
      generalize cmpN a b = c at *
      by_cases hc : c = 0
      · have HN : Hid (R = fromN A B (5 - (i + 1)) (i + 1)) := by
          have e := HI2.out
          unfold orI at e
          rw [if_neg (by simp [hc])] at e
          exact e
        have b0 : (c != 0) = false := by simp [hc]
        clear hc HI2
        go_wp2_with (go_at_call 73; (with_reducible refine (C.out _).mono ?_); rintro e w' ⟨rfl, hw⟩; subst w')
        go_roundw
        case rel => exact ⟨i + 1, by omega, by go_num, by first | rfl | trivial, HN⟩
        case measure => simp [intOf]; omega
      · have HN : Hid (R = c) := by
          have e := HI2.out
          unfold orI at e
          rw [if_pos (by simpa using hc)] at e
          exact e
        have b0 : (c != 0) = true := by simp [hc]
        clear hc HI2
        go_wp2_with (go_at_call 73; (with_reducible refine (C.out _).mono ?_); rintro e w' ⟨rfl, hw⟩; subst w')
        go_ret
        exact ⟨by rw [HN.out]; rfl, rfl⟩
    · obtain rfl : i = 5 := by omega
      have HN : Hid (R = 0) := HI.out
      clear HI hlt
      go_wp2
      go_ret
      exact ⟨by rw [HN.out]; rfl, rfl⟩
end Go.Proofs.Ytijfmaepoamkgaa
