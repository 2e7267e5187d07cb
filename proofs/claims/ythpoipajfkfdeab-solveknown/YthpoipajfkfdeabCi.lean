/- Matrix. -/
import Derived.Test.YthpoipajfkfdeabCh
namespace Go.Proofs.Ythpoipajfkfdeab
open Go.ChangeShapes Go.WideShapes Go.ChangeAt Go.RowKit Go.Fl Ieee
attribute [local go_sem] run_store_float run_store_c call43 call17 run_neg fold_eq fold_ne fold_lt fold_gt abs_eq

theorem EQ.ext {w0 w : World} {A B n m : Nat} {σ : Nat → Nat} {T T' : Nat → Nat → CN} (h : EQ w0 w A B n m σ T) (he : ∀ i j, i < n → j < m → T i j = T' i j) : EQ w0 w A B n m σ T' := by
  obtain ⟨d, hd, h3⟩ := h.all
  exact ⟨h.ne, h.loA, h.loB, h.ans, ⟨d, hd, fun i j hi hj => (h3 i j hi hj).trans (he i j hi hj)⟩, h.inj, h.lt, h.up⟩
def cjC (x : CN) : CN := (x.1, x.2.map neg)
def dtC (f g : Nat → Nat × Nat) (c : Nat) : CN := (sumN (dotR f g) c, sumN (dotI f g) c)
def matT (f : Nat → Nat → Nat × Nat) (c : Nat) : Nat → Nat → CN := fun a b => if a = b then (sumN (pwF (f a)) c, ab 0) else if a < b then dtC (f b) (f a) c else cjC (dtC (f a) (f b) c)
/-- The numbers that are laid so far. -/
def matP (f : Nat → Nat → Nat × Nat) (c k j : Nat) : Nat → Nat → CN := fun a b => if min a b < k ∨ (min a b = k ∧ max a b < j) then matT f c a b else (ab 0, ab 0)
theorem matP_zero (f : Nat → Nat → Nat × Nat) (c : Nat) : matP f c 0 0 = fun _ _ => (ab 0, ab 0) := by
  funext a b
  unfold matP
  rw [if_neg (by omega)]
theorem matP_diag {f : Nat → Nat → Nat × Nat} {c k : Nat} {v : CN} (hv : v = matT f c k k) : upd2 (matP f c k k) k k v = matP f c k (k + 1) := by
  funext a b
  unfold upd2 matP
  by_cases e : a = k ∧ b = k
  · obtain ⟨rfl, rfl⟩ := e
    rw [if_pos ⟨rfl, rfl⟩, if_pos (by omega), hv]
  · rw [if_neg e]
    by_cases e2 : min a b < k ∨ (min a b = k ∧ max a b < k)
    · rw [if_pos e2, if_pos (by omega)]
    · rw [if_neg e2, if_neg (by omega)]
theorem matP_up {f : Nat → Nat → Nat × Nat} {c k j : Nat} {v u : CN} (hk : k < j) (hv : v = matT f c k j) (hu : u = matT f c j k) : upd2 (upd2 (matP f c k j) k j v) j k u = matP f c k (j + 1) := by
  funext a b
  unfold upd2 matP
  by_cases e : a = j ∧ b = k
  · obtain ⟨rfl, rfl⟩ := e
    rw [if_pos ⟨rfl, rfl⟩, if_pos (by omega), hu]
  · rw [if_neg e]
    by_cases e3 : a = k ∧ b = j
    · obtain ⟨rfl, rfl⟩ := e3
      rw [if_pos ⟨rfl, rfl⟩, if_pos (by omega), hv]
    · rw [if_neg e3]
      by_cases e2 : min a b < k ∨ (min a b = k ∧ max a b < j)
      · rw [if_pos e2, if_pos (by omega)]
      · rw [if_neg e2, if_neg (by omega)]
theorem eg23 (args : Array Value) (w : World) : (callFunc 23 args).run Try.prog w = .ok (.enter 23 args) w := enters Try.func23 (by kernel_rfl) (by kernel_rfl) _ _
theorem eg19 (args : Array Value) (w : World) : (callFunc 19 args).run Try.prog w = .ok (.enter 19 args) w := enters Try.func19 (by kernel_rfl) (by kernel_rfl) _ _
theorem eg24 (args : Array Value) (w : World) : (callFunc 24 args).run Try.prog w = .ok (.enter 24 args) w := enters Try.func24 (by kernel_rfl) (by kernel_rfl) _ _
theorem t19c {w : World} {g1 o1 c1 g2 o2 c2 n : Nat} {f g : Nat → Nat × Nat} (h1 : RD w g1 o1 n f) (h2 : RD w g2 o2 n g) (hn : n ≤ 1000000) : Calls Try.prog 19 #[.slice (some ⟨g1, o1, none⟩) n c1, .slice (some ⟨g2, o2, none⟩) n c2] w fun e w' => ∃ r i, e = .returned (.complex .f64 r i) ∧ Hid ((ab r, ab i) = dtC f g n) ∧ Hid (Up w w') :=
  (t19 g1 o1 n c1 g2 o2 n c2 n f g w (Or.inl ⟨rfl, Nat.le_refl _⟩) h1 h2 (by omega)).mono fun e w' ⟨r, i, k1, k2, k3, k4⟩ => ⟨r, i, k1, by show _ = _; rw [k2.out, k3.out]; rfl, k4⟩
def MtR (n : Nat) (T : Nat → Nat → CN) (w : World) (e : Ending) (w' : World) : Prop := ∃ A B, e = .returned (.tuple #[.slice (some ⟨A, 0, none⟩) n n, .int .i64 0]) ∧ Hid (EQ w w' A B n n (fun i => i) T)
set_option maxHeartbeats 8000000 in
set_option maxRecDepth 20000 in
theorem t8 {w : World} {p : Option Addr} {n c m : Nat} {L : Nat → Nat} {f : Nat → Nat → Nat × Nat} (h : TR w p n L f) (hL : longB L (widN n L) n = true) (hm : widN n L = m) (hn : n ≤ 8) (hm0 : 0 < n → 0 < m) (hm1 : m ≤ 100) : Calls Try.prog 8 #[.slice p n c] w (MtR n (matT f m) w) := by
  have T21 : Hid (Calls Try.prog 21 #[.slice p n c] w (IR m w)) := by rw [← hm]; exact t21 h
  have T12 : Hid (Calls Try.prog 12 #[.slice p n c, .int .i64 m] w (BR true w)) := by rw [← hm]; exact t12k h (by omega) hL
  have T18 : Hid (Calls Try.prog 18 #[.slice p n c] w (BR false w)) := t18 h hn (by omega)
  have T22 : Hid (Calls Try.prog 22 #[.int .i64 n, .int .i64 n] w (BL w n n)) := t22 n n w (by omega) (by omega) (Nat.le_trans (Nat.mul_le_mul hn hn) (by decide))
  have HLi : ∀ i, i < n → L i = m := fun i hi => by rw [← hm]; exact of_decide_eq_true ((allN_iff n).1 hL i hi)
  have HS : Hid (TR w p n L f ∧ (∀ i, i < n → L i = m) ∧ (0 < n → 0 < m) ∧ m ≤ 100) := ⟨h, HLi, hm0, hm1⟩
  have z1 : (n : Int) ≤ 8 := by omega
  clear h hL hm hm0 hm1 HLi
  go_enter Try.func8, Try.ntmps8
  go_wp2_with (first
    | (go_at_call 21; (with_reducible refine T21.out.mono ?_); rintro e w1 ⟨rfl, hw⟩; subst w1)
    | (go_at_call 12; (with_reducible refine T12.out.mono ?_); rintro e w1 ⟨rfl, hw⟩; subst w1)
    | (go_at_call 18; (with_reducible refine T18.out.mono ?_); rintro e w1 ⟨rfl, hw⟩; subst w1)
    | (go_at_call 22; (with_reducible refine T22.out.mono ?_); rintro e w2 ⟨A, B, rfl, HB⟩))
  have HE0 : Hid (EQ w w2 A B n n (fun i => i) (matP f m 0 0)) := by rw [matP_zero]; exact HB.out.eq
  clear HB T22 T18 T12 T21
  go_loopw [5, 6, 7, 24] (fun _ _ _ vi wr => ∃ k : Nat, k ≤ n ∧ vi = .int .i64 k ∧ Hid (EQ w wr A B n n (fun i => i) (matP f m k k))) (fun _ _ _ vi _ => n - (intOf vi).toNat)
  case atStart => exact ⟨0, by omega, rfl, HE0⟩
  case round =>
    clear HE0
    obtain ⟨k, hk, rfl, HE⟩ := hrel
    rename World => wr
    by_cases hlt : k < n
    · have K : Hid (∀ W, Up w W → ∃ b0 o0, p = some ⟨b0, o0, none⟩ ∧ ∀ i, i < n → ∃ g o cq, W.cell? ⟨b0, o0 + i, none⟩ = some (.slice (some ⟨g, o, none⟩) m cq) ∧ RD W g o m (f i)) := fun W hu => by
        obtain ⟨b0, o0, e0, hr⟩ := (HS.out.1.up hu) (by omega)
        refine ⟨b0, o0, e0, fun i hi => ?_⟩
        obtain ⟨q, cq, c1, -, hrv⟩ := hr i hi
        rw [HS.out.2.1 i hi] at c1 hrv
        obtain ⟨g, o, rfl, hrd⟩ := hrv (HS.out.2.2.1 (by omega))
        exact ⟨g, o, cq, c1, hrd⟩
      obtain ⟨b0, o0, rfl, hr⟩ := K.out wr HE.out.up
      obtain ⟨g, o, cq, c1, hrd⟩ := hr k hlt
      have HRD : Hid (RD wr g o m (f k)) := hrd
      have c0 : wr.cell? ⟨A, k, none⟩ = some (.slice (some ⟨B, k * n, none⟩) n n) := HE.out.row hlt
      obtain ⟨X, hX⟩ : ∃ X, k * n = X := ⟨_, rfl⟩
      have HXX : Hid (k * n = X) := hX
      rw [hX] at c0
      have y1 : (k : Int) < (n : Int) := by omega
      have HRD0 : Hid (∀ W, Up w W → RD W g o m (f k)) := fun W hu => by
        obtain ⟨b1, o1, e1, hr1⟩ := HS.out.1 (by omega)
        simp only [Option.some.injEq, Addr.mk.injEq, and_true] at e1
        obtain ⟨rfl, rfl⟩ := e1
        obtain ⟨q1, cq1, c5, -, hrv⟩ := hr1 k hlt
        have c6 := cell_up c5 HE.out.up
        rw [c1] at c6
        simp only [Option.some.injEq, Value.slice.injEq] at c6
        rw [← c6.1, ← c6.2.1] at hrv
        obtain ⟨g3, o3, e3, hr3⟩ := hrv (HS.out.2.2.1 (by omega))
        simp only [Option.some.injEq, Addr.mk.injEq, and_true] at e3
        obtain ⟨rfl, rfl⟩ := e3
        exact hr3.up hu
      clear hr hrd hX
      go_wp2_with fail
      refine wp_region_shut 8 [(0, none), (1, none), (2, none), (3, some false), (4, none), (5, none), (6, some true), (7, none)] (fun w9 => Up wr w9) (by kernel_rfl) (by decide) rfl (by kernel_rfl) (fun _ _ d _ _ h => by cases d <;> exact h) (Up.drewN wr 1) ?_
      refine OrdS.looks (.slice (some ⟨A, 0, none⟩) n n) (some 29) _ rfl rfl (Or.inl ⟨by kernel_rfl, fun w' hS => ?_⟩) ?_
      · go_simp
      refine OrdS.looks (.int .i64 k) (some 30) _ rfl rfl (Or.inl ⟨by kernel_rfl, fun w' hS => ?_⟩) ?_
      · go_simp
      refine OrdS.looks (.pointer (some ⟨A, k, none⟩)) (some 31) _ rfl rfl (Or.inl ⟨by kernel_rfl, fun w' hS => ?_⟩) ?_
      · go_simp
      refine OrdS.reads (.slice (some ⟨B, X, none⟩) n n) (some 32) _ rfl rfl (Or.inl ⟨by kernel_rfl, fun w' hS => ?_⟩) ?_
      · have l0 := cell_up c0 hS
        go_simp
      refine OrdS.looks (.int .i64 k) (some 33) _ rfl rfl (Or.inl ⟨by kernel_rfl, fun w' hS => ?_⟩) ?_
      · go_simp
      refine OrdS.looks (.slice (some ⟨g, o, none⟩) m cq) (some 34) _ rfl rfl (Or.inl ⟨by kernel_rfl, fun w' hS => ?_⟩) ?_
      · go_simp
      simp only [Act.put, List.setIfInBounds_toArray, List.set_cons_succ, List.set_cons_zero]
      refine OrdS.does ?_
      refine wpOp_callG (f := 23) (some 35) rfl rfl (by kernel_rfl) rfl #[.slice (some ⟨g, o, none⟩) m cq] (by kernel_rfl) (eg23 _ _) ?_
      refine (t23 g o m cq (f k) _ (HRD.out.up (Up.drewN wr 1)) (by have := HS.out.2.2.2; omega)).mono ?_
      rintro e w5 ⟨pr, rfl, HP, HU5⟩
      have HU6 : Hid (Up wr w5) := (Up.drewN wr 1).trans HU5
      refine ⟨_, rfl, HU6.out, ?_⟩
      refine OrdS.looks (.complex .f64 pr 0) (some 36) _ rfl rfl (Or.inl ⟨by kernel_rfl, fun w' hS => ?_⟩) ?_
      · go_simp
      refine OrdS.ends ?_
      simp only [List.drop_succ_cons, List.drop_zero, Act.put, List.setIfInBounds_toArray, List.set_cons_succ, List.set_cons_zero]
      have HE5 : Hid (EQ w w5 A B n n (fun i => i) (matP f m k k)) := HE.out.mono HU6.out
      obtain ⟨x9, y9, c9, -, f9⟩ := HE5.out.cell (i := k) (j := k) hlt hlt
      have c9' : (w5.cell? ⟨B, X + k, none⟩).isSome = true := by rw [← HXX.out, c9]; rfl
      have f9' : w5.frozen? ⟨B, X + k, none⟩ = false := by rw [← HXX.out]; exact f9
      have HE6 : Hid (EQ w (w5.setCell ⟨B, X + k, none⟩ (.complex .f64 pr 0)) A B n n (fun i => i) (matP f m k (k + 1))) := by
        have := HE5.out.put (i := k) (j := k) hlt hlt pr 0
        rw [matP_diag (by unfold matT; rw [if_pos rfl, HP.out])] at this
        rw [← HXX.out]; exact this
      clear HE5 HE c9 f9 HU6 HU5 HRD c0
      go_wp2
      go_loopw [7] (fun vj wx => ∃ j : Nat, k < j ∧ j ≤ n ∧ vj = .int .i64 j ∧ Hid (EQ w wx A B n n (fun i => i) (matP f m k j))) (fun vj _ => n - (intOf vj).toNat)
      case atStart => exact ⟨k + 1, by omega, by omega, by go_num, HE6⟩
      case round =>
        clear HE6 c9' f9' c1
        obtain ⟨j, hkj, hj, rfl, HR⟩ := hrel
        rename World => wx
        by_cases hlt2 : j < n
        · obtain ⟨b1, o1, e1, hr⟩ := K.out wx HR.out.up
          simp only [Option.some.injEq, Addr.mk.injEq, and_true] at e1
          obtain ⟨rfl, rfl⟩ := e1
          obtain ⟨gj, oj, cj, c1, hrdj⟩ := hr j hlt2
          obtain ⟨gk, ok, ck, c2, hrdk⟩ := hr k hlt
          have HRJ : Hid (RD wx gj oj m (f j)) := hrdj
          have HRK : Hid (RD wx g o m (f k)) := HRD0.out wx HR.out.up
          have c0 : wx.cell? ⟨A, k, none⟩ = some (.slice (some ⟨B, k * n, none⟩) n n) := HR.out.row hlt
          have c3 : wx.cell? ⟨A, j, none⟩ = some (.slice (some ⟨B, j * n, none⟩) n n) := HR.out.row hlt2
          rw [HXX.out] at c0
          obtain ⟨Y, hY⟩ : ∃ Y, j * n = Y := ⟨_, rfl⟩
          have HYY : Hid (j * n = Y) := hY
          rw [hY] at c3
          have y2 : (j : Int) < (n : Int) := by omega
          clear hr hrdj hrdk c2 hY
          go_wp2_with fail
          refine wp_region_shut 11 [(0, none), (1, none), (2, none), (3, some false), (4, none), (5, none), (6, none), (7, none), (8, some false), (9, none), (10, some true)] (fun w9 => Up wx w9) (by kernel_rfl) (by decide) rfl (by kernel_rfl) (fun _ _ d _ _ h => by cases d <;> exact h) (Up.drewN wx 1) ?_
          refine OrdS.looks (.slice (some ⟨A, 0, none⟩) n n) (some 46) _ rfl rfl (Or.inl ⟨by kernel_rfl, fun w' hS => ?_⟩) ?_
          · go_simp
          refine OrdS.looks (.int .i64 k) (some 47) _ rfl rfl (Or.inl ⟨by kernel_rfl, fun w' hS => ?_⟩) ?_
          · go_simp
          refine OrdS.looks (.pointer (some ⟨A, k, none⟩)) (some 48) _ rfl rfl (Or.inl ⟨by kernel_rfl, fun w' hS => ?_⟩) ?_
          · go_simp
          refine OrdS.reads (.slice (some ⟨B, X, none⟩) n n) (some 49) _ rfl rfl (Or.inl ⟨by kernel_rfl, fun w' hS => ?_⟩) ?_
          · have l0 := cell_up c0 hS
            go_simp
          refine OrdS.looks (.int .i64 j) (some 50) _ rfl rfl (Or.inl ⟨by kernel_rfl, fun w' hS => ?_⟩) ?_
          · go_simp
          refine OrdS.looks (.slice (some ⟨b0, o0, none⟩) n c) (some 51) _ rfl rfl (Or.inl ⟨by kernel_rfl, fun w' hS => ?_⟩) ?_
          · go_simp
          refine OrdS.looks (.int .i64 j) (some 52) _ rfl rfl (Or.inl ⟨by kernel_rfl, fun w' hS => ?_⟩) ?_
          · go_simp
          refine OrdS.looks (.pointer (some ⟨b0, o0 + j, none⟩)) (some 53) _ rfl rfl (Or.inl ⟨by kernel_rfl, fun w' hS => ?_⟩) ?_
          · go_simp
          refine OrdS.reads (.slice (some ⟨gj, oj, none⟩) m cj) (some 54) _ rfl rfl (Or.inl ⟨by kernel_rfl, fun w' hS => ?_⟩) ?_
          · have l0 := cell_up c1 hS
            go_simp
          refine OrdS.looks (.slice (some ⟨g, o, none⟩) m cq) (some 55) _ rfl rfl (Or.inl ⟨by kernel_rfl, fun w' hS => ?_⟩) ?_
          · go_simp
          simp only [Act.put, List.setIfInBounds_toArray, List.set_cons_succ, List.set_cons_zero]
          refine OrdS.does ?_
          refine wpOp_callG (f := 19) (some 56) rfl rfl (by kernel_rfl) rfl #[.slice (some ⟨gj, oj, none⟩) m cj, .slice (some ⟨g, o, none⟩) m cq] (by kernel_rfl) (eg19 _ _) ?_
          refine (t19c (HRJ.out.up (Up.drewN wx 1)) (HRK.out.up (Up.drewN wx 1)) (by have := HS.out.2.2.2; omega)).mono ?_
          rintro e w5 ⟨dr, di, rfl, HDt, HU5⟩
          have HU6 : Hid (Up wx w5) := (Up.drewN wx 1).trans HU5.out
          refine ⟨_, rfl, HU6.out, ?_⟩
          refine OrdS.ends ?_
          simp only [List.drop_succ_cons, List.drop_zero, Act.put, List.setIfInBounds_toArray, List.set_cons_succ, List.set_cons_zero]
          have HE5 : Hid (EQ w w5 A B n n (fun i => i) (matP f m k j)) := HR.out.mono HU6.out
          obtain ⟨x9, y9, c9, -, f9⟩ := HE5.out.cell (i := k) (j := j) hlt hlt2
          have c9' : (w5.cell? ⟨B, X + j, none⟩).isSome = true := by rw [← HXX.out, c9]; rfl
          have f9' : w5.frozen? ⟨B, X + j, none⟩ = false := by rw [← HXX.out]; exact f9
          have HE6 : Hid (EQ w (w5.setCell ⟨B, X + j, none⟩ (.complex .f64 dr di)) A B n n (fun i => i) (upd2 (matP f m k j) k j (ab dr, ab di))) := by
            have := HE5.out.put (i := k) (j := j) hlt hlt2 dr di
            rw [← HXX.out]; exact this
          clear HE5 HR c9 f9 HU6 HU5 HRJ HRK c0 c3 c1
          go_wp2_with fail
          generalize w5.setCell ⟨B, X + j, none⟩ (.complex .f64 dr di) = w6 at *
          have d0 : w6.cell? ⟨A, k, none⟩ = some (.slice (some ⟨B, k * n, none⟩) n n) := HE6.out.row hlt
          have d1 : w6.cell? ⟨A, j, none⟩ = some (.slice (some ⟨B, j * n, none⟩) n n) := HE6.out.row hlt2
          obtain ⟨x8, y8, d2, e8, -⟩ := HE6.out.cell (i := k) (j := j) hlt hlt2
          have E8 : Hid ((ab x8, ab y8) = (ab dr, ab di)) := by show _ = _; rw [e8]; unfold upd2; rw [if_pos ⟨rfl, rfl⟩]
          have d3 : w6.cell? ⟨B, k * n + j, none⟩ = some (.complex .f64 x8 y8) := d2
          rw [HXX.out] at d0 d3
          rw [HYY.out] at d1
          clear d2 e8
          refine wp_region_shut 13 [(0, none), (1, none), (2, none), (3, some false), (4, none), (5, none), (6, none), (7, none), (8, some false), (9, none), (10, none), (11, some false), (12, some true)] (fun w9 => Up w6 w9) (by kernel_rfl) (by decide) rfl (by kernel_rfl) (fun _ _ d _ _ h => by cases d <;> exact h) (Up.drewN w6 1) ?_
          refine OrdS.looks (.slice (some ⟨A, 0, none⟩) n n) (some 58) _ rfl rfl (Or.inl ⟨by kernel_rfl, fun w' hS => ?_⟩) ?_
          · go_simp
          refine OrdS.looks (.int .i64 j) (some 59) _ rfl rfl (Or.inl ⟨by kernel_rfl, fun w' hS => ?_⟩) ?_
          · go_simp
          refine OrdS.looks (.pointer (some ⟨A, j, none⟩)) (some 60) _ rfl rfl (Or.inl ⟨by kernel_rfl, fun w' hS => ?_⟩) ?_
          · go_simp
          refine OrdS.reads (.slice (some ⟨B, Y, none⟩) n n) (some 61) _ rfl rfl (Or.inl ⟨by kernel_rfl, fun w' hS => ?_⟩) ?_
          · have l0 := cell_up d1 hS
            go_simp
          refine OrdS.looks (.int .i64 k) (some 62) _ rfl rfl (Or.inl ⟨by kernel_rfl, fun w' hS => ?_⟩) ?_
          · go_simp
          refine OrdS.looks (.slice (some ⟨A, 0, none⟩) n n) (some 63) _ rfl rfl (Or.inl ⟨by kernel_rfl, fun w' hS => ?_⟩) ?_
          · go_simp
          refine OrdS.looks (.int .i64 k) (some 64) _ rfl rfl (Or.inl ⟨by kernel_rfl, fun w' hS => ?_⟩) ?_
          · go_simp
          refine OrdS.looks (.pointer (some ⟨A, k, none⟩)) (some 65) _ rfl rfl (Or.inl ⟨by kernel_rfl, fun w' hS => ?_⟩) ?_
          · go_simp
          refine OrdS.reads (.slice (some ⟨B, X, none⟩) n n) (some 66) _ rfl rfl (Or.inl ⟨by kernel_rfl, fun w' hS => ?_⟩) ?_
          · have l0 := cell_up d0 hS
            go_simp
          refine OrdS.looks (.int .i64 j) (some 67) _ rfl rfl (Or.inl ⟨by kernel_rfl, fun w' hS => ?_⟩) ?_
          · go_simp
          refine OrdS.looks (.pointer (some ⟨B, X + j, none⟩)) (some 68) _ rfl rfl (Or.inl ⟨by kernel_rfl, fun w' hS => ?_⟩) ?_
          · go_simp
          refine OrdS.reads (.complex .f64 x8 y8) (some 69) _ rfl rfl (Or.inl ⟨by kernel_rfl, fun w' hS => ?_⟩) ?_
          · have l0 := cell_up d3 hS
            go_simp
          simp only [Act.put, List.setIfInBounds_toArray, List.set_cons_succ, List.set_cons_zero]
          refine OrdS.does ?_
          refine wpOp_callG (f := 24) (some 70) rfl rfl (by kernel_rfl) rfl #[.complex .f64 x8 y8] (by kernel_rfl) (eg24 _ _) ?_
          refine (t24 x8 y8 _).mono ?_
          rintro e w7 ⟨rfl, rfl⟩
          refine ⟨_, rfl, Up.drewN w6 1, ?_⟩
          refine OrdS.ends ?_
          simp only [List.drop_succ_cons, List.drop_zero, Act.put, List.setIfInBounds_toArray, List.set_cons_succ, List.set_cons_zero]
          have HE7 : Hid (EQ w w6.drew A B n n (fun i => i) (upd2 (matP f m k j) k j (ab dr, ab di))) := HE6.out.mono (Up.drewN w6 1)
          generalize w6.drew = w7 at *
          obtain ⟨x7, y7, c7, -, f7⟩ := HE7.out.cell (i := j) (j := k) hlt2 hlt
          have c7' : (w7.cell? ⟨B, Y + k, none⟩).isSome = true := by rw [← HYY.out, c7]; rfl
          have f7' : w7.frozen? ⟨B, Y + k, none⟩ = false := by rw [← HYY.out]; exact f7
          have HE8 : Hid (EQ w (w7.setCell ⟨B, Y + k, none⟩ (.complex .f64 x8 (neg y8))) A B n n (fun i => i) (matP f m k (j + 1))) := by
            have := HE7.out.put (i := j) (j := k) hlt2 hlt x8 (neg y8)
            rw [matP_up hkj (by rw [HDt.out]; unfold matT; rw [if_neg (by omega), if_pos hkj]) (by
              have e := E8.out
              simp only [Prod.mk.injEq] at e
              unfold matT
              rw [if_neg (by omega), if_neg (by omega), ab_neg, e.1, e.2, ← HDt.out]; rfl)] at this
            rw [← HYY.out]; exact this
          clear HE6 HE7 c7 f7 d0 d1 d3 c9' f9'
          go_wp2
          go_roundw
          case rel => exact ⟨j + 1, by omega, by omega, by go_num, HE8⟩
          case measure => simp [intOf]; omega
        · obtain rfl : j = n := by omega
          go_wp2
          go_roundw
          case rel => exact ⟨k + 1, by omega, by go_num, HR.out.ext fun a b ha hb => by unfold matP; by_cases e : min a b < k ∨ (min a b = k ∧ max a b < j); (rw [if_pos e, if_pos (by omega)]); (rw [if_neg e, if_neg (by omega)])⟩
          case measure => simp [intOf]; omega
    · obtain rfl : k = n := by omega
      go_wp2
      go_ret2
      exact ⟨A, B, rfl, HE.out.ext fun a b ha hb => by unfold matP; rw [if_pos (by omega)]⟩
end Go.Proofs.Ythpoipajfkfdeab
