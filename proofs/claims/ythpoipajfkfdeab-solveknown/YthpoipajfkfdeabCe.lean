/- Column by column: eliminate. -/
import Derived.Test.YthpoipajfkfdeabCd
import Derived.Deep.CutRange
namespace Go.Proofs.Ythpoipajfkfdeab
open Go.ChangeShapes Go.WideShapes Go.ChangeAt Go.RowKit Go.Fl Ieee
attribute [local go_sem] run_store_float run_store_c call43 call17 run_neg fold_eq fold_ne fold_lt fold_gt abs_eq

def swapT (T : Nat → Nat → CN) (a b : Nat) : Nat → Nat → CN := fun i j => if i = a then T b j else if i = b then T a j else T i j
theorem swapT_self (T : Nat → Nat → CN) (a : Nat) : swapT T a a = T := by
  funext i j
  unfold swapT
  by_cases e : i = a
  · subst e; rw [if_pos rfl]
  · rw [if_neg e, if_neg e]
def swapN (σ : Nat → Nat) (a b : Nat) : Nat → Nat := fun i => if i = a then σ b else if i = b then σ a else σ i
theorem EQ.swap {w0 w : World} {A B n m : Nat} {σ : Nat → Nat} {T : Nat → Nat → CN} (h : EQ w0 w A B n m σ T) {a b : Nat} (ha : a < n) (hb : b < n) (hab : a ≠ b) :
    EQ w0 ((w.setCell ⟨A, a, none⟩ (.slice (some ⟨B, σ b * m, none⟩) m m)).setCell ⟨A, b, none⟩ (.slice (some ⟨B, σ a * m, none⟩) m m)) A B n m (swapN σ a b) (swapT T a b) := by
  obtain ⟨l, hl, h1, h2⟩ := h.ans
  obtain ⟨d, hd, h3⟩ := h.all
  obtain ⟨s1, s2⟩ := World.ownsRow.stored h1 a (.slice (some ⟨B, σ b * m, none⟩) m m)
  obtain ⟨s3, s4⟩ := World.ownsRow.stored s1 b (.slice (some ⟨B, σ a * m, none⟩) m m)
  have hB : But A w _ := But.trans s2 s4
  refine ⟨h.ne, h.loA, h.loB, ⟨_, by simpa using hl, s3, fun i hi => ?_⟩, ⟨d, hd.far hB (Ne.symm h.ne), fun i j hi hj => ?_⟩, fun i j hi hj e => ?_, fun i hi => ?_, hB.up h.up h.loA⟩
  · unfold swapN
    rw [List.getElem?_set]
    by_cases e : b = i
    · subst e
      rw [if_pos rfl, if_pos (by simpa [hl] using hb), if_neg (Ne.symm hab), if_pos rfl]
    · rw [if_neg e, List.getElem?_set]
      by_cases e2 : a = i
      · subst e2
        rw [if_pos rfl, if_pos (by omega), if_pos rfl]
      · rw [if_neg e2, if_neg (Ne.symm e2), if_neg (Ne.symm e)]; exact h2 i hi
  · unfold swapN swapT
    by_cases e : i = a
    · rw [if_pos e, if_pos e]; exact h3 b j hb hj
    · rw [if_neg e, if_neg e]
      by_cases e2 : i = b
      · rw [if_pos e2, if_pos e2]; exact h3 a j ha hj
      · rw [if_neg e2, if_neg e2]; exact h3 i j hi hj
  · unfold swapN at e
    by_cases i1 : i = a <;> by_cases j1 : j = a <;> by_cases i2 : i = b <;> by_cases j2 : j = b <;> simp only [i1, j1, i2, j2, if_true, if_false] at e <;> first
      | omega
      | (have q1 := h.inj _ _ ha hb e; omega)
      | (have q1 := h.inj _ _ hb ha e; omega)
      | (have q1 := h.inj _ _ hi ha e; omega)
      | (have q1 := h.inj _ _ hi hb e; omega)
      | (have q1 := h.inj _ _ ha hj e; omega)
      | (have q1 := h.inj _ _ hb hj e; omega)
      | (have q1 := h.inj _ _ hi hj e; omega)
      | (rw [if_neg (Ne.symm hab)] at e; have q1 := h.inj _ _ ha hb e; omega)
      | (rw [if_neg (Ne.symm hab)] at e; have q1 := h.inj _ _ hb ha e; omega)
      | (rw [if_neg (Ne.symm hab)] at e; have q1 := h.inj _ _ hi ha e; omega)
      | (rw [if_neg (Ne.symm hab)] at e; have q1 := h.inj _ _ ha hj e; omega)
  · unfold swapN
    by_cases e : i = a
    · rw [if_pos e]; exact h.lt b hb
    · rw [if_neg e]
      by_cases e2 : i = b
      · rw [if_pos e2]; exact h.lt a ha
      · rw [if_neg e2]; exact h.lt i hi
theorem EQ.rowF2 {w0 w : World} {A B n m : Nat} {σ : Nat → Nat} {T : Nat → Nat → CN} (h : EQ w0 w A B n m σ T) (a b : Nat) (v : Value) : (w.setCell ⟨A, a, none⟩ v).frozen? ⟨A, b, none⟩ = false := by
  obtain ⟨l, hl, h1, h2⟩ := h.ans
  exact World.ownsRow.frozenAt (World.ownsRow.stored h1 a v).1 b
/-- The row k is taken from the t rows below it. -/
def rowsT (T : Nat → Nat → CN) (m k : Nat) : Nat → (Nat → Nat → CN)
  | 0 => T
  | t + 1 => takeT (rowsT T m k t) m (k + 1 + t) k
def pvN (T : Nat → Nat → CN) (n k : Nat) : Nat := k + (pvI T k (n - k)).toNat
def okB (T : Nat → Nat → CN) (n k : Nat) : Bool := gtF (sqC (T (pvN T n k) k)) (ab 0)
def colT (T : Nat → Nat → CN) (n m k : Nat) : Nat → Nat → CN := rowsT (swapT T k (pvN T n k)) m k (n - (k + 1))
def elT (T : Nat → Nat → CN) (n m : Nat) : Nat → (Nat → Nat → CN)
  | 0 => T
  | k + 1 => colT (elT T n m k) n m k
def solB (T : Nat → Nat → CN) (n m : Nat) : Bool := allN (fun k => okB (elT T n m k) n k) n
/-- What eliminate leaves. -/
def ElR (w0 : World) (A B n m : Nat) (T : Nat → Nat → CN) (e : Ending) (w' : World) : Prop := e = .returned (.bool (solB T n m)) ∧ Hid (∃ σ T', EQ w0 w' A B n m σ T' ∧ (solB T n m = true → T' = elT T n m n))
theorem pvN_lt {T : Nat → Nat → CN} {n k : Nat} (h : k < n) : k ≤ pvN T n k ∧ pvN T n k < n := by
  have := pk_range (fun i => sqC (T (k + i) k)) (n - k) (by omega)
  unfold pvN pvI
  omega
set_option maxHeartbeats 8000000 in
set_option maxRecDepth 20000 in
theorem t15 {w0 w : World} {A B n m : Nat} {σ : Nat → Nat} {T : Nat → Nat → CN} (h : EQ w0 w A B n m σ T) (hnm : n ≤ m) (hm : m ≤ 100000) : Calls Try.prog 15 #[.slice (some ⟨A, 0, none⟩) n n] w (ElR w0 A B n m T) := by
  have HE : Hid (EQ w0 w A B n m σ T) := h
  have HI : Hid (n ≤ m ∧ m ≤ 100000) := ⟨hnm, hm⟩
  have z1 : (n : Int) ≤ 100000 := by omega
  clear h hnm hm
  go_enter Try.func15, Try.ntmps15
  go_wp2_with fail
  go_step3
  go_wp2_with fail
  go_step3
  go_wp2_with fail
  go_loopw [3, 4, 5, 7, 10, 16, 27] (fun vs _ _ _ vi _ _ wr => ∃ (k : Nat) (σ : Nat → Nat), k ≤ n ∧ vs = .bool true ∧ vi = .int .i64 k ∧ Hid (EQ w0 wr A B n m σ (elT T n m k)) ∧ Hid (allN (fun k => okB (elT T n m k) n k) k = true)) (fun _ _ _ _ vi _ _ _ => n - (intOf vi).toNat)
  case atStart => exact ⟨0, σ, by omega, rfl, rfl, HE, rfl⟩
  case round =>
    clear HE
    obtain ⟨k, σ1, hk, rfl, rfl, HE, HA⟩ := hrel
    rename World => wr
    by_cases hlt : k < n
    · obtain ⟨T1, hT1⟩ : ∃ T1, elT T n m k = T1 := ⟨_, rfl⟩
      have HT1 : Hid (elT T n m k = T1) := hT1
      rw [hT1] at HE
      clear hT1
      obtain ⟨q, hq⟩ : ∃ q, pvN T1 n k = q := ⟨_, rfl⟩
      have hq2 := pvN_lt (T := T1) hlt
      rw [hq] at hq2
      have HQ : Hid (pvN T1 n k = q) := hq
      have T27 : Hid (Calls Try.prog 27 #[.slice (some ⟨A, 0, none⟩) n n, .int .i64 k] wr fun e w' => e = .returned (.int .i64 (q : Int)) ∧ Hid (Up wr w')) := (t27 HE.out (r := n - k) (by omega) (by omega) (by have := HI.out; omega) (by omega) HI.out.2).mono fun e w' ⟨h1, h2⟩ => ⟨by
        rw [h1, ← hq]
        have := pk_range (fun i => sqC (T1 (k + i) k)) (n - k) (by omega)
        unfold pvN pvI
        congr 2
        omega, h2⟩
      obtain ⟨q1, q2⟩ := hq2
      have y1 : (k : Int) < (n : Int) := by omega
      have y2 : (q : Int) < (n : Int) := by omega
      have y3 : (k : Int) < (m : Int) := by have := HI.out; omega
      have HB : Hid (True ∧ k ≤ q ∧ q < n ∧ k < m) := ⟨trivial, q1, q2, by have := HI.out; omega⟩
      have K1 : Hid (∀ W, Up wr W → ∃ X x y, W.cell? ⟨A, q, none⟩ = some (.slice (some ⟨B, X, none⟩) m m) ∧ W.cell? ⟨B, X + k, none⟩ = some (.complex .f64 x y) ∧ sqC (T1 q k) = abs2F (ab x) (ab y)) := fun W hu => by
        have HE' := HE.out.mono hu
        obtain ⟨x, y, c1, e1, -⟩ := HE'.cell (i := q) (j := k) HB.out.2.2.1 HB.out.2.2.2
        exact ⟨_, x, y, HE'.row HB.out.2.2.1, c1, by rw [← e1]; rfl⟩
      clear hq
      go_upto_region 6 with (go_at_call 27; (with_reducible refine T27.out.mono ?_); rintro e w2 ⟨rfl, U2⟩)
      obtain ⟨X, x, y, c0, c1, hsq⟩ := K1.out w2 U2.out
      have HSQ : Hid (sqC (T1 q k) = abs2F (ab x) (ab y)) := hsq
      have HE2 : Hid (EQ w0 w2 A B n m σ1 T1) := HE.out.mono U2.out
      clear hsq K1 HE T27 U2
      cases hg : gtF (abs2F (ab x) (ab y)) (ab 0) with
      | false =>
        have HG : Hid (gtF (abs2F (ab x) (ab y)) (ab 0) = false) := hg
        clear hg
        have T28 : Hid (Calls Try.prog 28 #[.complex .f64 x y] w2 fun e w' => ∃ r j, e = .returned (.float .f64 r) ∧ w' = w2.drewN j ∧ gtF (ab r) (ab 0) = false) := (t28 x y w2).mono fun e w' ⟨r, j, h1, h2, h3⟩ => ⟨r, j, h1, h2, by rw [h3.out]; exact HG.out⟩
        go_wp2_with (go_at_call 28; (with_reducible refine T28.out.mono ?_); rintro e w3 ⟨r, j, rfl, rfl, hgr⟩)
        rw [Exit.noGoto_ret]
        go_ret
        have hs : solB T n m = false := allN_false (F := fun k => okB (elT T n m k) n k) (i := k) (by show okB (elT T n m k) n k = false; unfold okB; rw [HT1.out, HQ.out, HSQ.out]; exact HG.out) n hlt
        exact ⟨by rw [hs]; rfl, σ1, T1, HE2.out.mono (Up.drewN _ _), fun e => by rw [hs] at e; cases e⟩
      | true =>
        have HG : Hid (gtF (abs2F (ab x) (ab y)) (ab 0) = true) := hg
        clear hg
        have T28 : Hid (Calls Try.prog 28 #[.complex .f64 x y] w2 fun e w' => ∃ r j, e = .returned (.float .f64 r) ∧ w' = w2.drewN j ∧ gtF (ab r) (ab 0) = true) := (t28 x y w2).mono fun e w' ⟨r, j, h1, h2, h3⟩ => ⟨r, j, h1, h2, by rw [h3.out]; exact HG.out⟩
        have HA2 : Hid (allN (fun k => okB (elT T n m k) n k) (k + 1) = true) := by
          show (_ && okB (elT T n m k) n k) = true
          rw [HA.out]; unfold okB; rw [HT1.out, HQ.out, HSQ.out]; exact HG.out
        clear HA HG
        obtain ⟨t0, ht0⟩ : ∃ t0, n - (k + 1) = t0 := ⟨_, rfl⟩
        have u0 : (n : Int) - ((k : Int) + 1) = t0 := by omega
        have u1 : (k : Int) + 1 ≤ (n : Int) := by omega
        have HS : Hid (elT T n m (k + 1) = rowsT (swapT T1 k q) m k t0) := by
          show colT (elT T n m k) n m k = _
          unfold colT; rw [HT1.out, HQ.out, ht0]
        by_cases hqk : q = k
        · subst hqk
          go_upto_region 10 with (go_at_call 28; (with_reducible refine T28.out.mono ?_); rintro e w3 ⟨r, j, rfl, rfl, hgr⟩)
          have HE3 : Hid (EQ w0 (w2.drewN j) A B n m σ1 (swapT T1 q q)) := by rw [swapT_self]; exact HE2.out.mono (Up.drewN _ _)
          generalize w2.drewN j = w4 at *
          clear HE2 T28
          generalize swapT T1 q q = S at *
          clear HT1 HQ HSQ c0 c1 y2
          rcases Nat.eq_zero_or_pos t0 with ht | ht
          · subst ht
            have u5 : n = q + 1 := by omega
            have u6 : (n : Int) = (q : Int) + 1 := by omega
            clear ht0 u0 u1
            go_wp2
            go_loopw [7, 50] (fun _ vi wx => vi = .int .i64 0 ∧ Hid (EQ w0 wx A B n m σ1 S)) (fun _ vi _ => 0)
            case atStart => exact ⟨rfl, HE3⟩
            case round =>
              clear HE3
              obtain ⟨rfl, HR⟩ := hrel
              rename World => wx
              go_wp2
              go_roundw
              case rel => exact ⟨q + 1, σ1, by omega, rfl, by go_num, by rw [HS.out]; exact HR, HA2⟩
              case measure => simp [intOf]; omega
          · have u3 : ¬ n = q + 1 := by omega
            have u4 : ¬ n - (q + 1) = 0 := by omega
            have u5 : n - (q + 1) = t0 := ht0
            clear ht0
            go_wp2
            go_loopw [7, 50] (fun _ vi wx => ∃ t : Nat, t ≤ t0 ∧ vi = .int .i64 t ∧ Hid (EQ w0 wx A B n m σ1 (rowsT S m q t))) (fun _ vi _ => t0 - (intOf vi).toNat)
            case atStart => exact ⟨0, by omega, rfl, HE3⟩
            case round =>
              clear HE3
              obtain ⟨t, htt, rfl, HR⟩ := hrel
              rename World => wx
              by_cases htl : t < t0
              · have v1 : (t : Int) < (t0 : Int) := by omega
                have e0 := HR.out.row (i := q + 1 + t) (by omega)
                have e1 := HR.out.row (i := q) hlt
                have T29 : Hid (Calls Try.prog 29 #[.slice (some ⟨B, σ1 (q + 1 + t) * m, none⟩) m m, .slice (some ⟨B, σ1 q * m, none⟩) m m, .int .i64 q] wx fun e w' => e = .returned (.tuple #[]) ∧ Hid (EQ w0 w' A B n m σ1 (takeT (rowsT S m q t) m (q + 1 + t) q))) := t29 HR.out (by omega) hlt (by omega) HB.out.2.2.2 HI.out.2
                obtain ⟨X1, hX1⟩ : ∃ X, σ1 (q + 1 + t) * m = X := ⟨_, rfl⟩
                obtain ⟨X2, hX2⟩ : ∃ X, σ1 q * m = X := ⟨_, rfl⟩
                rw [hX1] at e0 T29
                rw [hX2] at e1 T29
                clear hX1 hX2
                go_wp2_with (go_at_call 29; (with_reducible refine T29.out.mono ?_); rintro e w6 ⟨rfl, HR6⟩)
                go_roundw
                case rel => exact ⟨t + 1, by omega, by go_num, HR6⟩
                case measure => simp [intOf]; omega
              · obtain rfl : t = t0 := by omega
                go_wp2
                go_roundw
                case rel => exact ⟨q + 1, σ1, by omega, rfl, by go_num, by rw [HS.out]; exact HR, HA2⟩
                case measure => simp [intOf]; omega
        · have hne : k < q := by omega
          have u2 : (k : Int) < (q : Int) := by omega
          go_upto_region 9 with (go_at_call 28; (with_reducible refine T28.out.mono ?_); rintro e w3 ⟨r, j, rfl, rfl, hgr⟩)
          have HE3 : Hid (EQ w0 (w2.drewN j) A B n m σ1 T1) := HE2.out.mono (Up.drewN _ _)
          generalize w2.drewN j = w4 at *
          have d0 := HE3.out.row (i := k) hlt
          have d1 := HE3.out.row (i := q) q2
          obtain ⟨Xk, hXk⟩ : ∃ X, σ1 k * m = X := ⟨_, rfl⟩
          obtain ⟨Xq, hXq⟩ : ∃ X, σ1 q * m = X := ⟨_, rfl⟩
          have HX : Hid (σ1 k * m = Xk ∧ σ1 q * m = Xq) := ⟨hXk, hXq⟩
          rw [hXk] at d0
          rw [hXq] at d1
          clear hXk hXq T28 HE2
          refine wp_region_shut 13 [(0, none), (1, none), (2, none), (3, none), (4, none), (5, none), (6, none), (7, some false), (8, none), (9, none), (10, none), (11, some false), (12, none)] (fun w9 => Up w4 w9) (by kernel_rfl) (by decide) rfl (by kernel_rfl) (fun _ _ d _ _ h => by cases d <;> exact h) (Up.drewN w4 1) ?_
          refine OrdS.looks (.slice (some ⟨A, 0, none⟩) n n) (some 31) _ rfl rfl (Or.inl ⟨by kernel_rfl, fun w' hS => ?_⟩) ?_
          · go_simp
          refine OrdS.looks (.int .i64 k) (some 32) _ rfl rfl (Or.inl ⟨by kernel_rfl, fun w' hS => ?_⟩) ?_
          · go_simp
          refine OrdS.looks (.slice (some ⟨A, 0, none⟩) n n) (some 33) _ rfl rfl (Or.inl ⟨by kernel_rfl, fun w' hS => ?_⟩) ?_
          · go_simp
          refine OrdS.looks (.int .i64 q) (some 34) _ rfl rfl (Or.inl ⟨by kernel_rfl, fun w' hS => ?_⟩) ?_
          · go_simp
          refine OrdS.looks (.slice (some ⟨A, 0, none⟩) n n) (some 35) _ rfl rfl (Or.inl ⟨by kernel_rfl, fun w' hS => ?_⟩) ?_
          · go_simp
          refine OrdS.looks (.int .i64 q) (some 36) _ rfl rfl (Or.inl ⟨by kernel_rfl, fun w' hS => ?_⟩) ?_
          · go_simp
          refine OrdS.looks (.pointer (some ⟨A, q, none⟩)) (some 37) _ rfl rfl (Or.inl ⟨by kernel_rfl, fun w' hS => ?_⟩) ?_
          · go_simp
          refine OrdS.reads (.slice (some ⟨B, Xq, none⟩) m m) (some 38) _ rfl rfl (Or.inl ⟨by kernel_rfl, fun w' hS => ?_⟩) ?_
          · have l0 := cell_up d1 hS
            go_simp
          refine OrdS.looks (.slice (some ⟨A, 0, none⟩) n n) (some 39) _ rfl rfl (Or.inl ⟨by kernel_rfl, fun w' hS => ?_⟩) ?_
          · go_simp
          refine OrdS.looks (.int .i64 k) (some 40) _ rfl rfl (Or.inl ⟨by kernel_rfl, fun w' hS => ?_⟩) ?_
          · go_simp
          refine OrdS.looks (.pointer (some ⟨A, k, none⟩)) (some 41) _ rfl rfl (Or.inl ⟨by kernel_rfl, fun w' hS => ?_⟩) ?_
          · go_simp
          refine OrdS.reads (.slice (some ⟨B, Xk, none⟩) m m) (some 42) _ rfl rfl (Or.inl ⟨by kernel_rfl, fun w' hS => ?_⟩) ?_
          · have l0 := cell_up d0 hS
            go_simp
          refine OrdS.looks (.pointer (some ⟨A, k, none⟩)) (some 43) _ rfl rfl (Or.inl ⟨by kernel_rfl, fun w' hS => ?_⟩) ?_
          · go_simp
          refine OrdS.ends ?_
          simp only [List.drop_succ_cons, List.drop_zero, Act.put, List.setIfInBounds_toArray, List.set_cons_succ, List.set_cons_zero]
          have g0 : w4.drew.cell? ⟨A, k, none⟩ = some (.slice (some ⟨B, Xk, none⟩) m m) := cell_up d0 (Up.drewN w4 1)
          have g1 : w4.drew.cell? ⟨A, q, none⟩ = some (.slice (some ⟨B, Xq, none⟩) m m) := cell_up d1 (Up.drewN w4 1)
          have HE5 : Hid (EQ w0 w4.drew A B n m σ1 T1) := HE3.out.mono (Up.drewN _ 1)
          generalize w4.drew = w5 at *
          have f0 := HE5.out.rowF k
          have f2 := HE5.out.rowF2 k q (.slice (some ⟨B, Xq, none⟩) m m)
          have f1 := HE5.out.rowF q
          have HE6 : Hid (EQ w0 ((w5.setCell ⟨A, k, none⟩ (.slice (some ⟨B, Xq, none⟩) m m)).setCell ⟨A, q, none⟩ (.slice (some ⟨B, Xk, none⟩) m m)) A B n m (swapN σ1 k q) (swapT T1 k q)) := by
            have := HE5.out.swap hlt q2 (Nat.ne_of_lt hne)
            rw [HX.out.1, HX.out.2] at this
            exact this
          have g2 : (w5.setCell ⟨A, k, none⟩ (.slice (some ⟨B, Xq, none⟩) m m)).cell? ⟨A, q, none⟩ = some (.slice (some ⟨B, Xq, none⟩) m m) := by
            rw [World.cell?_setCell_other _ _ _ _ (by simp only [ne_eq, Addr.mk.injEq, not_and]; omega)]; exact g1
          obtain ⟨W6, hW⟩ : ∃ W, (w5.setCell ⟨A, k, none⟩ (.slice (some ⟨B, Xq, none⟩) m m)).setCell ⟨A, q, none⟩ (.slice (some ⟨B, Xk, none⟩) m m) = W := ⟨_, rfl⟩
          rw [hW] at HE6
          have HW : Hid ((w5.setCell ⟨A, k, none⟩ (.slice (some ⟨B, Xq, none⟩) m m)).setCell ⟨A, q, none⟩ (.slice (some ⟨B, Xk, none⟩) m m) = W6) := hW
          clear hW
          generalize swapN σ1 k q = σ2 at *
          generalize swapT T1 k q = S at *
          clear HT1 HQ HSQ c0 c1 HE3 HE5 d0 d1
          rcases Nat.eq_zero_or_pos t0 with ht | ht
          · omega
          · have u3 : ¬ n = k + 1 := by omega
            have u4 : ¬ n - (k + 1) = 0 := by omega
            have u5 : n - (k + 1) = t0 := ht0
            clear ht0
            go_wp2
            rw [HW.out]
            clear HW g0 g1 g2 f0 f1 f2
            go_loopw [7, 50] (fun _ vi wx => ∃ t : Nat, t ≤ t0 ∧ vi = .int .i64 t ∧ Hid (EQ w0 wx A B n m σ2 (rowsT S m k t))) (fun _ vi _ => t0 - (intOf vi).toNat)
            case atStart => exact ⟨0, by omega, rfl, HE6⟩
            case round =>
              clear HE6
              obtain ⟨t, htt, rfl, HR⟩ := hrel
              rename World => wx
              by_cases htl : t < t0
              · have v1 : (t : Int) < (t0 : Int) := by omega
                have e0 := HR.out.row (i := k + 1 + t) (by omega)
                have e1 := HR.out.row (i := k) hlt
                have T29 : Hid (Calls Try.prog 29 #[.slice (some ⟨B, σ2 (k + 1 + t) * m, none⟩) m m, .slice (some ⟨B, σ2 k * m, none⟩) m m, .int .i64 k] wx fun e w' => e = .returned (.tuple #[]) ∧ Hid (EQ w0 w' A B n m σ2 (takeT (rowsT S m k t) m (k + 1 + t) k))) := t29 HR.out (by omega) hlt (by omega) HB.out.2.2.2 HI.out.2
                obtain ⟨X1, hX1⟩ : ∃ X, σ2 (k + 1 + t) * m = X := ⟨_, rfl⟩
                obtain ⟨X2, hX2⟩ : ∃ X, σ2 k * m = X := ⟨_, rfl⟩
                rw [hX1] at e0 T29
                rw [hX2] at e1 T29
                clear hX1 hX2
                go_wp2_with (go_at_call 29; (with_reducible refine T29.out.mono ?_); rintro e w6 ⟨rfl, HR6⟩)
                go_roundw
                case rel => exact ⟨t + 1, by omega, by go_num, HR6⟩
                case measure => simp [intOf]; omega
              · obtain rfl : t = t0 := by omega
                go_wp2
                go_roundw
                case rel => exact ⟨k + 1, σ2, by omega, rfl, by go_num, by rw [HS.out]; exact HR, HA2⟩
                case measure => simp [intOf]; omega
    · obtain rfl : k = n := by omega
      go_wp2_with fail
      rw [Exit.noGoto_ret]
      go_ret
      exact ⟨by rw [show solB T k m = true from HA.out]; rfl, σ1, _, HE.out, fun _ => rfl⟩
end Go.Proofs.Ythpoipajfkfdeab
