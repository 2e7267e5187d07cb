/- Equations at work: rows that change places; takeOut. -/
import Derived.Test.YthpoipajfkfdeabRz
namespace Go.Proofs.Ythpoipajfkfdeab
open Go.ChangeShapes Go.WideShapes Go.ChangeAt Go.RowKit Go.Fl Ieee
attribute [local go_sem] run_store_float run_store_c call43 call17 run_neg fold_eq fold_ne fold_lt fold_gt abs_eq

theorem idx_lt' {i j n m : Nat} (hi : i < n) (hj : j < m) : i * m + j < n * m := by
  have : (i + 1) * m ≤ n * m := Nat.mul_le_mul_right _ hi
  rw [Nat.add_mul] at this
  omega
theorem idx_inj' {i j i' j' m : Nat} (hj : j < m) (hj' : j' < m) (h : i * m + j = i' * m + j') : i = i' ∧ j = j' := by
  have e1 : (i * m + j) / m = i := by rw [Nat.mul_comm, Nat.mul_add_div (by omega), Nat.div_eq_of_lt hj]; omega
  have e2 : (i' * m + j') / m = i' := by rw [Nat.mul_comm, Nat.mul_add_div (by omega), Nat.div_eq_of_lt hj']; omega
  have e : i = i' := by rw [← e1, ← e2, h]
  subst e
  exact ⟨rfl, by omega⟩
def upd2 (T : Nat → Nat → CN) (i j : Nat) (v : CN) : Nat → Nat → CN := fun a b => if a = i ∧ b = j then v else T a b
/-- A table of one's own whose rows may have changed places: their values at A, all numbers at B; T: the numbers as they stand row by row. -/
structure EQ (w0 wr : World) (A B n m : Nat) (σ : Nat → Nat) (T : Nat → Nat → CN) : Prop where
  ne : A ≠ B
  loA : w0.heap.size ≤ A
  loB : w0.heap.size ≤ B
  ans : ∃ l, l.length = n ∧ wr.ownsRow w0.heap.size 22 1 (.slice (some ⟨A, 0, none⟩) n n) n l ∧ ∀ i, i < n → l[i]? = some (.slice (some ⟨B, σ i * m, none⟩) m m)
  all : ∃ d, CRow w0.heap.size wr (.slice (some ⟨B, 0, none⟩) (n * m) (n * m)) d ∧ ∀ i j, i < n → j < m → ab2 d[σ i * m + j]! = T i j
  inj : ∀ i j, i < n → j < n → σ i = σ j → i = j
  lt : ∀ i, i < n → σ i < n
  up : Up w0 wr
theorem EQ.mono {w0 w w' : World} {A B n m : Nat} {σ : Nat → Nat} {T : Nat → Nat → CN} (h : EQ w0 w A B n m σ T) (hu : Up w w') : EQ w0 w' A B n m σ T := by
  obtain ⟨l, hl, h1, h2⟩ := h.ans
  obtain ⟨d, hd, h3⟩ := h.all
  exact ⟨h.ne, h.loA, h.loB, ⟨l, hl, owns_up h1 hu, h2⟩, ⟨d, hd.up hu, h3⟩, h.inj, h.lt, h.up.trans hu⟩
theorem EQ.row {w0 w : World} {A B n m : Nat} {σ : Nat → Nat} {T : Nat → Nat → CN} (h : EQ w0 w A B n m σ T) {i : Nat} (hi : i < n) : w.cell? ⟨A, i, none⟩ = some (.slice (some ⟨B, σ i * m, none⟩) m m) := by
  obtain ⟨l, hl, h1, h2⟩ := h.ans
  rw [World.ownsRow.cellAt h1 i (by omega)]; exact h2 i hi
theorem EQ.rowF {w0 w : World} {A B n m : Nat} {σ : Nat → Nat} {T : Nat → Nat → CN} (h : EQ w0 w A B n m σ T) (i : Nat) : w.frozen? ⟨A, i, none⟩ = false := by
  obtain ⟨l, hl, h1, h2⟩ := h.ans
  exact World.ownsRow.frozenAt h1 i
theorem EQ.cell {w0 w : World} {A B n m : Nat} {σ : Nat → Nat} {T : Nat → Nat → CN} (h : EQ w0 w A B n m σ T) {i j : Nat} (hi : i < n) (hj : j < m) : ∃ x y, w.cell? ⟨B, σ i * m + j, none⟩ = some (.complex .f64 x y) ∧ (ab x, ab y) = T i j ∧ w.frozen? ⟨B, σ i * m + j, none⟩ = false := by
  obtain ⟨d, hd, h3⟩ := h.all
  have hl := hd.len
  have hlt := idx_lt' (h.lt i hi) hj
  refine ⟨_, _, hd.cell (by omega), h3 i j hi hj, hd.frz _⟩
theorem EQ.put {w0 w : World} {A B n m : Nat} {σ : Nat → Nat} {T : Nat → Nat → CN} (h : EQ w0 w A B n m σ T) {i j : Nat} (hi : i < n) (hj : j < m) (r s : Nat) : EQ w0 (w.setCell ⟨B, σ i * m + j, none⟩ (.complex .f64 r s)) A B n m σ (upd2 T i j (ab r, ab s)) := by
  obtain ⟨l, hl, h1, h2⟩ := h.ans
  obtain ⟨d, hd, h3⟩ := h.all
  have hdl := hd.len
  have hlt := idx_lt' (h.lt i hi) hj
  obtain ⟨k1, k2⟩ := hd.put (σ i * m + j) r s
  refine ⟨h.ne, h.loA, h.loB, ⟨l, hl, owns_far h1 k2 h.ne, h2⟩, ⟨_, k1, fun a b ha hb => ?_⟩, h.inj, h.lt, k2.up h.up h.loB⟩
  rw [set_at d _ _ _ (by omega)]
  unfold upd2
  by_cases e : a = i ∧ b = j
  · obtain ⟨rfl, rfl⟩ := e
    rw [if_pos rfl, if_pos ⟨rfl, rfl⟩]; rfl
  · rw [if_neg e, if_neg, h3 a b ha hb]
    intro q
    obtain ⟨q1, q2⟩ := idx_inj' hb hj q
    exact e ⟨h.inj a i ha hi q1, q2⟩
/-- So much of the row k is taken from the row i, up to the column m. -/
def takeT (T : Nat → Nat → CN) (m i k : Nat) : Nat → Nat → CN := fun a b => if a = i ∧ k < b ∧ b < m then subC (T i b) (mulC (divC (T i k) (T k k)) (T k b)) else T a b
theorem takeT_zero (T : Nat → Nat → CN) (i k : Nat) : takeT T (k + 1) i k = T := by
  funext a b
  unfold takeT
  rw [if_neg (by omega)]
theorem takeT_step {T : Nat → Nat → CN} {i j k : Nat} {v : CN} (hk : k < j) (hv : v = subC (T i j) (mulC (divC (T i k) (T k k)) (T k j))) : upd2 (takeT T j i k) i j v = takeT T (j + 1) i k := by
  funext a b
  unfold upd2 takeT
  by_cases e : a = i ∧ b = j
  · obtain ⟨rfl, rfl⟩ := e
    rw [if_pos ⟨rfl, rfl⟩, if_pos ⟨rfl, hk, by omega⟩, hv]
  · rw [if_neg e]
    by_cases e2 : a = i ∧ k < b ∧ b < j
    · rw [if_pos e2, if_pos (by omega)]
    · rw [if_neg e2, if_neg (by omega)]
theorem eg30 (args : Array Value) (w : World) : (callFunc 30 args).run Try.prog w = .ok (.enter 30 args) w := enters Try.func30 (by kernel_rfl) (by kernel_rfl) _ _
theorem eg20 (args : Array Value) (w : World) : (callFunc 20 args).run Try.prog w = .ok (.enter 20 args) w := enters Try.func20 (by kernel_rfl) (by kernel_rfl) _ _
set_option maxHeartbeats 4000000 in
set_option maxRecDepth 20000 in
theorem t29 {w0 w : World} {A B n m : Nat} {σ : Nat → Nat} {T : Nat → Nat → CN} {i k : Nat} (h : EQ w0 w A B n m σ T) (hi : i < n) (hk : k < n) (hik : i ≠ k) (hkm : k < m) (hm : m ≤ 100000) : Calls Try.prog 29 #[.slice (some ⟨B, σ i * m, none⟩) m m, .slice (some ⟨B, σ k * m, none⟩) m m, .int .i64 k] w fun e w' => e = .returned (.tuple #[]) ∧ Hid (EQ w0 w' A B n m σ (takeT T m i k)) := by
  have HE : Hid (EQ w0 w A B n m σ T) := h
  have HI : Hid (i < n ∧ k < n ∧ i ≠ k ∧ k < m ∧ m ≤ 100000) := ⟨hi, hk, hik, hkm, hm⟩
  obtain ⟨x0, y0, c0, e0, -⟩ := h.cell hi hkm
  obtain ⟨x1, y1, c1, e1, -⟩ := h.cell hk hkm
  have E0 : Hid ((ab x0, ab y0) = T i k) := e0
  have E1 : Hid ((ab x1, ab y1) = T k k) := e1
  obtain ⟨X, hX⟩ : ∃ X, σ i * m = X := ⟨_, rfl⟩
  obtain ⟨Y, hY⟩ : ∃ Y, σ k * m = Y := ⟨_, rfl⟩
  have HX : Hid (σ i * m = X ∧ σ k * m = Y) := ⟨hX, hY⟩
  rw [hX] at c0
  rw [hY] at c1
  rw [hX, hY]
  have z0 : (k : Int) < (m : Int) := by omega
  have z1 : (m : Int) ≤ 100000 := by omega
  clear h hi hk hik hkm hm hX hY e0 e1
  go_enter Try.func29, Try.ntmps29
  go_wp2_with fail
  refine wp_region_shut 9 [(0, none), (1, none), (2, none), (3, some false), (4, none), (5, none), (6, none), (7, some false), (8, some true)] (fun w9 => Up w w9) (by kernel_rfl) (by decide) rfl (by kernel_rfl) (fun _ _ d _ _ h => by cases d <;> exact h) (Up.drewN w 1) ?_
  refine OrdS.looks (.slice (some ⟨B, X, none⟩) m m) (some 8) _ rfl rfl (Or.inl ⟨by kernel_rfl, fun w' hS => ?_⟩) ?_
  · go_simp
  refine OrdS.looks (.int .i64 k) (some 9) _ rfl rfl (Or.inl ⟨by kernel_rfl, fun w' hS => ?_⟩) ?_
  · go_simp
  refine OrdS.looks (.pointer (some ⟨B, X + k, none⟩)) (some 10) _ rfl rfl (Or.inl ⟨by kernel_rfl, fun w' hS => ?_⟩) ?_
  · go_simp
  refine OrdS.reads (.complex .f64 x0 y0) (some 11) _ rfl rfl (Or.inl ⟨by kernel_rfl, fun w' hS => ?_⟩) ?_
  · have l0 := cell_up c0 hS
    go_simp
  refine OrdS.looks (.slice (some ⟨B, Y, none⟩) m m) (some 12) _ rfl rfl (Or.inl ⟨by kernel_rfl, fun w' hS => ?_⟩) ?_
  · go_simp
  refine OrdS.looks (.int .i64 k) (some 13) _ rfl rfl (Or.inl ⟨by kernel_rfl, fun w' hS => ?_⟩) ?_
  · go_simp
  refine OrdS.looks (.pointer (some ⟨B, Y + k, none⟩)) (some 14) _ rfl rfl (Or.inl ⟨by kernel_rfl, fun w' hS => ?_⟩) ?_
  · go_simp
  refine OrdS.reads (.complex .f64 x1 y1) (some 15) _ rfl rfl (Or.inl ⟨by kernel_rfl, fun w' hS => ?_⟩) ?_
  · have l0 := cell_up c1 hS
    go_simp
  simp only [Act.put, List.setIfInBounds_toArray, List.set_cons_succ, List.set_cons_zero]
  refine OrdS.does ?_
  refine wpOp_callG (f := 30) (some 16) rfl rfl (by kernel_rfl) rfl #[.complex .f64 x0 y0, .complex .f64 x1 y1] (by kernel_rfl) (eg30 _ _) ?_
  refine (t30 x0 y0 x1 y1 _).mono ?_
  rintro e w5 ⟨fr, fi, k5, rfl, rfl, HF⟩
  have HU5 : Hid (Up w (w.drew.drewN k5)) := (Up.drewN w 1).trans (Up.drewN _ _)
  refine ⟨_, rfl, HU5.out, ?_⟩
  refine OrdS.ends ?_
  simp only [List.drop_succ_cons, List.drop_zero, Act.put, List.setIfInBounds_toArray, List.set_cons_succ, List.set_cons_zero]
  have HF2 : Hid ((ab fr, ab fi) = divC (T i k) (T k k)) := by show _ = _; rw [HF.out, E0.out, E1.out]
  have HE2 : Hid (EQ w0 (w.drew.drewN k5) A B n m σ T) := HE.out.mono HU5.out
  generalize w.drew.drewN k5 = wq at *
  clear HF E0 E1 c0 c1 HE HU5
  go_wp2
  go_loopw [7] (fun vj wr => ∃ j : Nat, k < j ∧ j ≤ m ∧ vj = .int .i64 j ∧ Hid (EQ w0 wr A B n m σ (takeT T j i k))) (fun vj _ => m - (intOf vj).toNat)
  case atStart => exact ⟨k + 1, by omega, by have := HI.out; omega, by go_num, by rw [takeT_zero]; exact HE2⟩
  case round =>
    obtain ⟨j, hkj, hj, rfl, HR⟩ := hrel
    rename World => wr
    by_cases hlt : j < m
    · obtain ⟨x2, y2, c2, e2, f2⟩ := HR.out.cell HI.out.1 hlt
      obtain ⟨x3, y3, c3, e3, -⟩ := HR.out.cell HI.out.2.1 hlt
      have E2 : Hid ((ab x2, ab y2) = T i j) := by show _ = _; rw [e2]; unfold takeT; rw [if_neg (by omega)]
      have E3 : Hid ((ab x3, ab y3) = T k j) := by show _ = _; rw [e3]; unfold takeT; rw [if_neg (by have := HI.out; omega)]
      rw [HX.out.1] at c2 f2
      rw [HX.out.2] at c3
      have z2 : (j : Int) < (m : Int) := by omega
      clear e2 e3
      go_wp2_with fail
      refine wp_region_shut 11 [(0, none), (1, none), (2, none), (3, some false), (4, none), (5, none), (6, none), (7, none), (8, some false), (9, some true), (10, some true)] (fun w9 => Up wr w9) (by kernel_rfl) (by decide) rfl (by kernel_rfl) (fun _ _ d _ _ h => by cases d <;> exact h) (Up.drewN wr 1) ?_
      refine OrdS.looks (.slice (some ⟨B, X, none⟩) m m) (some 25) _ rfl rfl (Or.inl ⟨by kernel_rfl, fun w' hS => ?_⟩) ?_
      · go_simp
      refine OrdS.looks (.int .i64 j) (some 26) _ rfl rfl (Or.inl ⟨by kernel_rfl, fun w' hS => ?_⟩) ?_
      · go_simp
      refine OrdS.looks (.pointer (some ⟨B, X + j, none⟩)) (some 27) _ rfl rfl (Or.inl ⟨by kernel_rfl, fun w' hS => ?_⟩) ?_
      · go_simp
      refine OrdS.reads (.complex .f64 x2 y2) (some 28) _ rfl rfl (Or.inl ⟨by kernel_rfl, fun w' hS => ?_⟩) ?_
      · have l0 := cell_up c2 hS
        go_simp
      refine OrdS.looks (.complex .f64 fr fi) (some 29) _ rfl rfl (Or.inl ⟨by kernel_rfl, fun w' hS => ?_⟩) ?_
      · go_simp
      refine OrdS.looks (.slice (some ⟨B, Y, none⟩) m m) (some 30) _ rfl rfl (Or.inl ⟨by kernel_rfl, fun w' hS => ?_⟩) ?_
      · go_simp
      refine OrdS.looks (.int .i64 j) (some 31) _ rfl rfl (Or.inl ⟨by kernel_rfl, fun w' hS => ?_⟩) ?_
      · go_simp
      refine OrdS.looks (.pointer (some ⟨B, Y + j, none⟩)) (some 32) _ rfl rfl (Or.inl ⟨by kernel_rfl, fun w' hS => ?_⟩) ?_
      · go_simp
      refine OrdS.reads (.complex .f64 x3 y3) (some 33) _ rfl rfl (Or.inl ⟨by kernel_rfl, fun w' hS => ?_⟩) ?_
      · have l0 := cell_up c3 hS
        go_simp
      simp only [Act.put, List.setIfInBounds_toArray, List.set_cons_succ, List.set_cons_zero]
      refine OrdS.does ?_
      refine wpOp_callG (f := 20) (some 34) rfl rfl (by kernel_rfl) rfl #[.complex .f64 fr fi, .complex .f64 x3 y3] (by kernel_rfl) (eg20 _ _) ?_
      refine (t20c fr fi x3 y3 _).mono ?_
      rintro e w5 ⟨gr, gi, k6, rfl, rfl, HG⟩
      have HU6 : Hid (Up wr (wr.drew.drewN k6)) := (Up.drewN wr 1).trans (Up.drewN _ _)
      refine ⟨_, rfl, HU6.out, ?_⟩
      simp only [Act.put, List.setIfInBounds_toArray, List.set_cons_succ, List.set_cons_zero]
      refine OrdS.does ?_
      refine wpOp_csub (some 35) rfl rfl rfl rfl x2 y2 gr gi (by kernel_rfl) (by kernel_rfl) ?_
      intro sr si k7 HS
      refine ⟨HU6.out.trans (Up.drewN _ _), ?_⟩
      refine OrdS.ends ?_
      simp only [List.drop_succ_cons, List.drop_zero, Act.put, List.setIfInBounds_toArray, List.set_cons_succ, List.set_cons_zero]
      have HV : Hid ((ab sr, ab si) = subC (T i j) (mulC (divC (T i k) (T k k)) (T k j))) := by show _ = _; rw [HS.out, HG.out, E2.out, E3.out, HF2.out]
      have HU7 : Hid (Up wr ((wr.drew.drewN k6).drewN k7)) := HU6.out.trans (Up.drewN _ _)
      have HR7 : Hid (EQ w0 ((wr.drew.drewN k6).drewN k7) A B n m σ (takeT T j i k)) := HR.out.mono HU7.out
      obtain ⟨x4, y4, c4, -, f4⟩ := HR7.out.cell HI.out.1 hlt
      rw [HX.out.1] at c4 f4
      have c5 : (((wr.drew.drewN k6).drewN k7).cell? ⟨B, X + j, none⟩).isSome = true := by rw [c4]; rfl
      generalize (wr.drew.drewN k6).drewN k7 = wz at *
      clear c2 c3 f2 HR HG HS E2 E3 HU6 HU7 c4
      go_wp2
      go_roundw
      case rel =>
        refine ⟨j + 1, by omega, by omega, by go_num, ?_⟩
        have hp := HR7.out.put HI.out.1 hlt sr si
        rw [takeT_step hkj HV.out, HX.out.1] at hp
        exact hp
      case measure => simp [intOf]; omega
    · obtain rfl : j = m := by omega
      go_wp2
      go_end0
      exact ⟨rfl, HR⟩
end Go.Proofs.Ythpoipajfkfdeab
