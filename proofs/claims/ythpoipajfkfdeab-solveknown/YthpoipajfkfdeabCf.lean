/- From below: fromBelow. -/
import Derived.Test.YthpoipajfkfdeabCe
namespace Go.Proofs.Ythpoipajfkfdeab
open Go.ChangeShapes Go.WideShapes Go.ChangeAt Go.RowKit Go.Fl Ieee
attribute [local go_sem] run_store_float run_store_c call43 call17 run_neg fold_eq fold_ne fold_lt fold_gt abs_eq

theorem EQ.far {w0 w w' : World} {A B n m g : Nat} {σ : Nat → Nat} {T : Nat → Nat → CN} (h : EQ w0 w A B n m σ T) (hb : But g w w') (hA : A ≠ g) (hB : B ≠ g) (hg : w0.heap.size ≤ g) : EQ w0 w' A B n m σ T := by
  obtain ⟨l, hl, h1, h2⟩ := h.ans
  obtain ⟨d, hd, h3⟩ := h.all
  exact ⟨h.ne, h.loA, h.loB, ⟨l, hl, owns_far h1 hb hA, h2⟩, ⟨d, hd.far hb hB, h3⟩, h.inj, h.lt, hb.up h.up hg⟩
theorem EQ.ltA {w0 w : World} {A B n m : Nat} {σ : Nat → Nat} {T : Nat → Nat → CN} (h : EQ w0 w A B n m σ T) : A < w.heap.size ∧ B < w.heap.size := by
  obtain ⟨l, hl, h1, h2⟩ := h.ans
  obtain ⟨d, hd, h3⟩ := h.all
  exact ⟨(World.ownsRow.lt h1 _ rfl).2, (World.ownsRow.lt hd _ rfl).2⟩
def dnS (T : Nat → Nat → CN) (x : Nat → CN) (n i : Nat) : Nat → CN
  | 0 => T i n
  | t + 1 => subC (dnS T x n i t) (mulC (T i (i + 1 + t)) (x (i + 1 + t)))
/-- What the last t rows tell. -/
def bx (T : Nat → Nat → CN) (n : Nat) : Nat → (Nat → CN)
  | 0 => fun _ => (ab 0, ab 0)
  | t + 1 => fun a => if a = n - 1 - t then divC (dnS T (bx T n t) n (n - 1 - t) t) (T (n - 1 - t) (n - 1 - t)) else bx T n t a
/-- A row of one's own that holds these numbers. -/
structure XR (b : Nat) (w : World) (g n : Nat) (x : Nat → CN) : Prop where
  row : ∃ d, CRow b w (.slice (some ⟨g, 0, none⟩) n n) d ∧ ∀ j, j < n → ab2 d[j]! = x j
  lo : b ≤ g
theorem XR.up {b : Nat} {w w' : World} {g n : Nat} {x : Nat → CN} (h : XR b w g n x) (hu : Up w w') : XR b w' g n x := by
  obtain ⟨d, hd, hx⟩ := h.row
  exact ⟨⟨d, hd.up hu, hx⟩, h.lo⟩
theorem XR.cell {b : Nat} {w : World} {g n : Nat} {x : Nat → CN} (h : XR b w g n x) {j : Nat} (hj : j < n) : ∃ p q, w.cell? ⟨g, j, none⟩ = some (.complex .f64 p q) ∧ (ab p, ab q) = x j ∧ w.frozen? ⟨g, j, none⟩ = false := by
  obtain ⟨d, hd, hx⟩ := h.row
  have := hd.len
  exact ⟨_, _, hd.cell (by omega), hx j hj, hd.frz _⟩
theorem XR.put {b : Nat} {w : World} {g n : Nat} {x : Nat → CN} (h : XR b w g n x) {i : Nat} (hi : i < n) (r s : Nat) : XR b (w.setCell ⟨g, i, none⟩ (.complex .f64 r s)) g n (fun a => if a = i then (ab r, ab s) else x a) ∧ But g w (w.setCell ⟨g, i, none⟩ (.complex .f64 r s)) := by
  obtain ⟨d, hd, hx⟩ := h.row
  have hl := hd.len
  obtain ⟨k1, k2⟩ := hd.put i r s
  refine ⟨⟨⟨_, k1, fun j hj => ?_⟩, h.lo⟩, k2⟩
  rw [set_at d _ _ _ (by omega)]
  show ab2 (if j = i then (r, s) else d[j]!) = if j = i then (ab r, ab s) else x j
  by_cases e : j = i
  · rw [if_pos e, if_pos e]; rfl
  · rw [if_neg e, if_neg e]; exact hx j hj
theorem XR.made {w w' : World} {g n : Nat} (h : Made n g w w') : XR w.heap.size w' g n (fun _ => (ab 0, ab 0)) := by
  obtain ⟨h1, h2, h3⟩ := h
  refine ⟨⟨_, h2.down (by omega), fun j hj => ?_⟩, by omega⟩
  rw [getElem!_pos _ j (by simpa using hj)]
  simp [ab2]
def XlR (n : Nat) (x : Nat → CN) (w : World) (e : Ending) (w' : World) : Prop := ∃ g, e = .returned (.slice (some ⟨g, 0, none⟩) n n) ∧ Hid (XR w.heap.size w' g n x) ∧ Hid (Up w w')
set_option maxHeartbeats 8000000 in
set_option maxRecDepth 20000 in
theorem t16 {w0 w : World} {A B n m : Nat} {σ : Nat → Nat} {T : Nat → Nat → CN} (h : EQ w0 w A B n m σ T) (hm : m = n + 1) (hn : n ≤ 10000) : Calls Try.prog 16 #[.slice (some ⟨A, 0, none⟩) n n] w (XlR n (bx T n n) w) := by
  have HE : Hid (EQ w0 w A B n m σ T) := h
  have HI : Hid (m = n + 1 ∧ n ≤ 10000) := ⟨hm, hn⟩
  have z1 : (n : Int) ≤ 10000 := by omega
  have z2 : n ≤ 1000000 := by omega
  have z3 : (n : Int) < (m : Int) := by omega
  clear h hm hn
  go_enter Try.func16, Try.ntmps16
  go_wp2_with ((with_reducible refine upon_makeC z2 ?_); intro g w1 HM)
  have HX0 : Hid (XR w.heap.size w1 g n (bx T n 0)) := XR.made HM.out
  have HU0 : Hid (Up w w1) := HM.out.2.2
  have HE0 : Hid (EQ w0 w1 A B n m σ T) := HE.out.mono HM.out.2.2
  have HNE : Hid (A ≠ g ∧ B ≠ g ∧ w0.heap.size ≤ g) := by
    have h1 := HE.out.ltA
    have h2 := HM.out.1
    have h3 := RowKit.Below.size HE.out.up
    exact ⟨by omega, by omega, by omega⟩
  clear HM HE
  go_loopw [5, 6, 7] (fun vi _ _ wr => ∃ (t : Nat) (z : Int), t ≤ n ∧ vi = .int .i64 z ∧ Hid (z = (n : Int) - 1 - t) ∧ Hid (XR w.heap.size wr g n (bx T n t)) ∧ Hid (EQ w0 wr A B n m σ T) ∧ Hid (Up w wr)) (fun vi _ _ _ => (intOf vi + 1).toNat)
  case atStart => exact ⟨0, _, by omega, rfl, (by show _ = _; omega), HX0, HE0, HU0⟩
  case round =>
    clear HX0 HE0 HU0
    obtain ⟨t, z, ht, rfl, HZ, HX, HE, HU⟩ := hrel
    rename World => wr
    by_cases hlt : t < n
    · obtain ⟨i, hi⟩ : ∃ i, n - 1 - t = i := ⟨_, rfl⟩
      have hz : z = (i : Int) := by have := HZ.out; omega
      subst hz
      have HII : Hid (n - 1 - t = i ∧ i < n ∧ n = i + 1 + t) := ⟨hi, by omega, by omega⟩
      have c0 := HE.out.row HII.out.2.1
      obtain ⟨x0, y0, c1, e1, -⟩ := HE.out.cell (i := i) (j := n) HII.out.2.1 (by have := HI.out; omega)
      have E1 : Hid ((ab x0, ab y0) = T i n) := e1
      obtain ⟨X, hX⟩ : ∃ X, σ i * m = X := ⟨_, rfl⟩
      have HXX : Hid (σ i * m = X) := hX
      rw [hX] at c0 c1
      have y1 : (i : Int) < (n : Int) := by omega
      have y2 : (n : Int) = (i : Int) + 1 + t := by omega
      clear hi hX e1 y2
      go_wp2
      go_loopw [6, 7] (fun vs vj wx => ∃ (l r s : Nat), l ≤ t ∧ vs = .complex .f64 r s ∧ vj = .int .i64 ((i + 1 + l : Nat) : Int) ∧ Hid ((ab r, ab s) = dnS T (bx T n t) n i l) ∧ Hid (Up wr wx)) (fun _ vj _ => n - (intOf vj).toNat)
      case atStart => exact ⟨0, x0, y0, by omega, rfl, by go_num, E1, Up.refl _⟩
      case round =>
        clear E1 c1 c0
        obtain ⟨l, r, s, hl, rfl, rfl, HS, HUx⟩ := hrel
        rename World => wx
        obtain ⟨j, hj⟩ : ∃ j, i + 1 + l = j := ⟨_, rfl⟩
        rw [hj]
        have HJ : Hid (i + 1 + l = j) := hj
        have HEx : Hid (EQ w0 wx A B n m σ T) := HE.out.mono HUx.out
        have HXx : Hid (XR w.heap.size wx g n (bx T n t)) := HX.out.up HUx.out
        have c0 := HEx.out.row HII.out.2.1
        rw [HXX.out] at c0
        by_cases hlt2 : l < t
        · have hjn : j < n := by have := HII.out; omega
          obtain ⟨x1, y1', c1, e1, -⟩ := HEx.out.cell (i := i) (j := j) HII.out.2.1 (by have := HI.out; omega)
          obtain ⟨x2, y2, c2, e2, -⟩ := HXx.out.cell hjn
          rw [HXX.out] at c1
          have E1 : Hid ((ab x1, ab y1') = T i j) := e1
          have E2 : Hid ((ab x2, ab y2) = bx T n t j) := e2
          have v1 : (j : Int) < (n : Int) := by omega
          have v2 : (j : Int) < (m : Int) := by omega
          clear e1 e2 hj
          go_wp2_with fail
          refine wp_region_shut 14 [(0, none), (1, none), (2, none), (3, none), (4, some false), (5, none), (6, none), (7, some false), (8, none), (9, none), (10, none), (11, some false), (12, some true), (13, some true)] (fun w9 => Up wx w9) (by kernel_rfl) (by decide) rfl (by kernel_rfl) (fun _ _ d _ _ h => by cases d <;> exact h) (Up.drewN wx 1) ?_
          refine OrdS.looks (.complex .f64 r s) (some 32) _ rfl rfl (Or.inl ⟨by kernel_rfl, fun w' hS => ?_⟩) ?_
          · go_simp
          refine OrdS.looks (.slice (some ⟨A, 0, none⟩) n n) (some 33) _ rfl rfl (Or.inl ⟨by kernel_rfl, fun w' hS => ?_⟩) ?_
          · go_simp
          refine OrdS.looks (.int .i64 i) (some 34) _ rfl rfl (Or.inl ⟨by kernel_rfl, fun w' hS => ?_⟩) ?_
          · go_simp
          refine OrdS.looks (.pointer (some ⟨A, i, none⟩)) (some 35) _ rfl rfl (Or.inl ⟨by kernel_rfl, fun w' hS => ?_⟩) ?_
          · go_simp
          refine OrdS.reads (.slice (some ⟨B, X, none⟩) m m) (some 36) _ rfl rfl (Or.inl ⟨by kernel_rfl, fun w' hS => ?_⟩) ?_
          · have l0 := cell_up c0 hS
            go_simp
          refine OrdS.looks (.int .i64 j) (some 37) _ rfl rfl (Or.inl ⟨by kernel_rfl, fun w' hS => ?_⟩) ?_
          · go_simp
          refine OrdS.looks (.pointer (some ⟨B, X + j, none⟩)) (some 38) _ rfl rfl (Or.inl ⟨by kernel_rfl, fun w' hS => ?_⟩) ?_
          · go_simp
          refine OrdS.reads (.complex .f64 x1 y1') (some 39) _ rfl rfl (Or.inl ⟨by kernel_rfl, fun w' hS => ?_⟩) ?_
          · have l0 := cell_up c1 hS
            go_simp
          refine OrdS.looks (.slice (some ⟨g, 0, none⟩) n n) (some 40) _ rfl rfl (Or.inl ⟨by kernel_rfl, fun w' hS => ?_⟩) ?_
          · go_simp
          refine OrdS.looks (.int .i64 j) (some 41) _ rfl rfl (Or.inl ⟨by kernel_rfl, fun w' hS => ?_⟩) ?_
          · go_simp
          refine OrdS.looks (.pointer (some ⟨g, j, none⟩)) (some 42) _ rfl rfl (Or.inl ⟨by kernel_rfl, fun w' hS => ?_⟩) ?_
          · go_simp
          refine OrdS.reads (.complex .f64 x2 y2) (some 43) _ rfl rfl (Or.inl ⟨by kernel_rfl, fun w' hS => ?_⟩) ?_
          · have l0 := cell_up c2 hS
            go_simp
          simp only [Act.put, List.setIfInBounds_toArray, List.set_cons_succ, List.set_cons_zero]
          refine OrdS.does ?_
          refine wpOp_callG (f := 20) (some 44) rfl rfl (by kernel_rfl) rfl #[.complex .f64 x1 y1', .complex .f64 x2 y2] (by kernel_rfl) (eg20 _ _) ?_
          refine (t20c x1 y1' x2 y2 _).mono ?_
          rintro e w5 ⟨gr, gi, k6, rfl, rfl, HG⟩
          have HU6 : Hid (Up wx (wx.drew.drewN k6)) := (Up.drewN wx 1).trans (Up.drewN _ _)
          refine ⟨_, rfl, HU6.out, ?_⟩
          simp only [Act.put, List.setIfInBounds_toArray, List.set_cons_succ, List.set_cons_zero]
          refine OrdS.does ?_
          refine wpOp_csub (some 45) rfl rfl rfl rfl r s gr gi (by kernel_rfl) (by kernel_rfl) ?_
          intro sr si k7 HSs
          refine ⟨HU6.out.trans (Up.drewN _ _), ?_⟩
          refine OrdS.ends ?_
          simp only [List.drop_succ_cons, List.drop_zero, Act.put, List.setIfInBounds_toArray, List.set_cons_succ, List.set_cons_zero]
          have HV : Hid ((ab sr, ab si) = dnS T (bx T n t) n i (l + 1)) := by show _ = subC _ _; rw [HSs.out, HG.out, HS.out, E1.out, E2.out, HJ.out]
          have HU7 : Hid (Up wr ((wx.drew.drewN k6).drewN k7)) := HUx.out.trans (HU6.out.trans (Up.drewN _ _))
          generalize (wx.drew.drewN k6).drewN k7 = wz at *
          go_wp2
          go_roundw
          case rel => exact ⟨l + 1, sr, si, by omega, rfl, by have := HJ.out; go_num, HV, HU7⟩
          case measure => simp [intOf]; omega
        · obtain rfl : l = t := by omega
          obtain rfl : j = n := by have := HII.out; have := HJ.out; omega
          obtain ⟨x1, y1', c1, e1, -⟩ := HEx.out.cell (i := i) (j := i) HII.out.2.1 (by have := HI.out; have := HII.out; omega)
          rw [HXX.out] at c1
          have E1 : Hid ((ab x1, ab y1') = T i i) := e1
          have v2 : (i : Int) < (m : Int) := by have := HI.out; omega
          clear e1 hj
          go_wp2_with (go_at_call 30; (with_reducible refine (t30 _ _ _ _ _).mono ?_); rintro e w5 ⟨gr, gi, k6, rfl, rfl, HG⟩; (have HX5 : Hid (XR w.heap.size (wx.drewN k6) g j (bx T j l)) := HXx.out.up (Up.drewN _ _)); obtain ⟨x9, y9, c9, -, f9⟩ := HX5.out.cell HII.out.2.1; (have c8 : ((wx.drewN k6).cell? ⟨g, i, none⟩).isSome = true := by rw [c9]; rfl))
          have HP := HX5.out.put HII.out.2.1 gr gi
          go_roundw
          case rel =>
            refine ⟨l + 1, _, by have := HII.out; omega, by go_num, ?_, ?_, ?_, ?_⟩
            · have hii := HII.out
              exact (by omega : (i : Int) - 1 = (j : Int) - 1 - ((l + 1 : Nat) : Int))
            · have : bx T j (l + 1) = fun a => if a = i then (ab gr, ab gi) else bx T j l a := by
                funext a
                show (if a = j - 1 - l then _ else _) = _
                rw [HII.out.1, HG.out, HS.out, E1.out]
              rw [this]
              exact HP.1
            · exact (HEx.out.mono (Up.drewN _ _)).far HP.2 HNE.out.1 HNE.out.2.1 HNE.out.2.2
            · exact HP.2.up ((HU.out.trans HUx.out).trans (Up.drewN _ _)) HX5.out.lo
          case measure => simp [intOf]
    · obtain rfl : t = n := by omega
      have hz : z = -1 := by have := HZ.out; omega
      subst hz
      go_wp2
      go_ret
      exact ⟨g, rfl, HX, HU⟩
end Go.Proofs.Ythpoipajfkfdeab
