/- StillWeighed: what its walk leans on. -/
import Derived.Test.YtgalgnopjcpocaaVc
import Derived.Test.YtgalgnopjcpocaaEa
namespace Go.Proofs.Ytgalgnopjcpocaa
open Go.ChangeShapes Go.WideShapes Go.ChangeAt Go.RowKit Go.Fl Ieee

theorem run_fl6 {P : Program} (op : BinOp) (t : TypeId) {x y r : Nat} (w : World) (h : bin op (ab x) (ab y) = some r) : (binOp op t (.float .f64 x) (.float .f64 y)).run P w = .ok (.float .f64 r) w :=
  run_float_arith w op t .f64 x y r (by rw [bits_ab]; exact h)
theorem run_cadd6 {P : Program} (t : TypeId) {a b c d u v : Nat} (w : World) (h1 : bin .add (ab a) (ab c) = some u) (h2 : bin .add (ab b) (ab d) = some v) : (binOp .add t (.complex .f64 a b) (.complex .f64 c d)).run P w = .ok (.complex .f64 u v) w := by
  have f1 : (Op.floatArith .add .f64 a c).run P w = .ok (.float .f64 u) w := run_fl6 (P := P) .add t w h1
  have f2 : (Op.floatArith .add .f64 b d).run P w = .ok (.float .f64 v) w := run_fl6 (P := P) .add t w h2
  simp [binOp, Op.complexOp, Op.Complex.arith, f1, f2]
def blk : Option Addr → Nat
  | some a => a.block
  | none => 0
theorem TT.len {w0 W : World} {v : Value} {n k : Nat} {P : Nat → Option Addr} {C : Nat → Nat} {D : Nat → List (Nat × Nat)} (h : TT w0 W v n k P C D) {a : Nat} (ha : a < k) : (D a).length = n := by
  obtain ⟨_, _, he, _⟩ := own_form (h.row a ha)
  simp only [Value.slice.injEq] at he
  exact he.2.1.symm
theorem TT.at_ {w0 W : World} {v : Value} {n k : Nat} {P : Nat → Option Addr} {C : Nat → Nat} {D : Nat → List (Nat × Nat)} (h : TT w0 W v n k P C D) {a : Nat} (ha : a < k) (hn : 0 < n) : P a = some ⟨blk (P a), 0, none⟩ := by
  obtain ⟨_, _, he, hq⟩ := own_form (h.row a ha)
  simp only [Value.slice.injEq] at he
  obtain ⟨e1, _, _⟩ := he
  obtain ⟨g, hg⟩ := hq (by rw [h.len ha]; exact hn)
  rw [← e1] at hg
  rw [hg]; rfl
theorem TT.crow {w0 W : World} {v : Value} {n k : Nat} {P : Nat → Option Addr} {C : Nat → Nat} {D : Nat → List (Nat × Nat)} (h : TT w0 W v n k P C D) {a : Nat} (ha : a < k) (hn : 0 < n) : CRow w0.heap.size W (.slice (some ⟨blk (P a), 0, none⟩) n (C a)) (D a) := by
  have := h.row a ha
  rw [h.at_ ha hn] at this
  exact this
theorem TT.cell {w0 W : World} {v : Value} {n k : Nat} {P : Nat → Option Addr} {C : Nat → Nat} {D : Nat → List (Nat × Nat)} (h : TT w0 W v n k P C D) {a g : Nat} (ha : a < k) (hg : g < n) : W.cell? ⟨blk (P a), g, none⟩ = some (.complex .f64 (D a)[g]!.1 (D a)[g]!.2) :=
  (h.crow ha (by omega)).cell (by rw [h.len ha]; exact hg)
theorem TT.hdr {w0 W : World} {A cap n k : Nat} {P : Nat → Option Addr} {C : Nat → Nat} {D : Nat → List (Nat × Nat)} (h : TT w0 W (.slice (some ⟨A, 0, none⟩) k cap) n k P C D) {a : Nat} (ha : a < k) : W.cell? ⟨A, a, none⟩ = some (.slice (P a) n (C a)) := by
  rw [World.ownsRow.cellAt h.own a (by omega)]
  simp [ha]
theorem cap_of {w : World} {b n s : Nat} {t : TypeId} {p : Option Addr} {m cap : Nat} {xs : List Value} (h : w.ownsRow b t s (.slice p m cap) n xs) : n ≤ cap := by
  rcases h.2 with ⟨h0, h1⟩ | ⟨g0, c0, cur, e, _, _, h4, _⟩
  · omega
  · simp only [Value.slice.injEq] at e
    omega
theorem TT.ti {w0 W : World} {A cap n k : Nat} {P : Nat → Option Addr} {C : Nat → Nat} {D : Nat → List (Nat × Nat)} (h : TT w0 W (.slice (some ⟨A, 0, none⟩) k cap) n k P C D) : TI W A k n P C (fun a => blk (P a)) (fun _ => 0) (fun a g => (D a)[g]!) ∧ k ≤ cap :=
  ⟨⟨fun a ha => h.hdr ha, fun a ha hn => ⟨h.at_ ha hn, fun j hj => by rw [Nat.zero_add]; exact h.cell ha hj⟩, fun a ha => by
    have := cap_of (h.row a ha)
    rw [h.len ha] at this
    exact this⟩, cap_of h.own⟩
theorem TT.put {w0 W : World} {v : Value} {n k : Nat} {P : Nat → Option Addr} {C : Nat → Nat} {D : Nat → List (Nat × Nat)} (h : TT w0 W v n k P C D) {a : Nat} (ha : a < k) (hn : 0 < n) (g x y : Nat) : TT w0 (W.setCell ⟨blk (P a), g, none⟩ (.complex .f64 x y)) v n k P C (fun i => if i = a then (D a).set g (x, y) else D i) := by
  obtain ⟨s1, s2⟩ := (h.crow ha hn).put g x y
  have ob : (Value.slice (P a) n (C a)).ownBlock = some (blk (P a)) := by rw [h.at_ ha hn]; rfl
  refine ⟨owns_keep h.own s2 (fun x hx e => h.apart a (blk (P a)) ha ob (by rw [hx, ← e])), fun i hi => ?_, h.apart, h.inj, s2.up h.up (World.ownsRow.lt (h.row a ha) _ ob).1⟩
  by_cases e : i = a
  · subst e
    simp only [if_true]
    rw [h.at_ ha hn]
    exact s1
  · simp only [if_neg e]
    exact owns_keep (h.row i hi) s2 (fun x hx e2 => e (h.inj i a x hi ha hx (by rw [ob]; exact e2)))
/-- What is added to the rows, so far. -/
def mF (F : Nat → Nat → Int × Int) (m : Int × Int) (i k a g : Nat) : Int × Int := if a < i ∨ (a = i ∧ g < k) then ((F a g).1 + m.1, (F a g).2 + m.2) else F a g
theorem mF_next (F : Nat → Nat → Int × Int) (m : Int × Int) (i k a g : Nat) : mF F m i (k + 1) a g = if a = i ∧ g = k then ((F a g).1 + m.1, (F a g).2 + m.2) else mF F m i k a g := by
  unfold mF
  by_cases h : a = i ∧ g = k
  · rw [if_pos h, if_pos (Or.inr ⟨h.1, by omega⟩)]
  · rw [if_neg h]
    by_cases h2 : a < i ∨ (a = i ∧ g < k)
    · rw [if_pos h2, if_pos (by omega)]
    · rw [if_neg h2, if_neg (by omega)]
theorem mF_row (F : Nat → Nat → Int × Int) (m : Int × Int) {i n a g : Nat} (hg : g < n) : mF F m i n a g = mF F m (i + 1) 0 a g := by
  unfold mF
  by_cases h : a < i + 1 ∨ (a = i + 1 ∧ g < 0)
  · rw [if_pos h, if_pos (by omega)]
  · rw [if_neg h, if_neg (by omega)]
/-- The table under way. -/
structure AS (w0 W : World) (A cap N n : Nat) (P : Nat → Option Addr) (C : Nat → Nat) (D : Nat → List (Nat × Nat)) (F : Nat → Nat → Int × Int) (m : Int × Int) (i k : Nat) : Prop where
  tt : TT w0 W (.slice (some ⟨A, 0, none⟩) N cap) n N P C D
  val : ∀ a, a < N → ∀ g, g < n → WH2 (ab2 (D a)[g]!) (mF F m i k a g)
theorem AS.upw {w0 W W' : World} {A cap N n : Nat} {P : Nat → Option Addr} {C : Nat → Nat} {D : Nat → List (Nat × Nat)} {F : Nat → Nat → Int × Int} {m : Int × Int} {i k : Nat} (h : AS w0 W A cap N n P C D F m i k) (u : Up W W') : AS w0 W' A cap N n P C D F m i k := ⟨h.tt.upw u, h.val⟩
theorem AS.put {w0 W : World} {A cap N n : Nat} {P : Nat → Option Addr} {C : Nat → Nat} {D : Nat → List (Nat × Nat)} {F : Nat → Nat → Int × Int} {m : Int × Int} {i k x y : Nat} (h : AS w0 W A cap N n P C D F m i k) (hi : i < N) (hk : k < n) (hx : WH2 (ab x, ab y) ((F i k).1 + m.1, (F i k).2 + m.2)) :
    AS w0 (W.setCell ⟨blk (P i), k, none⟩ (.complex .f64 x y)) A cap N n P C (fun a => if a = i then (D i).set k (x, y) else D a) F m i (k + 1) := by
  refine ⟨h.tt.put hi (by omega) k x y, fun a ha g hg => ?_⟩
  rw [mF_next]
  by_cases e : a = i
  · subst e
    simp only [if_true]
    rw [get_set' _ _ _ (by rw [h.tt.len ha]; exact hg)]
    by_cases e2 : g = k
    · subst e2; simp only [if_true, and_self]; exact hx
    · rw [if_neg e2, if_neg (fun h => e2 h.2)]; exact h.val a ha g hg
  · simp only [if_neg e]
    rw [if_neg (fun h => e h.1)]; exact h.val a ha g hg
/-- All that is compared. -/
structure ZS (w W : World) (A1 AX AY wb N n o : Nat) (P1 : Nat → Option Addr) (C1 : Nat → Nat) (BX BY : Nat → Nat) (F : Nat → Nat → Int × Int) : Prop where
  th : ∀ a, a < N → W.cell? ⟨A1, a, none⟩ = some (.slice (P1 a) n (C1 a))
  tc : ∀ a g, a < N → g < n → ∃ x y, P1 a = some ⟨blk (P1 a), 0, none⟩ ∧ W.cell? ⟨blk (P1 a), g, none⟩ = some (.complex .f64 x y) ∧ WH2 (ab x, ab y) (F a g)
  xh : ∀ a, a < N → W.cell? ⟨AX, a, none⟩ = some (.slice (some ⟨BX a, 0, none⟩) n n)
  xc : ∀ a g, a < N → g < n → ∃ x y, W.cell? ⟨BX a, g, none⟩ = some (.complex .f64 x y) ∧ WH2 (ab x, ab y) (zk (fun b => (F b g).1) o a, zk (fun b => (F b g).2) o a)
  yh : ∀ a, a < N → W.cell? ⟨AY, a, none⟩ = some (.slice (some ⟨BY a, 0, none⟩) n n)
  yc : ∀ a g, 0 < o → o ≤ a → a < N → g < n → ∃ x y, W.cell? ⟨BY a, g, none⟩ = some (.complex .f64 x y) ∧ WH2 (ab x, ab y) (zk (fun b => (F b g).1) o a, zk (fun b => (F b g).2) o a)
  wc : ∀ j, j ≤ o → W.cell? ⟨wb, j, none⟩ = some (.int .i64 (wgt o j))
  up : Up w W
theorem ZS.upw {w W W' : World} {A1 AX AY wb N n o : Nat} {P1 : Nat → Option Addr} {C1 : Nat → Nat} {BX BY : Nat → Nat} {F : Nat → Nat → Int × Int} (h : ZS w W A1 AX AY wb N n o P1 C1 BX BY F) (u : Up W W') : ZS w W' A1 AX AY wb N n o P1 C1 BX BY F := by
  refine ⟨fun a ha => cell_up (h.th a ha) u, fun a g ha hg => ?_, fun a ha => cell_up (h.xh a ha) u, fun a g ha hg => ?_, fun a ha => cell_up (h.yh a ha) u, fun a g h0 h1 ha hg => ?_, fun j hj => cell_up (h.wc j hj) u, h.up.trans u⟩
  · obtain ⟨x, y, h1, h2, h3⟩ := h.tc a g ha hg
    exact ⟨x, y, h1, cell_up h2 u, h3⟩
  · obtain ⟨x, y, h2, h3⟩ := h.xc a g ha hg
    exact ⟨x, y, cell_up h2 u, h3⟩
  · obtain ⟨x, y, h2, h3⟩ := h.yc a g h0 h1 ha hg
    exact ⟨x, y, cell_up h2 u, h3⟩
theorem w9 {o : Nat} (ho : o ≤ 8) (w : World) : Calls Try.prog 9 #[.int .i64 o] w (fun e w' => ∃ wb cap, e = .returned (.slice (some ⟨wb, 0, none⟩) (o + 1) cap) ∧ Hid (∀ j, j ≤ o → w'.cell? ⟨wb, j, none⟩ = some (.int .i64 (wgt o j))) ∧ Hid (Up w w')) := by
  refine (t9 (n := o) (by omega) w).mono fun e w' h => ?_
  obtain ⟨p, cap, he, h1, h2⟩ := h
  obtain ⟨_, _, e1, hq⟩ := OR.form h1.out
  obtain ⟨g, hg⟩ := hq (by rw [wts_len]; omega)
  simp only [Value.slice.injEq] at e1
  obtain ⟨e2, _, _⟩ := e1
  subst e2
  subst hg
  refine ⟨g, cap, by rw [he, wts_len], fun j hj => ?_, h2⟩
  rw [OR.cell h1.out (i := j) (by rw [wts_len]; omega), wts_at (by omega)]
/-- What Cancel leaves of whole numbers. -/
def XO (W : World) (N n o m : Nat) (F : Nat → Nat → Int × Int) (e : Ending) (w' : World) : Prop :=
  ∃ (AX : Nat) (BX : Nat → Nat), e = .returned (.tuple #[.slice (some ⟨AX, o, none⟩) m m, .int .i64 0]) ∧ Hid (∀ a, a < N → w'.cell? ⟨AX, a, none⟩ = some (.slice (some ⟨BX a, 0, none⟩) n n)) ∧ Hid (∀ a g, a < N → g < n → ∃ x y, w'.cell? ⟨BX a, g, none⟩ = some (.complex .f64 x y) ∧ WH2 (ab x, ab y) (zk (fun b => (F b g).1) o a, zk (fun b => (F b g).2) o a)) ∧ Hid (Up W w')
theorem w22 {w0 W : World} {A cap N n o m : Nat} {P : Nat → Option Addr} {C : Nat → Nat} {D : Nat → List (Nat × Nat)} {F : Nat → Nat → Int × Int} {M : Int} (h : TT w0 W (.slice (some ⟨A, 0, none⟩) N cap) n N P C D) (hv : ∀ a, a < N → ∀ g, g < n → WH2 (ab2 (D a)[g]!) (F a g)) (hM : 0 ≤ M) (hM2 : M ≤ 2199023255552) (h1 : ∀ a g, -M ≤ (F a g).1 ∧ (F a g).1 ≤ M) (h2 : ∀ a g, -M ≤ (F a g).2 ∧ (F a g).2 ≤ M) (hN : N ≤ 200) (hn : n ≤ 200) (ho : o ≤ 8) (hm : o + m = N) (hm1 : 1 ≤ m) :
    Calls Try.prog 22 #[.slice (some ⟨A, 0, none⟩) N cap, .int .i64 o] W (XO W N n o m F) := by
  obtain ⟨ti, hc⟩ := h.ti
  have hNn : N * n ≤ 200 * 200 := Nat.mul_le_mul hN hn
  refine (t22 ti hc (by omega) (by omega) (by omega) (by omega) hm hm1).mono fun e w' hz => ?_
  obtain ⟨AX, BX, DX, he, k1, k2, k3⟩ := hz
  refine ⟨AX, BX, he, fun a ha => k1.out.hdr a ha, fun a g ha hg => ⟨_, _, k1.out.cell ha hg, ?_⟩, k2⟩
  have q := k3.out a ha g hg
  have r := dk_wh (G := fun a g => ab2 (D a)[g]!) (F := F) (N := N) (g := g) hM hM2 (fun b hb => hv b hb g hg) (fun b => h1 b g) (fun b => h2 b g) o ho a ha
  rw [← q] at r
  exact r
/-- All that is compared, out of what was made. -/
theorem zs_of {w W0 W1 W2 W3 wr W6 : World} {A1 cap1 AX AY wb N n o : Nat} {P1 : Nat → Option Addr} {C1 : Nat → Nat} {D1 : Nat → List (Nat × Nat)} {BX BY : Nat → Nat} {f : Nat → Nat → Int × Int} {m : Int × Int} (u0 : Up w W0) (ht : TT W0 W1 (.slice (some ⟨A1, 0, none⟩) N cap1) n N P1 C1 D1) (hv : ∀ a, a < N → ∀ g, g < n → (D1 a)[g]! = wv (f a g)) (hw : ∀ j, j ≤ o → W2.cell? ⟨wb, j, none⟩ = some (.int .i64 (wgt o j))) (u2 : Up W1 W2)
    (x1 : ∀ a, a < N → W3.cell? ⟨AX, a, none⟩ = some (.slice (some ⟨BX a, 0, none⟩) n n)) (x2 : ∀ a g, a < N → g < n → ∃ x y, W3.cell? ⟨BX a, g, none⟩ = some (.complex .f64 x y) ∧ WH2 (ab x, ab y) (zk (fun b => (cutZ (f b g)).1) o a, zk (fun b => (cutZ (f b g)).2) o a)) (u3 : Up W2 W3) (u4 : Up W3 wr)
    (y1 : ∀ a, a < N → W6.cell? ⟨AY, a, none⟩ = some (.slice (some ⟨BY a, 0, none⟩) n n)) (y2 : ∀ a g, a < N → g < n → ∃ x y, W6.cell? ⟨BY a, g, none⟩ = some (.complex .f64 x y) ∧ WH2 (ab x, ab y) (zk (fun b => (cutZ (f b g)).1 + m.1) o a, zk (fun b => (cutZ (f b g)).2 + m.2) o a)) (u6 : Up wr W6) :
    ZS w W6 A1 AX AY wb N n o P1 C1 BX BY (fun a g => cutZ (f a g)) := by
  have v3 : Up W3 W6 := u4.trans u6
  have v2 : Up W2 W6 := u3.trans v3
  have v1 : Up W1 W6 := u2.trans v2
  refine ⟨fun a ha => cell_up (ht.hdr ha) v1, fun a g ha hg => ?_, fun a ha => cell_up (x1 a ha) v3, fun a g ha hg => ?_, y1, fun a g h0 h1 ha hg => ?_, fun j hj => cell_up (hw j hj) v2, (u0.trans ht.up).trans v1⟩
  · refine ⟨_, _, ht.at_ ha (by omega), cell_up (ht.cell ha hg) v1, ?_⟩
    have := wv_wh (f a g)
    rw [← hv a ha g hg] at this
    exact this
  · obtain ⟨x, y, h1, h2⟩ := x2 a g ha hg
    exact ⟨x, y, cell_up h1 v3, h2⟩
  · obtain ⟨x, y, k1, k2⟩ := y2 a g ha hg
    rw [zk_more (F := fun b => (cutZ (f b g)).1) (m := m.1) (fun _ => rfl) o a h1, zk_more (F := fun b => (cutZ (f b g)).2) (m := m.2) (fun _ => rfl) o a h1, if_neg (by omega), if_neg (by omega), Int.add_zero, Int.add_zero] at k2
    exact ⟨x, y, k1, k2⟩
/-- One step of the weighed sum, its values told. -/
theorem ws_step {o p n : Nat} {F : Nat → Int} {s t : Nat} (ho : o ≤ 8) (hn : n ≤ o) (h : ∀ a, -549755813888 ≤ F a ∧ F a ≤ 549755813888) (hs : WH (ab s) (ws (wgt o) F p n)) (ht : WH (ab t) (F (p + n))) : ∃ u v, bin .mul (ab (floatOfInt .f64 (wgt o n))) (ab t) = some u ∧ bin .add (ab s) (ab u) = some v ∧ WH (ab v) (ws (wgt o) F p (n + 1)) := by
  have b := wgt_small o (by omega) n (by omega)
  have c : (wgt o n * F (p + n)).natAbs ≤ 70 * 549755813888 := by
    rw [Int.natAbs_mul]
    exact Nat.mul_le_mul (by omega) (by have := h (p + n); omega)
  have e : WH (ab (floatOfInt .f64 (wgt o n))) (wgt o n) := WH.int (by unfold P53; omega) (by unfold P53; omega)
  obtain ⟨u, hu, fu, vu⟩ := e.mul ht (by unfold P53; omega) (by unfold P53; omega)
  have r := ws_next (M := 549755813888) (by omega) (by omega) (fun a => by have := h a; omega) (by omega) hs ht rfl
  obtain ⟨v, hv, fv, vv⟩ := r
  exact ⟨u, v, hu, by rw [← hv, hu, Fnt.ab fu], v, Fnt.ab fv, fv, vv⟩
end Go.Proofs.Ytgalgnopjcpocaa
