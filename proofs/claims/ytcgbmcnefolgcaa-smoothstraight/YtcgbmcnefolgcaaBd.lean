/- Line, the program's. -/
import Derived.Test.YtcgbmcnefolgcaaBc
import Derived.Deep.CutRange
namespace Go.Proofs.Ytcgbmcnefolgcaa
open Go.ChangeShapes Go.WideShapes Go.ChangeAt Go.RowKit Go.Fl Go.Sort
attribute [local go_sem] run_store_float call22 call54 run_neg fold_eq fold_ne fold_lt fold_gt abs_eq

/-- The mean of a row. -/
def mtF (d : Array Nat) : Option Nat := bin .quo (sumD d) (ab (floatOfInt .f64 (d.size : Int)))
def sxxF (t : Array Nat) : Option Nat := sumN (fun i => sqF (ab t[i]!) (mtF t)) t.size
def sxyF (t x : Array Nat) : Option Nat := sumN (fun i => crF (ab t[i]!) (mtF t) (ab x[i]!) (mtF x)) t.size
def spdF (t x : Array Nat) : Option Nat := bin .quo (sxyF t x) (sxxF t)
def atF (t x : Array Nat) : Option Nat := bin .sub (mtF x) (bin .mul (spdF t x) (mtF t))
/-- Which error Line tells. -/
def linE (t x : Array Nat) : Int :=
  if lenE t.size x.size = 0 then (if t.size < 2 then 2 else if (finL t && finL x) = true then (if eqF (sxxF t) (ab 0) = true then 6 else if (fin (spdF t x) && fin (atF t x)) = true then 0 else 6) else 6) else lenE t.size x.size
def linA (t x : Array Nat) : Option Nat := if linE t x = 0 then atF t x else ab 0
def linS (t x : Array Nat) : Option Nat := if linE t x = 0 then spdF t x else ab 0
def LnR (w : World) (t x : Array Nat) (e : Ending) (w' : World) : Prop := ∃ a s, e = .returned (.tuple #[.float .f64 a, .float .f64 s, .int .i64 (linE t x)]) ∧ Hid (ab a = linA t x ∧ ab s = linS t x) ∧ Hid (Up w w')
theorem LnR.bad {w w' : World} {t x : Array Nat} {c : Int} (h : linE t x = c) (hc : c ≠ 0) (hu : Up w w') : LnR w t x (.returned (.tuple #[.float .f64 0, .float .f64 0, .int .i64 c])) w' :=
  ⟨0, 0, by rw [h], ⟨by unfold linA; rw [h, if_neg hc], by unfold linS; rw [h, if_neg hc]⟩, hu⟩
theorem eg39 (args : Array Value) (w : World) : (callFunc 39 args).run Try.prog w = .ok (.enter 39 args) w := enters Try.func39 (by kernel_rfl) (by kernel_rfl) _ _
theorem eg40 (args : Array Value) (w : World) : (callFunc 40 args).run Try.prog w = .ok (.enter 40 args) w := enters Try.func40 (by kernel_rfl) (by kernel_rfl) _ _
theorem eg41 (args : Array Value) (w : World) : (callFunc 41 args).run Try.prog w = .ok (.enter 41 args) w := enters Try.func41 (by kernel_rfl) (by kernel_rfl) _ _
theorem eg42 (args : Array Value) (w : World) : (callFunc 42 args).run Try.prog w = .ok (.enter 42 args) w := enters Try.func42 (by kernel_rfl) (by kernel_rfl) _ _
/-- Two lists in boxes. -/
structure BX (W : World) (g q : Nat) (p p2 : Option Addr) (n cap m cap2 : Nat) (d d2 : Array Nat) : Prop where
  sv : SV W p n cap d
  sx : SV W p2 m cap2 d2
  ct : W.cell? ⟨g, 0, none⟩ = some (.slice p n cap)
  cx : W.cell? ⟨q, 0, none⟩ = some (.slice p2 m cap2)
theorem BX.up {W W' : World} {g q : Nat} {p p2 : Option Addr} {n cap m cap2 : Nat} {d d2 : Array Nat} (h : BX W g q p p2 n cap m cap2 d d2) (hu : Up W W') : BX W' g q p p2 n cap m cap2 d d2 := ⟨h.sv.up hu, h.sx.up hu, up_cell hu h.ct, up_cell hu h.cx⟩
theorem BX.new {w : World} {p p2 : Option Addr} {n cap m cap2 : Nat} {d d2 : Array Nat} (h : SV w p n cap d) (h2 : SV w p2 m cap2 d2) : BX ((w.alloc (.cells #[.slice p n cap] 23)).alloc (.cells #[.slice p2 m cap2] 23)) w.heap.size (w.heap.size + 1) p p2 n cap m cap2 d d2 := by
  refine ⟨h.up (Up.alloc2 _ _ _), h2.up (Up.alloc2 _ _ _), ?_, ?_⟩
  · exact up_cell (Up.alloc _ _) (box_cell w (.slice p n cap) 23 0)
  · rw [← World.size_alloc w (.cells #[.slice p n cap] 23)]
    exact box_cell (w.alloc (.cells #[.slice p n cap] 23)) (.slice p2 m cap2) 23 0
theorem BX.v39 {W : World} {g q : Nat} {p p2 : Option Addr} {n cap m cap2 : Nat} {d d2 : Array Nat} (h : BX W g q p p2 n cap m cap2 d d2) (hn : n ≤ 1000000) : ∀ i, i < n → ∀ k, Calls Try.prog 39 (#[.int .i64 i] ++ #[.pointer (some ⟨g, 0, none⟩)]) (W.drewN k) (FR (W.drewN k) (ab d[i]!)) := fun i hi k => by
  have h' := h.up (Up.drewN W k)
  exact t39 h'.sv h'.ct hi hn
theorem BX.v40 {W : World} {g q : Nat} {p p2 : Option Addr} {n cap m cap2 : Nat} {d d2 : Array Nat} (h : BX W g q p p2 n cap m cap2 d d2) (hn : m ≤ 1000000) : ∀ i, i < m → ∀ k, Calls Try.prog 40 (#[.int .i64 i] ++ #[.pointer (some ⟨q, 0, none⟩)]) (W.drewN k) (FR (W.drewN k) (ab d2[i]!)) := fun i hi k => by
  have h' := h.up (Up.drewN W k)
  exact t40 h'.sx h'.cx hi hn
theorem BX.v41 {W : World} {g q : Nat} {p p2 : Option Addr} {n cap m cap2 : Nat} {d d2 : Array Nat} (h : BX W g q p p2 n cap m cap2 d d2) (hn : n ≤ 1000000) {gm mm : Nat} (hm : W.cell? ⟨gm, 0, none⟩ = some (.float .f64 mm)) : ∀ i, i < n → ∀ k, Calls Try.prog 41 (#[.int .i64 i] ++ #[.pointer (some ⟨g, 0, none⟩), .pointer (some ⟨gm, 0, none⟩)]) (W.drewN k) (FR (W.drewN k) (sqF (ab d[i]!) (ab mm))) := fun i hi k => by
  have h' := h.up (Up.drewN W k)
  exact t41 h'.sv h'.ct (up_cell (Up.drewN W k) hm) hi hn
theorem BX.v42 {W : World} {g q : Nat} {p p2 : Option Addr} {n cap cap2 : Nat} {d d2 : Array Nat} (h : BX W g q p p2 n cap n cap2 d d2) (hn : n ≤ 1000000) {gm mm qm kk : Nat} (hm : W.cell? ⟨gm, 0, none⟩ = some (.float .f64 mm)) (hk : W.cell? ⟨qm, 0, none⟩ = some (.float .f64 kk)) : ∀ i, i < n → ∀ k, Calls Try.prog 42 (#[.int .i64 i] ++ #[.pointer (some ⟨g, 0, none⟩), .pointer (some ⟨gm, 0, none⟩), .pointer (some ⟨q, 0, none⟩), .pointer (some ⟨qm, 0, none⟩)]) (W.drewN k) (FR (W.drewN k) (crF (ab d[i]!) (ab mm) (ab d2[i]!) (ab kk))) := fun i hi k => by
  have h' := h.up (Up.drewN W k)
  exact t42 h'.sv h'.ct (up_cell (Up.drewN W k) hm) h'.sx h'.cx (up_cell (Up.drewN W k) hk) hi hn
theorem box_new (w : World) (v : Value) (t : TypeId) (k : Nat) : ((w.drewN k).alloc (.cells #[v] t)).cell? ⟨w.heap.size, 0, none⟩ = some v ∧ ((w.drewN k).alloc (.cells #[v] t)).frozen? ⟨w.heap.size, 0, none⟩ = false := by
  refine ⟨box_cell (w.drewN k) v t 0, ?_⟩
  have e := heap_alloc_last (w.drewN k) (.cells #[v] t)
  have e' : ((w.drewN k).alloc (.cells #[v] t)).heap[w.heap.size]? = some (.cells #[v] t) := e
  unfold World.frozen?
  simp only [e']
  rfl
/-- A box that was written. -/
theorem box_put {w0 w : World} (hu : Up w0 w) (v u : Value) (t : TypeId) (k : Nat) : Up w0 (((w.drewN k).alloc (.cells #[v] t)).setCell ⟨w.heap.size, 0, none⟩ u) ∧ (((w.drewN k).alloc (.cells #[v] t)).setCell ⟨w.heap.size, 0, none⟩ u).cell? ⟨w.heap.size, 0, none⟩ = some u := by
  have e := heap_alloc_last (w.drewN k) (.cells #[v] t)
  have e' : ((w.drewN k).alloc (.cells #[v] t)).heap[w.heap.size]? = some (.cells #[v] t) := e
  refine ⟨Up.cell (hu.trans ((Up.drewN _ _).trans (Up.alloc _ _))) (RowKit.Below.size hu) 0 u, ?_⟩
  have h0 := heap_setCell_same _ _ 0 _ _ u e'
  unfold World.cell?
  simp only [h0]
  rfl
theorem t15len {w : World} {p p2 : Option Addr} {n cap m cap2 : Nat} {d d2 : Array Nat} (h : SV w p n cap d) (h2 : SV w p2 m cap2 d2) (hE : lenE n m ≠ 0) : Calls Try.prog 15 #[.slice p n cap, .slice p2 m cap2] w (LnR w d d2) := by
  have HU : Hid (Up w ((w.alloc (.cells #[.slice p n cap] 23)).alloc (.cells #[.slice p2 m cap2] 23))) := Up.alloc2 _ _ _
  obtain ⟨_, _, g0, g1⟩ := BX.new h h2
  have HL : Hid (linE d d2 = lenE n m) := by show _ = _; unfold linE; rw [h.len, h2.len, if_neg hE]
  obtain ⟨c, hc⟩ : ∃ c, lenE n m = c := ⟨_, rfl⟩
  have C36 : Hid (∀ w, Calls Try.prog 36 #[.slice p n cap, .slice p2 m cap2] w fun e w' => e = .returned (.int .i64 c) ∧ w' = w) := fun w => hc ▸ t36 _ _ _ _ _ _ w
  rw [hc] at hE HL
  have b0 : (c == 0) = false := beq_false_of_ne hE
  clear h h2 hc
  go_enter Try.func15, Try.ntmps15
  go_wp2_with (go_at_call 36; (with_reducible refine (C36.out _).mono ?_); rintro e w' ⟨rfl, rfl⟩)
  go_ret3
  exact LnR.bad HL.out hE HU.out
theorem lenE0 {n m : Nat} (h : lenE n m = 0) : n = m ∧ n ≤ 1024 := by
  unfold lenE at h
  split at h
  · split at h
    · cases h
    · omega
  · cases h
theorem t15few {w : World} {p p2 : Option Addr} {n cap m cap2 : Nat} {d d2 : Array Nat} (h : SV w p n cap d) (h2 : SV w p2 m cap2 d2) (hE : lenE n m = 0) (h1 : n < 2) : Calls Try.prog 15 #[.slice p n cap, .slice p2 m cap2] w (LnR w d d2) := by
  have HU : Hid (Up w ((w.alloc (.cells #[.slice p n cap] 23)).alloc (.cells #[.slice p2 m cap2] 23))) := Up.alloc2 _ _ _
  obtain ⟨_, _, g0, g1⟩ := BX.new h h2
  have HL : Hid (linE d d2 = 2) := by show _ = _; unfold linE; rw [h.len, h2.len, if_pos hE, if_pos h1]
  have C36 : Hid (∀ w, Calls Try.prog 36 #[.slice p n cap, .slice p2 m cap2] w fun e w' => e = .returned (.int .i64 0) ∧ w' = w) := fun w => hE ▸ t36 _ _ _ _ _ _ w
  have z1 : (n : Int) < 2 := by omega
  clear h h2 hE
  go_enter Try.func15, Try.ntmps15
  go_wp2_with (go_at_call 36; (with_reducible refine (C36.out _).mono ?_); rintro e w' ⟨rfl, rfl⟩)
  go_ret3
  exact LnR.bad HL.out (by decide) HU.out
theorem t15fin {w : World} {p p2 : Option Addr} {n cap m cap2 : Nat} {d d2 : Array Nat} (h : SV w p n cap d) (h2 : SV w p2 m cap2 d2) (hE : lenE n m = 0) (h1 : ¬ n < 2) (hF : (finL d && finL d2) = false) : Calls Try.prog 15 #[.slice p n cap, .slice p2 m cap2] w (LnR w d d2) := by
  have HU : Hid (Up w ((w.alloc (.cells #[.slice p n cap] 23)).alloc (.cells #[.slice p2 m cap2] 23))) := Up.alloc2 _ _ _
  obtain ⟨s1, s2, g0, g1⟩ := BX.new h h2
  have S1 : Hid _ := s1
  have S2 : Hid _ := s2
  have HL : Hid (linE d d2 = 6) := by show _ = _; unfold linE; rw [h.len, h2.len, if_pos hE, if_neg h1, hF]; rfl
  have C36 : Hid (∀ w, Calls Try.prog 36 #[.slice p n cap, .slice p2 m cap2] w fun e w' => e = .returned (.int .i64 0) ∧ w' = w) := fun w => hE ▸ t36 _ _ _ _ _ _ w
  obtain ⟨e1, e2⟩ := lenE0 hE
  have z1 : ¬ (n : Int) < 2 := by omega
  have Z2 : Hid (n ≤ 1000000 ∧ m ≤ 1000000) := ⟨by omega, by omega⟩
  clear h h2 hE s1 s2 e1
  cases f1 : finL d
  · go_enter Try.func15, Try.ntmps15
    go_wp2_with (first | (go_at_call 36; (with_reducible refine (C36.out _).mono ?_); rintro e w' ⟨rfl, rfl⟩) | (go_at_call 37; (with_reducible refine (t37 S1.out Z2.out.1).mono ?_); rintro e w' ⟨rfl, rfl⟩; rw [f1]))
    go_ret3
    exact LnR.bad HL.out (by decide) HU.out
  · have f2 : finL d2 = false := by rw [f1] at hF; simpa using hF
    go_enter Try.func15, Try.ntmps15
    go_wp2_with (first | (go_at_call 36; (with_reducible refine (C36.out _).mono ?_); rintro e w' ⟨rfl, rfl⟩) | (go_at_call 37; (with_reducible refine (t37 S1.out Z2.out.1).mono ?_); rintro e w' ⟨rfl, hw⟩; subst w'; rw [f1]) | (go_at_call 37; (with_reducible refine (t37 S2.out Z2.out.2).mono ?_); rintro e w' ⟨rfl, hw⟩; subst w'; rw [f2]))
    go_ret3
    exact LnR.bad HL.out (by decide) HU.out
theorem mt_of {d : Array Nat} {n r m : Nat} (hl : d.size = n) (H : ab r = sumN (fun i => ab d[i]!) n) (M : ab m = bin .quo (ab r) (ab (floatOfInt .f64 (n : Int)))) : ab m = mtF d := by
  subst hl
  rw [M, H]; rfl
set_option maxHeartbeats 4000000 in
theorem t15z {w : World} {p p2 : Option Addr} {n cap m cap2 : Nat} {d d2 : Array Nat} (h : SV w p n cap d) (h2 : SV w p2 m cap2 d2) (hE : lenE n m = 0) (h1 : ¬ n < 2) (hF : finL d = true) (hF2 : finL d2 = true) (hx : eqF (sxxF d) (ab 0) = true) : Calls Try.prog 15 #[.slice p n cap, .slice p2 m cap2] w (LnR w d d2) := by
  have HL0 : Hid (linE d d2 = 6) := by show _ = _; unfold linE; rw [h.len, h2.len, if_pos hE, if_neg h1, hF, hF2, hx]; rfl
  obtain ⟨e1, e2⟩ := lenE0 hE
  subst e1
  have HU : Hid (Up w ((w.alloc (.cells #[.slice p n cap] 23)).alloc (.cells #[.slice p2 n cap2] 23))) := Up.alloc2 _ _ _
  have B : Hid (BX ((w.alloc (.cells #[.slice p n cap] 23)).alloc (.cells #[.slice p2 n cap2] 23)) w.heap.size (w.heap.size + 1) p p2 n cap n cap2 d d2) := BX.new h h2
  obtain ⟨_, _, g0, g1⟩ := B.out
  have C36 : Hid (∀ w, Calls Try.prog 36 #[.slice p n cap, .slice p2 n cap2] w fun e w' => e = .returned (.int .i64 0) ∧ w' = w) := fun w => hE ▸ t36 _ _ _ _ _ _ w
  have z1 : ¬ (n : Int) < 2 := by omega
  have Z2 : Hid (n ≤ 1000000 ∧ 0 < n) := ⟨by omega, by omega⟩
  have HL : Hid (d.size = n ∧ d2.size = n) := ⟨h.len, h2.len⟩
  have HX : Hid (eqF (sxxF d) (ab 0) = true) := hx
  clear h h2 hE hx
  go_enter Try.func15, Try.ntmps15
  go_wp2_with fail
  generalize (w.alloc (.cells #[.slice p n cap] 23)).alloc (.cells #[.slice p2 n cap2] 23) = W at *
  generalize w.heap.size + 1 = q at *
  generalize w.heap.size = g at *
  go_upto_region 10 with (first
    | (go_at_call 36; (with_reducible refine (C36.out _).mono ?_); rintro e w' ⟨rfl, hw⟩; subst w')
    | (go_at_call 37; (with_reducible refine (t37 B.out.sv Z2.out.1).mono ?_); rintro e w' ⟨rfl, hw⟩; subst w'; rw [hF])
    | (go_at_call 37; (with_reducible refine (t37 B.out.sx Z2.out.1).mono ?_); rintro e w' ⟨rfl, hw⟩; subst w'; rw [hF2])
    | (go_at_call 38; (with_reducible refine (t38 (fg := 39) Z2.out.2 Z2.out.1 (B.out.v39 Z2.out.1) eg39).mono ?_); rintro e w1 ⟨r1, n1, rfl, hw1, H1⟩; (have U1 : Hid (Up W w1) := hw1 ▸ Up.drewN _ _); clear hw1)
    | ((with_reducible refine upon_fl (op := .quo) (x := r1) (by simp) ?_); intro m1 k1 M1; obtain ⟨x1, y1⟩ := box_new w1 (.float .f64 0) 24 k1))
  obtain ⟨u2, d1⟩ := box_put U1.out (.float .f64 0) (.float .f64 m1) 24 k1
  have N1 : Hid (ab m1 = mtF d) := mt_of HL.out.1 H1.out M1.out
  clear x1 y1 U1 M1 H1
  generalize ((w1.drewN k1).alloc (.cells #[.float .f64 0] 24)).setCell ⟨w1.heap.size, 0, none⟩ (.float .f64 m1) = W2 at *
  generalize w1.heap.size = gm at *
  have B2 : Hid (BX W2 g q p p2 n cap n cap2 d d2) := B.out.up u2
  have U2 : Hid (Up w W2) := HU.out.trans u2
  have D1 : Hid (W2.cell? ⟨gm, 0, none⟩ = some (.float .f64 m1)) := d1
  clear u2 B HU d1 g0 g1
  obtain ⟨_, _, g0, g1⟩ := B2.out
  go_upto_region 11 with (first
    | (go_at_call 38; (with_reducible refine (t38 (fg := 40) Z2.out.2 Z2.out.1 (B2.out.v40 Z2.out.1) eg40).mono ?_); rintro e w3 ⟨r2, n2, rfl, hw1, H2⟩; (have U3 : Hid (Up W2 w3) := hw1 ▸ Up.drewN _ _); clear hw1)
    | ((with_reducible refine upon_fl (op := .quo) (x := r2) (by simp) ?_); intro m2 k2 M2; obtain ⟨x1, y1⟩ := box_new w3 (.float .f64 0) 24 k2))
  obtain ⟨u4, d2'⟩ := box_put U3.out (.float .f64 0) (.float .f64 m2) 24 k2
  have N2 : Hid (ab m2 = mtF d2) := mt_of HL.out.2 H2.out M2.out
  clear x1 y1 U3 M2 H2
  generalize ((w3.drewN k2).alloc (.cells #[.float .f64 0] 24)).setCell ⟨w3.heap.size, 0, none⟩ (.float .f64 m2) = W4 at *
  generalize w3.heap.size = qm at *
  have B4 : Hid (BX W4 g q p p2 n cap n cap2 d d2) := B2.out.up u4
  have U4 : Hid (Up w W4) := U2.out.trans u4
  have D1' : Hid (W4.cell? ⟨gm, 0, none⟩ = some (.float .f64 m1)) := up_cell u4 D1.out
  have D2 : Hid (W4.cell? ⟨qm, 0, none⟩ = some (.float .f64 m2)) := d2'
  clear u4 B2 U2 d2' D1 g0 g1
  obtain ⟨_, _, g0, g1⟩ := B4.out
  go_upto_region 12 with (first
    | (go_at_call 38; (with_reducible refine (t38 (fg := 41) Z2.out.2 Z2.out.1 (B4.out.v41 Z2.out.1 D1'.out) eg41).mono ?_); rintro e w5 ⟨r3, n3, rfl, hw1, H3⟩; (have U5 : Hid (Up W4 w5) := hw1 ▸ Up.drewN _ _); clear hw1; (have B5 : Hid (BX W4 g q p p2 n cap n cap2 d d2) := B4))
    | fail)
  have N3 : Hid (ab r3 = sxxF d) := by show _ = _; unfold sxxF; rw [H3.out, HL.out.1]; exact sumN_congr _ fun i _ => by rw [N1.out]
  have z3 : eqF (ab r3) (ab 0) = true := by rw [N3.out]; exact HX.out
  have B6 : Hid (BX w5 g q p p2 n cap n cap2 d d2) := B4.out.up U5.out
  have D1'' : Hid (w5.cell? ⟨gm, 0, none⟩ = some (.float .f64 m1)) := up_cell U5.out D1'.out
  have D2' : Hid (w5.cell? ⟨qm, 0, none⟩ = some (.float .f64 m2)) := up_cell U5.out D2.out
  have U6 : Hid (Up w w5) := U4.out.trans U5.out
  clear B4 B5 D1' D2 U4 U5 g0 g1 H3
  obtain ⟨_, _, g0, g1⟩ := B6.out
  go_wp2_with (first
    | (go_at_call 38; (with_reducible refine (t38 (fg := 42) Z2.out.2 Z2.out.1 (B6.out.v42 Z2.out.1 D1''.out D2'.out) eg42).mono ?_); rintro e w7 ⟨r4, n4, rfl, hw1, H4⟩; (have U7 : Hid (Up w5 w7) := hw1 ▸ Up.drewN _ _); clear hw1; (have U8 : Hid (Up w w7) := U6.out.trans U7.out); (have f1 := up_cell U7.out D1''.out); (have f2 := up_cell U7.out D2'.out)))
  go_ret3
  exact LnR.bad HL0.out (by decide) U8.out
set_option maxHeartbeats 4000000 in
theorem t15s {w : World} {p p2 : Option Addr} {n cap m cap2 : Nat} {d d2 : Array Nat} (h : SV w p n cap d) (h2 : SV w p2 m cap2 d2) (hE : lenE n m = 0) (h1 : ¬ n < 2) (hF : finL d = true) (hF2 : finL d2 = true) (hx : eqF (sxxF d) (ab 0) = false) (hs : fin (spdF d d2) = false) : Calls Try.prog 15 #[.slice p n cap, .slice p2 m cap2] w (LnR w d d2) := by
  have HL0 : Hid (linE d d2 = 6) := by show _ = _; unfold linE; rw [h.len, h2.len, if_pos hE, if_neg h1, hF, hF2, hx, hs]; rfl
  obtain ⟨e1, e2⟩ := lenE0 hE
  subst e1
  have HU : Hid (Up w ((w.alloc (.cells #[.slice p n cap] 23)).alloc (.cells #[.slice p2 n cap2] 23))) := Up.alloc2 _ _ _
  have B : Hid (BX ((w.alloc (.cells #[.slice p n cap] 23)).alloc (.cells #[.slice p2 n cap2] 23)) w.heap.size (w.heap.size + 1) p p2 n cap n cap2 d d2) := BX.new h h2
  obtain ⟨_, _, g0, g1⟩ := B.out
  have C36 : Hid (∀ w, Calls Try.prog 36 #[.slice p n cap, .slice p2 n cap2] w fun e w' => e = .returned (.int .i64 0) ∧ w' = w) := fun w => hE ▸ t36 _ _ _ _ _ _ w
  have z1 : ¬ (n : Int) < 2 := by omega
  have Z2 : Hid (n ≤ 1000000 ∧ 0 < n) := ⟨by omega, by omega⟩
  have HL : Hid (d.size = n ∧ d2.size = n) := ⟨h.len, h2.len⟩
  have HX : Hid (eqF (sxxF d) (ab 0) = false) := hx
  have HS : Hid (fin (spdF d d2) = false) := hs
  clear h h2 hE hx hs
  go_enter Try.func15, Try.ntmps15
  go_wp2_with fail
  generalize (w.alloc (.cells #[.slice p n cap] 23)).alloc (.cells #[.slice p2 n cap2] 23) = W at *
  generalize w.heap.size + 1 = q at *
  generalize w.heap.size = g at *
  go_upto_region 10 with (first
    | (go_at_call 36; (with_reducible refine (C36.out _).mono ?_); rintro e w' ⟨rfl, hw⟩; subst w')
    | (go_at_call 37; (with_reducible refine (t37 B.out.sv Z2.out.1).mono ?_); rintro e w' ⟨rfl, hw⟩; subst w'; rw [hF])
    | (go_at_call 37; (with_reducible refine (t37 B.out.sx Z2.out.1).mono ?_); rintro e w' ⟨rfl, hw⟩; subst w'; rw [hF2])
    | (go_at_call 38; (with_reducible refine (t38 (fg := 39) Z2.out.2 Z2.out.1 (B.out.v39 Z2.out.1) eg39).mono ?_); rintro e w1 ⟨r1, n1, rfl, hw1, H1⟩; (have U1 : Hid (Up W w1) := hw1 ▸ Up.drewN _ _); clear hw1)
    | ((with_reducible refine upon_fl (op := .quo) (x := r1) (by simp) ?_); intro m1 k1 M1; obtain ⟨x1, y1⟩ := box_new w1 (.float .f64 0) 24 k1))
  obtain ⟨u2, d1⟩ := box_put U1.out (.float .f64 0) (.float .f64 m1) 24 k1
  have N1 : Hid (ab m1 = mtF d) := mt_of HL.out.1 H1.out M1.out
  clear x1 y1 U1 M1 H1
  generalize ((w1.drewN k1).alloc (.cells #[.float .f64 0] 24)).setCell ⟨w1.heap.size, 0, none⟩ (.float .f64 m1) = W2 at *
  generalize w1.heap.size = gm at *
  have B2 : Hid (BX W2 g q p p2 n cap n cap2 d d2) := B.out.up u2
  have U2 : Hid (Up w W2) := HU.out.trans u2
  have D1 : Hid (W2.cell? ⟨gm, 0, none⟩ = some (.float .f64 m1)) := d1
  clear u2 B HU d1 g0 g1
  obtain ⟨_, _, g0, g1⟩ := B2.out
  go_upto_region 11 with (first
    | (go_at_call 38; (with_reducible refine (t38 (fg := 40) Z2.out.2 Z2.out.1 (B2.out.v40 Z2.out.1) eg40).mono ?_); rintro e w3 ⟨r2, n2, rfl, hw1, H2⟩; (have U3 : Hid (Up W2 w3) := hw1 ▸ Up.drewN _ _); clear hw1)
    | ((with_reducible refine upon_fl (op := .quo) (x := r2) (by simp) ?_); intro m2 k2 M2; obtain ⟨x1, y1⟩ := box_new w3 (.float .f64 0) 24 k2))
  obtain ⟨u4, d2'⟩ := box_put U3.out (.float .f64 0) (.float .f64 m2) 24 k2
  have N2 : Hid (ab m2 = mtF d2) := mt_of HL.out.2 H2.out M2.out
  clear x1 y1 U3 M2 H2
  generalize ((w3.drewN k2).alloc (.cells #[.float .f64 0] 24)).setCell ⟨w3.heap.size, 0, none⟩ (.float .f64 m2) = W4 at *
  generalize w3.heap.size = qm at *
  have B4 : Hid (BX W4 g q p p2 n cap n cap2 d d2) := B2.out.up u4
  have U4 : Hid (Up w W4) := U2.out.trans u4
  have D1' : Hid (W4.cell? ⟨gm, 0, none⟩ = some (.float .f64 m1)) := up_cell u4 D1.out
  have D2 : Hid (W4.cell? ⟨qm, 0, none⟩ = some (.float .f64 m2)) := d2'
  clear u4 B2 U2 d2' D1 g0 g1
  obtain ⟨_, _, g0, g1⟩ := B4.out
  go_upto_region 12 with (first
    | (go_at_call 38; (with_reducible refine (t38 (fg := 41) Z2.out.2 Z2.out.1 (B4.out.v41 Z2.out.1 D1'.out) eg41).mono ?_); rintro e w5 ⟨r3, n3, rfl, hw1, H3⟩; (have U5 : Hid (Up W4 w5) := hw1 ▸ Up.drewN _ _); clear hw1; (have B5 : Hid (BX W4 g q p p2 n cap n cap2 d d2) := B4))
    | fail)
  have N3 : Hid (ab r3 = sxxF d) := by show _ = _; unfold sxxF; rw [H3.out, HL.out.1]; exact sumN_congr _ fun i _ => by rw [N1.out]
  have z3 : eqF (ab r3) (ab 0) = false := by rw [N3.out]; exact HX.out
  have B6 : Hid (BX w5 g q p p2 n cap n cap2 d d2) := B4.out.up U5.out
  have D1'' : Hid (w5.cell? ⟨gm, 0, none⟩ = some (.float .f64 m1)) := up_cell U5.out D1'.out
  have D2' : Hid (w5.cell? ⟨qm, 0, none⟩ = some (.float .f64 m2)) := up_cell U5.out D2.out
  have U6 : Hid (Up w w5) := U4.out.trans U5.out
  clear B4 B5 D1' D2 U4 U5 g0 g1 H3
  obtain ⟨_, _, g0, g1⟩ := B6.out
  go_wp2_with (first
    | (go_at_call 38; (with_reducible refine (t38 (fg := 42) Z2.out.2 Z2.out.1 (B6.out.v42 Z2.out.1 D1''.out D2'.out) eg42).mono ?_); rintro e w7 ⟨r4, n4, rfl, hw1, H4⟩; (have U7 : Hid (Up w5 w7) := hw1 ▸ Up.drewN _ _); clear hw1; (have U8 : Hid (Up w w7) := U6.out.trans U7.out); (have f1 := up_cell U7.out D1''.out); (have f2 := up_cell U7.out D2'.out))
    | ((with_reducible refine upon_fl (op := .quo) (x := r4) (by simp) ?_); intro s5 k5 M5)
    | ((with_reducible refine upon_fl (op := .mul) (x := s5) (by simp) ?_); intro s6 k6 M6)
    | ((with_reducible refine upon_fl (op := .sub) (by simp) ?_); intro s7 k7 M7
       have N4 : Hid (ab r4 = sxyF d d2) := (by show _ = _; unfold sxyF; rw [H4.out, HL.out.1]; exact sumN_congr _ fun i _ => by rw [N1.out, N2.out])
       have N5 : Hid (ab s5 = spdF d d2) := (by show _ = _; unfold spdF; rw [M5.out, N4.out, N3.out])
       have N7 : Hid (ab s7 = atF d d2) := (by show _ = _; unfold atF; rw [M7.out, M6.out, N5.out, N1.out, N2.out])
       clear M5 M6 M7 N4 H4)
    | (go_at_call 43; (with_reducible refine (t43 s5 _).mono ?_); rintro e w' ⟨rfl, hw⟩; subst w'; rw [N5.out, HS.out]))
  go_ret3
  exact LnR.bad HL0.out (by decide) (U8.out.dr _)
set_option maxHeartbeats 4000000 in
theorem t15a {w : World} {p p2 : Option Addr} {n cap m cap2 : Nat} {d d2 : Array Nat} (h : SV w p n cap d) (h2 : SV w p2 m cap2 d2) (hE : lenE n m = 0) (h1 : ¬ n < 2) (hF : finL d = true) (hF2 : finL d2 = true) (hx : eqF (sxxF d) (ab 0) = false) (hs : fin (spdF d d2) = true) (ha : fin (atF d d2) = false) : Calls Try.prog 15 #[.slice p n cap, .slice p2 m cap2] w (LnR w d d2) := by
  have HL0 : Hid (linE d d2 = 6) := by show _ = _; unfold linE; rw [h.len, h2.len, if_pos hE, if_neg h1, hF, hF2, hx, hs, ha]; rfl
  obtain ⟨e1, e2⟩ := lenE0 hE
  subst e1
  have HU : Hid (Up w ((w.alloc (.cells #[.slice p n cap] 23)).alloc (.cells #[.slice p2 n cap2] 23))) := Up.alloc2 _ _ _
  have B : Hid (BX ((w.alloc (.cells #[.slice p n cap] 23)).alloc (.cells #[.slice p2 n cap2] 23)) w.heap.size (w.heap.size + 1) p p2 n cap n cap2 d d2) := BX.new h h2
  obtain ⟨_, _, g0, g1⟩ := B.out
  have C36 : Hid (∀ w, Calls Try.prog 36 #[.slice p n cap, .slice p2 n cap2] w fun e w' => e = .returned (.int .i64 0) ∧ w' = w) := fun w => hE ▸ t36 _ _ _ _ _ _ w
  have z1 : ¬ (n : Int) < 2 := by omega
  have Z2 : Hid (n ≤ 1000000 ∧ 0 < n) := ⟨by omega, by omega⟩
  have HL : Hid (d.size = n ∧ d2.size = n) := ⟨h.len, h2.len⟩
  have HX : Hid (eqF (sxxF d) (ab 0) = false) := hx
  have HS : Hid (fin (spdF d d2) = true) := hs
  have HA : Hid (fin (atF d d2) = false) := ha
  clear h h2 hE hx hs ha
  go_enter Try.func15, Try.ntmps15
  go_wp2_with fail
  generalize (w.alloc (.cells #[.slice p n cap] 23)).alloc (.cells #[.slice p2 n cap2] 23) = W at *
  generalize w.heap.size + 1 = q at *
  generalize w.heap.size = g at *
  go_upto_region 10 with (first
    | (go_at_call 36; (with_reducible refine (C36.out _).mono ?_); rintro e w' ⟨rfl, hw⟩; subst w')
    | (go_at_call 37; (with_reducible refine (t37 B.out.sv Z2.out.1).mono ?_); rintro e w' ⟨rfl, hw⟩; subst w'; rw [hF])
    | (go_at_call 37; (with_reducible refine (t37 B.out.sx Z2.out.1).mono ?_); rintro e w' ⟨rfl, hw⟩; subst w'; rw [hF2])
    | (go_at_call 38; (with_reducible refine (t38 (fg := 39) Z2.out.2 Z2.out.1 (B.out.v39 Z2.out.1) eg39).mono ?_); rintro e w1 ⟨r1, n1, rfl, hw1, H1⟩; (have U1 : Hid (Up W w1) := hw1 ▸ Up.drewN _ _); clear hw1)
    | ((with_reducible refine upon_fl (op := .quo) (x := r1) (by simp) ?_); intro m1 k1 M1; obtain ⟨x1, y1⟩ := box_new w1 (.float .f64 0) 24 k1))
  obtain ⟨u2, d1⟩ := box_put U1.out (.float .f64 0) (.float .f64 m1) 24 k1
  have N1 : Hid (ab m1 = mtF d) := mt_of HL.out.1 H1.out M1.out
  clear x1 y1 U1 M1 H1
  generalize ((w1.drewN k1).alloc (.cells #[.float .f64 0] 24)).setCell ⟨w1.heap.size, 0, none⟩ (.float .f64 m1) = W2 at *
  generalize w1.heap.size = gm at *
  have B2 : Hid (BX W2 g q p p2 n cap n cap2 d d2) := B.out.up u2
  have U2 : Hid (Up w W2) := HU.out.trans u2
  have D1 : Hid (W2.cell? ⟨gm, 0, none⟩ = some (.float .f64 m1)) := d1
  clear u2 B HU d1 g0 g1
  obtain ⟨_, _, g0, g1⟩ := B2.out
  go_upto_region 11 with (first
    | (go_at_call 38; (with_reducible refine (t38 (fg := 40) Z2.out.2 Z2.out.1 (B2.out.v40 Z2.out.1) eg40).mono ?_); rintro e w3 ⟨r2, n2, rfl, hw1, H2⟩; (have U3 : Hid (Up W2 w3) := hw1 ▸ Up.drewN _ _); clear hw1)
    | ((with_reducible refine upon_fl (op := .quo) (x := r2) (by simp) ?_); intro m2 k2 M2; obtain ⟨x1, y1⟩ := box_new w3 (.float .f64 0) 24 k2))
  obtain ⟨u4, d2'⟩ := box_put U3.out (.float .f64 0) (.float .f64 m2) 24 k2
  have N2 : Hid (ab m2 = mtF d2) := mt_of HL.out.2 H2.out M2.out
  clear x1 y1 U3 M2 H2
  generalize ((w3.drewN k2).alloc (.cells #[.float .f64 0] 24)).setCell ⟨w3.heap.size, 0, none⟩ (.float .f64 m2) = W4 at *
  generalize w3.heap.size = qm at *
  have B4 : Hid (BX W4 g q p p2 n cap n cap2 d d2) := B2.out.up u4
  have U4 : Hid (Up w W4) := U2.out.trans u4
  have D1' : Hid (W4.cell? ⟨gm, 0, none⟩ = some (.float .f64 m1)) := up_cell u4 D1.out
  have D2 : Hid (W4.cell? ⟨qm, 0, none⟩ = some (.float .f64 m2)) := d2'
  clear u4 B2 U2 d2' D1 g0 g1
  obtain ⟨_, _, g0, g1⟩ := B4.out
  go_upto_region 12 with (first
    | (go_at_call 38; (with_reducible refine (t38 (fg := 41) Z2.out.2 Z2.out.1 (B4.out.v41 Z2.out.1 D1'.out) eg41).mono ?_); rintro e w5 ⟨r3, n3, rfl, hw1, H3⟩; (have U5 : Hid (Up W4 w5) := hw1 ▸ Up.drewN _ _); clear hw1; (have B5 : Hid (BX W4 g q p p2 n cap n cap2 d d2) := B4))
    | fail)
  have N3 : Hid (ab r3 = sxxF d) := by show _ = _; unfold sxxF; rw [H3.out, HL.out.1]; exact sumN_congr _ fun i _ => by rw [N1.out]
  have z3 : eqF (ab r3) (ab 0) = false := by rw [N3.out]; exact HX.out
  have B6 : Hid (BX w5 g q p p2 n cap n cap2 d d2) := B4.out.up U5.out
  have D1'' : Hid (w5.cell? ⟨gm, 0, none⟩ = some (.float .f64 m1)) := up_cell U5.out D1'.out
  have D2' : Hid (w5.cell? ⟨qm, 0, none⟩ = some (.float .f64 m2)) := up_cell U5.out D2.out
  have U6 : Hid (Up w w5) := U4.out.trans U5.out
  clear B4 B5 D1' D2 U4 U5 g0 g1 H3
  obtain ⟨_, _, g0, g1⟩ := B6.out
  go_wp2_with (first
    | (go_at_call 38; (with_reducible refine (t38 (fg := 42) Z2.out.2 Z2.out.1 (B6.out.v42 Z2.out.1 D1''.out D2'.out) eg42).mono ?_); rintro e w7 ⟨r4, n4, rfl, hw1, H4⟩; (have U7 : Hid (Up w5 w7) := hw1 ▸ Up.drewN _ _); clear hw1; (have U8 : Hid (Up w w7) := U6.out.trans U7.out); (have f1 := up_cell U7.out D1''.out); (have f2 := up_cell U7.out D2'.out))
    | ((with_reducible refine upon_fl (op := .quo) (x := r4) (by simp) ?_); intro s5 k5 M5)
    | ((with_reducible refine upon_fl (op := .mul) (x := s5) (by simp) ?_); intro s6 k6 M6)
    | ((with_reducible refine upon_fl (op := .sub) (by simp) ?_); intro s7 k7 M7
       have N4 : Hid (ab r4 = sxyF d d2) := (by show _ = _; unfold sxyF; rw [H4.out, HL.out.1]; exact sumN_congr _ fun i _ => by rw [N1.out, N2.out])
       have N5 : Hid (ab s5 = spdF d d2) := (by show _ = _; unfold spdF; rw [M5.out, N4.out, N3.out])
       have N7 : Hid (ab s7 = atF d d2) := (by show _ = _; unfold atF; rw [M7.out, M6.out, N5.out, N1.out, N2.out])
       clear M5 M6 M7 N4 H4)
    | (go_at_call 43; (with_reducible refine (t43 s5 _).mono ?_); rintro e w' ⟨rfl, hw⟩; subst w'; rw [N5.out, HS.out])
    | (go_at_call 43; (with_reducible refine (t43 s7 _).mono ?_); rintro e w' ⟨rfl, hw⟩; subst w'; rw [N7.out, HA.out]))
  go_ret3
  exact LnR.bad HL0.out (by decide) (U8.out.dr _)
set_option maxHeartbeats 4000000 in
theorem t15k {w : World} {p p2 : Option Addr} {n cap m cap2 : Nat} {d d2 : Array Nat} (h : SV w p n cap d) (h2 : SV w p2 m cap2 d2) (hE : lenE n m = 0) (h1 : ¬ n < 2) (hF : finL d = true) (hF2 : finL d2 = true) (hx : eqF (sxxF d) (ab 0) = false) (hs : fin (spdF d d2) = true) (ha : fin (atF d d2) = true) : Calls Try.prog 15 #[.slice p n cap, .slice p2 m cap2] w (LnR w d d2) := by
  have HL0 : Hid (linE d d2 = 0) := by show _ = _; unfold linE; rw [h.len, h2.len, if_pos hE, if_neg h1, hF, hF2, hx, hs, ha]; rfl
  obtain ⟨e1, e2⟩ := lenE0 hE
  subst e1
  have HU : Hid (Up w ((w.alloc (.cells #[.slice p n cap] 23)).alloc (.cells #[.slice p2 n cap2] 23))) := Up.alloc2 _ _ _
  have B : Hid (BX ((w.alloc (.cells #[.slice p n cap] 23)).alloc (.cells #[.slice p2 n cap2] 23)) w.heap.size (w.heap.size + 1) p p2 n cap n cap2 d d2) := BX.new h h2
  obtain ⟨_, _, g0, g1⟩ := B.out
  have C36 : Hid (∀ w, Calls Try.prog 36 #[.slice p n cap, .slice p2 n cap2] w fun e w' => e = .returned (.int .i64 0) ∧ w' = w) := fun w => hE ▸ t36 _ _ _ _ _ _ w
  have z1 : ¬ (n : Int) < 2 := by omega
  have Z2 : Hid (n ≤ 1000000 ∧ 0 < n) := ⟨by omega, by omega⟩
  have HL : Hid (d.size = n ∧ d2.size = n) := ⟨h.len, h2.len⟩
  have HX : Hid (eqF (sxxF d) (ab 0) = false) := hx
  have HS : Hid (fin (spdF d d2) = true) := hs
  have HA : Hid (fin (atF d d2) = true) := ha
  clear h h2 hE hx hs ha
  go_enter Try.func15, Try.ntmps15
  go_wp2_with fail
  generalize (w.alloc (.cells #[.slice p n cap] 23)).alloc (.cells #[.slice p2 n cap2] 23) = W at *
  generalize w.heap.size + 1 = q at *
  generalize w.heap.size = g at *
  go_upto_region 10 with (first
    | (go_at_call 36; (with_reducible refine (C36.out _).mono ?_); rintro e w' ⟨rfl, hw⟩; subst w')
    | (go_at_call 37; (with_reducible refine (t37 B.out.sv Z2.out.1).mono ?_); rintro e w' ⟨rfl, hw⟩; subst w'; rw [hF])
    | (go_at_call 37; (with_reducible refine (t37 B.out.sx Z2.out.1).mono ?_); rintro e w' ⟨rfl, hw⟩; subst w'; rw [hF2])
    | (go_at_call 38; (with_reducible refine (t38 (fg := 39) Z2.out.2 Z2.out.1 (B.out.v39 Z2.out.1) eg39).mono ?_); rintro e w1 ⟨r1, n1, rfl, hw1, H1⟩; (have U1 : Hid (Up W w1) := hw1 ▸ Up.drewN _ _); clear hw1)
    | ((with_reducible refine upon_fl (op := .quo) (x := r1) (by simp) ?_); intro m1 k1 M1; obtain ⟨x1, y1⟩ := box_new w1 (.float .f64 0) 24 k1))
  obtain ⟨u2, d1⟩ := box_put U1.out (.float .f64 0) (.float .f64 m1) 24 k1
  have N1 : Hid (ab m1 = mtF d) := mt_of HL.out.1 H1.out M1.out
  clear x1 y1 U1 M1 H1
  generalize ((w1.drewN k1).alloc (.cells #[.float .f64 0] 24)).setCell ⟨w1.heap.size, 0, none⟩ (.float .f64 m1) = W2 at *
  generalize w1.heap.size = gm at *
  have B2 : Hid (BX W2 g q p p2 n cap n cap2 d d2) := B.out.up u2
  have U2 : Hid (Up w W2) := HU.out.trans u2
  have D1 : Hid (W2.cell? ⟨gm, 0, none⟩ = some (.float .f64 m1)) := d1
  clear u2 B HU d1 g0 g1
  obtain ⟨_, _, g0, g1⟩ := B2.out
  go_upto_region 11 with (first
    | (go_at_call 38; (with_reducible refine (t38 (fg := 40) Z2.out.2 Z2.out.1 (B2.out.v40 Z2.out.1) eg40).mono ?_); rintro e w3 ⟨r2, n2, rfl, hw1, H2⟩; (have U3 : Hid (Up W2 w3) := hw1 ▸ Up.drewN _ _); clear hw1)
    | ((with_reducible refine upon_fl (op := .quo) (x := r2) (by simp) ?_); intro m2 k2 M2; obtain ⟨x1, y1⟩ := box_new w3 (.float .f64 0) 24 k2))
  obtain ⟨u4, d2'⟩ := box_put U3.out (.float .f64 0) (.float .f64 m2) 24 k2
  have N2 : Hid (ab m2 = mtF d2) := mt_of HL.out.2 H2.out M2.out
  clear x1 y1 U3 M2 H2
  generalize ((w3.drewN k2).alloc (.cells #[.float .f64 0] 24)).setCell ⟨w3.heap.size, 0, none⟩ (.float .f64 m2) = W4 at *
  generalize w3.heap.size = qm at *
  have B4 : Hid (BX W4 g q p p2 n cap n cap2 d d2) := B2.out.up u4
  have U4 : Hid (Up w W4) := U2.out.trans u4
  have D1' : Hid (W4.cell? ⟨gm, 0, none⟩ = some (.float .f64 m1)) := up_cell u4 D1.out
  have D2 : Hid (W4.cell? ⟨qm, 0, none⟩ = some (.float .f64 m2)) := d2'
  clear u4 B2 U2 d2' D1 g0 g1
  obtain ⟨_, _, g0, g1⟩ := B4.out
  go_upto_region 12 with (first
    | (go_at_call 38; (with_reducible refine (t38 (fg := 41) Z2.out.2 Z2.out.1 (B4.out.v41 Z2.out.1 D1'.out) eg41).mono ?_); rintro e w5 ⟨r3, n3, rfl, hw1, H3⟩; (have U5 : Hid (Up W4 w5) := hw1 ▸ Up.drewN _ _); clear hw1; (have B5 : Hid (BX W4 g q p p2 n cap n cap2 d d2) := B4))
    | fail)
  have N3 : Hid (ab r3 = sxxF d) := by show _ = _; unfold sxxF; rw [H3.out, HL.out.1]; exact sumN_congr _ fun i _ => by rw [N1.out]
  have z3 : eqF (ab r3) (ab 0) = false := by rw [N3.out]; exact HX.out
  have B6 : Hid (BX w5 g q p p2 n cap n cap2 d d2) := B4.out.up U5.out
  have D1'' : Hid (w5.cell? ⟨gm, 0, none⟩ = some (.float .f64 m1)) := up_cell U5.out D1'.out
  have D2' : Hid (w5.cell? ⟨qm, 0, none⟩ = some (.float .f64 m2)) := up_cell U5.out D2.out
  have U6 : Hid (Up w w5) := U4.out.trans U5.out
  clear B4 B5 D1' D2 U4 U5 g0 g1 H3
  obtain ⟨_, _, g0, g1⟩ := B6.out
  go_wp2_with (first
    | (go_at_call 38; (with_reducible refine (t38 (fg := 42) Z2.out.2 Z2.out.1 (B6.out.v42 Z2.out.1 D1''.out D2'.out) eg42).mono ?_); rintro e w7 ⟨r4, n4, rfl, hw1, H4⟩; (have U7 : Hid (Up w5 w7) := hw1 ▸ Up.drewN _ _); clear hw1; (have U8 : Hid (Up w w7) := U6.out.trans U7.out); (have f1 := up_cell U7.out D1''.out); (have f2 := up_cell U7.out D2'.out))
    | ((with_reducible refine upon_fl (op := .quo) (x := r4) (by simp) ?_); intro s5 k5 M5)
    | ((with_reducible refine upon_fl (op := .mul) (x := s5) (by simp) ?_); intro s6 k6 M6)
    | ((with_reducible refine upon_fl (op := .sub) (by simp) ?_); intro s7 k7 M7
       have N4 : Hid (ab r4 = sxyF d d2) := (by show _ = _; unfold sxyF; rw [H4.out, HL.out.1]; exact sumN_congr _ fun i _ => by rw [N1.out, N2.out])
       have N5 : Hid (ab s5 = spdF d d2) := (by show _ = _; unfold spdF; rw [M5.out, N4.out, N3.out])
       have N7 : Hid (ab s7 = atF d d2) := (by show _ = _; unfold atF; rw [M7.out, M6.out, N5.out, N1.out, N2.out])
       clear M5 M6 M7 N4 H4)
    | (go_at_call 43; (with_reducible refine (t43 s5 _).mono ?_); rintro e w' ⟨rfl, hw⟩; subst w'; rw [N5.out, HS.out])
    | (go_at_call 43; (with_reducible refine (t43 s7 _).mono ?_); rintro e w' ⟨rfl, hw⟩; subst w'; rw [N7.out, HA.out]))
  go_ret3
  exact ⟨s7, s5, by rw [HL0.out]; rfl, ⟨by unfold linA; rw [HL0.out, if_pos rfl, N7.out], by unfold linS; rw [HL0.out, if_pos rfl, N5.out]⟩, U8.out.dr _⟩
/-- LINE, THE PROGRAM'S. -/
theorem t15 {w : World} {p p2 : Option Addr} {n cap m cap2 : Nat} {d d2 : Array Nat} (h : SV w p n cap d) (h2 : SV w p2 m cap2 d2) : Calls Try.prog 15 #[.slice p n cap, .slice p2 m cap2] w (LnR w d d2) := by
  by_cases hE : lenE n m = 0
  · by_cases h1 : n < 2
    · exact t15few h h2 hE h1
    · cases hF : finL d
      · exact t15fin h h2 hE h1 (by rw [hF]; rfl)
      · cases hF2 : finL d2
        · exact t15fin h h2 hE h1 (by rw [hF, hF2]; rfl)
        · cases hx : eqF (sxxF d) (ab 0)
          · cases hs : fin (spdF d d2)
            · exact t15s h h2 hE h1 hF hF2 hx hs
            · cases ha : fin (atF d d2)
              · exact t15a h h2 hE h1 hF hF2 hx hs ha
              · exact t15k h h2 hE h1 hF hF2 hx hs ha
          · exact t15z h h2 hE h1 hF hF2 hx
  · exact t15len h h2 hE
end Go.Proofs.Ytcgbmcnefolgcaa
