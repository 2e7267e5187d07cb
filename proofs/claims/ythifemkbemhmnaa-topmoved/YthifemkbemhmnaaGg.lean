/- The walk of TopMoved, where the time is finite. -/
import Derived.Test.YthifemkbemhmnaaGf
import Derived.Deep.QuietTactic
import Derived.BigQuiet
namespace Go.Proofs.Ythifemkbemhmnaa
open Go.ChangeShapes Go.WideShapes Go.ChangeAt Go.RowKit Go.Fl Ieee
attribute [local go_sem] run_store_float run_store_c isSome_set call69 call32 run_neg fold_eq fold_ne fold_lt fold_gt abs_eq

/-- Echo over the ground. -/
theorem echo_ground {w : World} {c k n E R T tm pg cap m : Nat} {fp : Nat → Nat × Nat} (hm : m = midN c) (hc : c < 160) (ht : Fnt tm) (h1 : 1 ≤ k) (hk : k ≤ 1048576) (hT : bin .quo (ab (floatOfInt .f64 (k : Int))) (ab 4697254411347427328) = some T) (hn1 : 1 ≤ n) (hn : n ≤ 160) (hE : c + n ≤ E) (hE2 : E ≤ 325) (hR1 : 1 ≤ R) (hR : R ≤ 4) (hp : RD w pg 0 n fp) :
    Calls Try.prog 7 #[.agg #[.float .f64 4607182418800017408, .float .f64 4602678819172646912, .float .f64 4652007308841189376, .int .i64 (E : Int), .int .i64 (R : Int)], .slice (some ⟨pg, 0, none⟩) n cap, .agg #[.float .f64 m, .float .f64 0, .float .f64 4607182418800017408, .float .f64 T, .float .f64 0], .float .f64 tm] w (OKT w R E (fun _ g => lineV (AK k) (fun i => ab2 (fp i)) c n g)) := by
  subst hm
  obtain ⟨T', e, fT, vT⟩ := turn_val hk
  rw [hT] at e
  cases e
  have M := mid_of hc
  have hRE : R * E ≤ 1300 := Nat.le_trans (Nat.mul_le_mul hR hE2) (by omega)
  have hRn : R * n ≤ 640 := Nat.le_trans (Nat.mul_le_mul hR hn) (by omega)
  have g1 : goodF (ab 4607182418800017408) = true ∧ goodF (ab 4602678819172646912) = true ∧ goodF (ab 4652007308841189376) = true := by decide +kernel
  have h0 : checkF (ab 4607182418800017408) (ab 4602678819172646912) (ab 4652007308841189376) (E : Int) (R : Int) = 0 := by
    unfold checkF
    have e : (E : Int) * (R : Int) = ((R * E : Nat) : Int) := by rw [Int.natCast_mul, Int.mul_comm]
    rw [if_pos ⟨g1.1, g1.2.1, g1.2.2, by omega, by omega, by omega, by omega⟩, if_neg (by omega)]
  have key := ech_ok (w := w) (cc := 4607182418800017408) (vv := 4602678819172646912) (rr := 4652007308841189376) (n := n) (pc := cap) (tm := tm) (E := E) (R := R) (N := R * E) (pg := pg) (po := 0) (r := midN c) (s := 0) (a := 4607182418800017408) (t := T) (q := 0) (fp := fp) h0 rfl hn1 (by
    unfold muchF
    rw [Nat.one_mul, decide_eq_false (show ¬ 256 < 1 by omega), decide_eq_false (show ¬ 16384 < n by omega), decide_eq_false (show ¬ 16777216 < R * n by omega)]
    rfl) (fin_of ht) (by
    have f1 : fin (ab (midN c)) = true := by rw [M.num]; exact M.fin
    have f2 := fin_of fT
    have f3 : fin (ab 0) = true ∧ fin (ab 4607182418800017408) = true := by decide +kernel
    unfold finT fin4F
    simp only [f1, f2, f3.1, f3.2]; rfl) hp
  refine key.mono fun e w' h => ?_
  obtain ⟨A, B, d, he, k1, k2⟩ := h
  refine ⟨A, B, d, he, k1, fun p hp' g hg => ?_⟩
  rw [k2.out p hp' g hg]
  exact scene_line hc ht (fun p hpR => by
    have : p * E ≤ 3 * 325 := Nat.mul_le_mul (by omega) hE2
    omega) h1 hk hT hE hp' hg
/-- The ground, the second target, the pulse. -/
structure GW (w W : World) (gb gu pg n E R m T : Nat) (d : List (Nat × Nat)) : Prop where
  bc : BC W gb 4607182418800017408 4602678819172646912 4652007308841189376 (E : Int) (R : Int)
  tu : T5 W gu ⟨m, 0, 4607182418800017408, T, 0⟩
  rd : RD W pg 0 n (fun i => d[i]!)
  up : Up w W
theorem GW.grow {w W W' : World} {gb gu pg n E R m T : Nat} {d : List (Nat × Nat)} (h : GW w W gb gu pg n E R m T d) (u : Up W W') : GW w W' gb gu pg n E R m T d :=
  ⟨h.bc.up u, ⟨cell_up h.tu.c0 u, cell_up h.tu.c1 u, cell_up h.tu.c2 u, cell_up h.tu.c3 u, cell_up h.tu.c4 u⟩, h.rd.up u, h.up.trans u⟩
theorem GW.new {w w1 w2 : World} {pg n E R m1 m2 T : Nat} {d : List (Nat × Nat)} (hr : RD w1 pg 0 n (fun i => d[i]!)) (u : Up w w1) (u2 : Up w1 w2) :
    GW w (((w2.alloc (.cells #[.float .f64 4607182418800017408, .float .f64 4602678819172646912, .float .f64 4652007308841189376, .int .i64 (E : Int), .int .i64 (R : Int)] 31)).alloc (.cells #[.float .f64 m1, .float .f64 0, .float .f64 4607182418800017408, .float .f64 T, .float .f64 0] 34)).alloc (.cells #[.float .f64 m2, .float .f64 0, .float .f64 4607182418800017408, .float .f64 T, .float .f64 0] 34)) w2.heap.size (w2.heap.size + 1 + 1) pg n E R m2 T d := by
  have q := cells5 ((w2.alloc (.cells #[.float .f64 4607182418800017408, .float .f64 4602678819172646912, .float .f64 4652007308841189376, .int .i64 (E : Int), .int .i64 (R : Int)] 31)).alloc (.cells #[.float .f64 m1, .float .f64 0, .float .f64 4607182418800017408, .float .f64 T, .float .f64 0] 34)) m2 0 4607182418800017408 T 0
  rw [size_one, size_one] at q
  obtain ⟨q0, q1, q2, q3, q4⟩ := q
  have u3 := ((Up.alloc w2 (.cells #[.float .f64 4607182418800017408, .float .f64 4602678819172646912, .float .f64 4652007308841189376, .int .i64 (E : Int), .int .i64 (R : Int)] 31)).trans (Up.alloc _ (.cells #[.float .f64 m1, .float .f64 0, .float .f64 4607182418800017408, .float .f64 T, .float .f64 0] 34))).trans (Up.alloc _ (.cells #[.float .f64 m2, .float .f64 0, .float .f64 4607182418800017408, .float .f64 T, .float .f64 0] 34))
  exact ⟨((BC.new w2 _ _ _ _ _).up (Up.alloc _ _)).up (Up.alloc _ _), ⟨q0, q1, q2, q3, q4⟩, hr.up (u2.trans u3), (u.trans u2).trans u3⟩
/-- Compress over such tables. -/
theorem comp_ground {w : World} {A B R E n pg cap : Nat} {d dp : List (Nat × Nat)} {V : Nat → Nat → C2} (h : MT w A B R E d V) (hp : RD w pg 0 n (fun i => dp[i]!)) (hn1 : 1 ≤ n) (hn : n ≤ 160) (hE1 : 1 ≤ E) (hE2 : E ≤ 325) (hR1 : 1 ≤ R) (hR : R ≤ 4) :
    Calls Try.prog 21 #[.slice (some ⟨A, 0, none⟩) R R, .slice (some ⟨pg, 0, none⟩) n cap] w (OKT w R E (fun p g => heldF (fun j => d[p * E + j]!) E (fun i => dp[i]!) n g)) := by
  have hRE : R * E ≤ 1300 := Nat.le_trans (Nat.mul_le_mul hR hE2) (by omega)
  have hRn : R * E * n ≤ 208000 := Nat.le_trans (Nat.mul_le_mul hRE hn) (by omega)
  exact t21 h.ti hp (by omega) (by omega) (by omega) (by omega) (by omega) (by omega) (by omega) (by omega)
/-- All four tables, and the ground. -/
structure MS (w W : World) (gb A1 B1 A2 B2 A3 B3 A4 B4 R E c y n k : Nat) (d d1 d2 d3 d4 : List (Nat × Nat)) : Prop where
  bc : BC W gb 4607182418800017408 4602678819172646912 4652007308841189376 (E : Int) (R : Int)
  up : Up w W
  one : MT W A1 B1 R E d1 (fun _ g => lineV (AK k) (fun i => ab2 d[i]!) c n g)
  two : MT W A2 B2 R E d2 (fun _ g => lineV (AK k) (fun i => ab2 d[i]!) (c + y) n g)
  near : MT W A3 B3 R E d3 (fun p g => heldF (fun j => d1[p * E + j]!) E (fun i => d[i]!) n g)
  far : MT W A4 B4 R E d4 (fun p g => heldF (fun j => d2[p * E + j]!) E (fun i => d[i]!) n g)
  pul : ∀ i, i < n → BC2 (ab2 d[i]!) 2
  fst : ab2 d[0]! = (some 4607182418800017408, some 0)
  num : E = c + y + n + 7 ∧ 1 ≤ n ∧ n ≤ 160 ∧ 1 ≤ R ∧ R ≤ 4 ∧ 1 ≤ k ∧ k ≤ 1048576
theorem MS.grow {w W W' : World} {gb A1 B1 A2 B2 A3 B3 A4 B4 R E c y n k : Nat} {d d1 d2 d3 d4 : List (Nat × Nat)} (h : MS w W gb A1 B1 A2 B2 A3 B3 A4 B4 R E c y n k d d1 d2 d3 d4) (u : Up W W') : MS w W' gb A1 B1 A2 B2 A3 B3 A4 B4 R E c y n k d d1 d2 d3 d4 :=
  ⟨h.bc.up u, h.up.trans u, h.one.up u, h.two.up u, h.near.up u, h.far.up u, h.pul, h.fst, h.num⟩
theorem MS.pair {w W : World} {gb A1 B1 A2 B2 A3 B3 A4 B4 R E c y n k : Nat} {d d1 d2 d3 d4 : List (Nat × Nat)} (h : MS w W gb A1 B1 A2 B2 A3 B3 A4 B4 R E c y n k d d1 d2 d3 d4) {p g I z : Nat} (hp : p < R) (hI : g + y = I) (hg : I < E) (hz : p * E = z) :
    ∃ x1 y1 x2 y2 x3 y3 x4 y4, W.cell? ⟨B2, z + I, none⟩ = some (.complex .f64 x2 y2) ∧ W.cell? ⟨B1, z + g, none⟩ = some (.complex .f64 x1 y1) ∧ W.cell? ⟨B4, z + I, none⟩ = some (.complex .f64 x4 y4) ∧ W.cell? ⟨B3, z + g, none⟩ = some (.complex .f64 x3 y3) ∧ eqF (ab x2) (ab x1) = true ∧ eqF (ab y2) (ab y1) = true ∧ eqF (ab x4) (ab x3) = true ∧ eqF (ab y4) (ab y3) = true := by
  subst hI
  obtain ⟨n1, n2, n3, n4, n5, n6, n7⟩ := h.num
  obtain ⟨a, b, eA, hG⟩ := ak_good n6 n7
  have hA : BC2 (AK k) 2 := by rw [eA]; exact good_bc hG
  obtain ⟨x1, y1, q1, e1, f1⟩ := h.one.cell hp (show g < E by omega) hz
  obtain ⟨x2, y2, q2, e2, f2⟩ := h.two.cell hp hg hz
  obtain ⟨x3, y3, q3, e3, f3⟩ := h.near.cell hp (show g < E by omega) hz
  obtain ⟨x4, y4, q4, e4, f4⟩ := h.far.cell hp hg hz
  rw [line_move] at e2 f2
  have bl := line_bc (c := c) (g := g) hA h.pul
  have hm := held_moved (f1 := fun j => d1[p * E + j]!) (f2 := fun j => d2[p * E + j]!) (fp := fun i => d[i]!) (c := c) (by_ := y) (n := n) (E := E) (g := g) hA h.pul (fun i hi => h.one.is p hp i hi) (fun i hi => h.two.is p hp i hi) (fun _ _ => rfl) (by omega) (by omega) hg
  refine ⟨x1, y1, x2, y2, x3, y3, x4, y4, q2, q1, q4, q3, ?_, ?_, ?_, ?_⟩
  · rw [e1, e2]; exact bl.1.eq
  · rw [f1, f2]; exact bl.2.eq
  · rw [e3, e4]; exact hm.1
  · rw [f3, f4]; exact hm.2
theorem MS.low {w W : World} {gb A1 B1 A2 B2 A3 B3 A4 B4 R E c y n k : Nat} {d d1 d2 d3 d4 : List (Nat × Nat)} (h : MS w W gb A1 B1 A2 B2 A3 B3 A4 B4 R E c y n k d d1 d2 d3 d4) {p g z : Nat} (hp : p < R) (hg : g < y) (hz : p * E = z) : W.cell? ⟨B2, z + g, none⟩ = some (.complex .f64 0 0) := by
  have hn := h.num
  obtain ⟨x2, y2, q2, e2, f2⟩ := h.two.cell hp (show g < E by omega) hz
  rw [line_low _ _ (by omega)] at e2 f2
  rw [q2, of_ab e2, of_ab f2]
theorem MS.first {w W : World} {gb A1 B1 A2 B2 A3 B3 A4 B4 R E c y n k : Nat} {d d1 d2 d3 d4 : List (Nat × Nat)} (h : MS w W gb A1 B1 A2 B2 A3 B3 A4 B4 R E c y n k d d1 d2 d3 d4) : W.cell? ⟨A1, 0, none⟩ = some (.slice (some ⟨B1, 0, none⟩) E E) ∧ ∃ x1 y1, W.cell? ⟨B1, c, none⟩ = some (.complex .f64 x1 y1) ∧ (eqF (ab x1) (ab 0) && eqF (ab y1) (ab 0)) = false := by
  have hn := h.num
  obtain ⟨a, b, eA, hG⟩ := ak_good hn.2.2.2.2.2.1 hn.2.2.2.2.2.2
  refine ⟨h.one.row (p := 0) (by omega) (by omega), ?_⟩
  obtain ⟨x1, y1, q1, e1, f1⟩ := h.one.cell (p := 0) (g := c) (z := 0) (by omega) (by omega) (by omega)
  rw [Nat.zero_add] at q1
  refine ⟨x1, y1, q1, ?_⟩
  have q := line_first (P := fun i => ab2 d[i]!) (c := c) (n := n) eA hG h.fst (by omega)
  have z0 : ab 0 = some 0 := by decide +kernel
  rw [e1, f1, z0]; exact q
set_option maxRecDepth 100000 in
set_option maxHeartbeats 8000000 in
theorem t5f (code cell by_ turn rows : Int) (tm : Nat) (w : World) (ht : Fnt tm) : Calls Try.prog 5 #[.int .i64 code, .int .i64 cell, .int .i64 by_, .int .i64 turn, .int .i64 rows, .float .f64 tm] w (TU w) := by
  obtain ⟨s, s1, s2, hs⟩ := size_is code 13 (by omega) (by omega)
  have HZ : Hid (∀ w, Calls Try.prog 19 #[.int .i64 code, .int .i64 13] w fun e w' => e = .returned (.int .i64 (s : Int)) ∧ w' = w) := hs
  obtain ⟨q, hq⟩ : ∃ q : Nat, (s : Int) - 1 = (q : Int) := ⟨s - 1, by omega⟩
  obtain ⟨n, hn⟩ : ∃ n, (codeL (q : Int)).length = n := ⟨_, rfl⟩
  have HC : Hid (∀ w, Calls Try.prog 18 #[.int .i64 (q : Int)] w (CD n w)) := fun w => code_ok (by omega) hn w
  have n1 : 1 ≤ n := by rw [← hn]; exact (code_is (show q < 13 by omega)).2.1
  have n2 : n ≤ 160 := by rw [← hn]; exact (code_is (show q < 13 by omega)).2.2.1
  clear hn hs
  obtain ⟨sc, c1, c2, hs⟩ := size_is cell 100 (by omega) (by omega)
  have HZc : Hid (∀ w, Calls Try.prog 19 #[.int .i64 cell, .int .i64 100] w fun e w' => e = .returned (.int .i64 (sc : Int)) ∧ w' = w) := hs
  clear hs
  obtain ⟨c, hc⟩ : ∃ c : Nat, (sc : Int) - 1 = (c : Int) := ⟨sc - 1, by omega⟩
  obtain ⟨sy, y1, y2, hs⟩ := size_is by_ 60 (by omega) (by omega)
  have HZy : Hid (∀ w, Calls Try.prog 19 #[.int .i64 by_, .int .i64 60] w fun e w' => e = .returned (.int .i64 (sy : Int)) ∧ w' = w) := hs
  clear hs
  obtain ⟨y, hy⟩ : ∃ y : Nat, (sy : Int) - 1 = (y : Int) := ⟨sy - 1, by omega⟩
  obtain ⟨k, k1, k2, hs⟩ := size_is turn 1048576 (by omega) (by omega)
  have HZk : Hid (∀ w, Calls Try.prog 19 #[.int .i64 turn, .int .i64 1048576] w fun e w' => e = .returned (.int .i64 (k : Int)) ∧ w' = w) := hs
  clear hs
  obtain ⟨R, r1, r2, hs⟩ := size_is rows 4 (by omega) (by omega)
  have HZr : Hid (∀ w, Calls Try.prog 19 #[.int .i64 rows, .int .i64 4] w fun e w' => e = .returned (.int .i64 (R : Int)) ∧ w' = w) := hs
  clear hs
  obtain ⟨cy, hcy⟩ : ∃ cy : Nat, (c : Int) + (y : Int) = (cy : Int) := ⟨c + y, by omega⟩
  obtain ⟨cyn, hcyn⟩ : ∃ cyn : Nat, (cy : Int) + (n : Int) = (cyn : Int) := ⟨cy + n, by omega⟩
  obtain ⟨E, hE⟩ : ∃ E : Nat, (cyn : Int) + 7 = (E : Int) := ⟨cyn + 7, by omega⟩
  obtain ⟨T, hT, fT, vT⟩ := turn_val k2
  have HT : Hid (bin .quo (ab (floatOfInt .f64 (k : Int))) (ab 4697254411347427328) = some T) := hT
  have HTM : Hid (Fnt tm) := ht
  obtain ⟨e1, r, e2, e3⟩ := fnt_sub ht
  have F0 : ∀ w, (binOp .sub 29 (.float .f64 tm) (.float .f64 tm)).run Try.prog w = .ok (.float .f64 r) w := fun w => run_fl_some _ _ w e2
  obtain ⟨fc, hfc⟩ : ∃ x, floatOfInt .f64 (c : Int) = x := ⟨_, rfl⟩
  obtain ⟨fcy, hfcy⟩ : ∃ x, floatOfInt .f64 (cy : Int) = x := ⟨_, rfl⟩
  obtain ⟨fk, hfk⟩ : ∃ x, floatOfInt .f64 (k : Int) = x := ⟨_, rfl⟩
  obtain ⟨m1, hm1⟩ : ∃ x, x = midN c := ⟨_, rfl⟩
  obtain ⟨m2, hm2⟩ : ∃ x, x = midN cy := ⟨_, rfl⟩
  have F1 : ∀ w, (binOp .add 29 (.float .f64 fc) (.float .f64 4602678819172646912)).run Try.prog w = .ok (.float .f64 m1) w := fun w => run_fl_some _ _ w (by rw [← hfc, hm1]; exact (mid_of (by omega)).is)
  have F2 : ∀ w, (binOp .add 29 (.float .f64 fcy) (.float .f64 4602678819172646912)).run Try.prog w = .ok (.float .f64 m2) w := fun w => run_fl_some _ _ w (by rw [← hfcy, hm2]; exact (mid_of (by omega)).is)
  have F3 : ∀ w, (binOp .quo 29 (.float .f64 fk) (.float .f64 4697254411347427328)).run Try.prog w = .ok (.float .f64 T) w := fun w => run_fl_some _ _ w (by rw [← hfk]; exact hT)
  have HN : Hid (m1 = midN c ∧ m2 = midN cy ∧ c < 100 ∧ y < 60 ∧ cy = c + y ∧ E = c + y + n + 7 ∧ 1 ≤ n ∧ n ≤ 160 ∧ 1 ≤ R ∧ R ≤ 4 ∧ 1 ≤ k ∧ k ≤ 1048576) := ⟨hm1, hm2, by omega, by omega, by omega, by omega, n1, n2, r1, r2, k1, k2⟩
  have z1 : (cy : Int) < 1000 := by omega
  have z2 : (cyn : Int) < 1000 := by omega
  have z3 : (E : Int) < 1000 := by omega
  clear ht hT fT vT hm1 hm2 e2
  go_enter Try.func5, Try.ntmps5
  go_wp2_with (first
    | (go_at_call 19; (with_reducible refine (HZ.out _).mono ?_); rintro e w' ⟨rfl, hw⟩; subst w')
    | (go_at_call 19; (with_reducible refine (HZc.out _).mono ?_); rintro e w' ⟨rfl, hw⟩; subst w')
    | (go_at_call 19; (with_reducible refine (HZy.out _).mono ?_); rintro e w' ⟨rfl, hw⟩; subst w')
    | (go_at_call 19; (with_reducible refine (HZk.out _).mono ?_); rintro e w' ⟨rfl, hw⟩; subst w')
    | (go_at_call 19; (with_reducible refine (HZr.out _).mono ?_); rintro e w' ⟨rfl, hw⟩; subst w')
    | (go_at_call 18; (with_reducible refine (HC.out _).mono ?_); rintro e w1 ⟨pg, cap, d, rfl, HR, HU, HB, H0⟩)
    | (go_at_call 20; (with_reducible refine (t20 _ _ _).mono ?_); rintro e w2 ⟨rfl, HU2⟩))
  have HG : Hid (GW w (((w2.alloc (.cells #[.float .f64 4607182418800017408, .float .f64 4602678819172646912, .float .f64 4652007308841189376, .int .i64 (E : Int), .int .i64 (R : Int)] 31)).alloc (.cells #[.float .f64 m1, .float .f64 0, .float .f64 4607182418800017408, .float .f64 T, .float .f64 0] 34)).alloc (.cells #[.float .f64 m2, .float .f64 0, .float .f64 4607182418800017408, .float .f64 T, .float .f64 0] 34)) w2.heap.size (w2.heap.size + 1 + 1) pg n E R m2 T d) := GW.new HR.out HU.out HU2.out
  obtain ⟨W, hW⟩ : ∃ W, W = (((w2.alloc (.cells #[.float .f64 4607182418800017408, .float .f64 4602678819172646912, .float .f64 4652007308841189376, .int .i64 (E : Int), .int .i64 (R : Int)] 31)).alloc (.cells #[.float .f64 m1, .float .f64 0, .float .f64 4607182418800017408, .float .f64 T, .float .f64 0] 34)).alloc (.cells #[.float .f64 m2, .float .f64 0, .float .f64 4607182418800017408, .float .f64 T, .float .f64 0] 34)) := ⟨_, rfl⟩
  rw [← hW] at HG ⊢
  clear hW HR HU
  generalize w2.heap.size = gb at *
  generalize gb + 1 = gt at *
  generalize gt + 1 = gu at *
  clear HU2
  have X := HN.out
  (with_reducible refine (echo_ground (c := c) (k := k) (n := n) (E := E) (R := R) (T := T) (fp := fun i => d[i]!) X.1 (by omega) HTM.out X.2.2.2.2.2.2.2.2.2.2.1 X.2.2.2.2.2.2.2.2.2.2.2 HT.out (by omega) (by omega) (by omega) (by omega) (by omega) (by omega) HG.out.rd).mono ?_)
  clear X
  rintro e W1 h1
  obtain ⟨A1, B1, d1, rfl, M1, U1⟩ := h1.mt
  clear h1
  have HG1 : Hid (GW w W1 gb gu pg n E R m2 T d) := HG.out.grow U1.out
  clear HG U1
  obtain ⟨b0, b1, b2, b3, b4⟩ := HG1.out.bc
  obtain ⟨t0, t1, t2, t3, t4⟩ := HG1.out.tu
  go_wp2_with fail
  have X := HN.out
  (with_reducible refine (echo_ground (c := cy) (k := k) (n := n) (E := E) (R := R) (T := T) (fp := fun i => d[i]!) X.2.1 (by omega) HTM.out X.2.2.2.2.2.2.2.2.2.2.1 X.2.2.2.2.2.2.2.2.2.2.2 HT.out (by omega) (by omega) (by omega) (by omega) (by omega) (by omega) HG1.out.rd).mono ?_)
  clear X
  rintro e W2 h1
  obtain ⟨A2, B2, d2, rfl, M2, U2⟩ := h1.mt
  have HG2 : Hid (GW w W2 gb gu pg n E R m2 T d) := HG1.out.grow U2.out
  have M1b : Hid (MT W2 A1 B1 R E d1 (fun _ g => lineV (AK k) (fun i => ab2 d[i]!) c n g)) := M1.out.up U2.out
  clear h1 HG1 U2 M1 b0 b1 b2 b3 b4 t0 t1 t2 t3 t4
  obtain ⟨b0, b1, b2, b3, b4⟩ := HG2.out.bc
  go_wp2_with fail
  have X := HN.out
  (with_reducible refine (comp_ground (dp := d) M1b.out HG2.out.rd (by omega) (by omega) (by omega) (by omega) (by omega) (by omega)).mono ?_)
  clear X
  rintro e W3 h1
  obtain ⟨A3, B3, d3, rfl, M3, U3⟩ := h1.mt
  have HG3 : Hid (GW w W3 gb gu pg n E R m2 T d) := HG2.out.grow U3.out
  have M1c : Hid (MT W3 A1 B1 R E d1 (fun _ g => lineV (AK k) (fun i => ab2 d[i]!) c n g)) := M1b.out.up U3.out
  have M2c : Hid (MT W3 A2 B2 R E d2 (fun _ g => lineV (AK k) (fun i => ab2 d[i]!) cy n g)) := M2.out.up U3.out
  clear h1 HG2 U3 M1b M2 b0 b1 b2 b3 b4
  obtain ⟨b0, b1, b2, b3, b4⟩ := HG3.out.bc
  go_wp2_with fail
  have X := HN.out
  (with_reducible refine (comp_ground (dp := d) M2c.out HG3.out.rd (by omega) (by omega) (by omega) (by omega) (by omega) (by omega)).mono ?_)
  clear X
  rintro e W4 h1
  obtain ⟨A4, B4, d4, rfl, M4, U4⟩ := h1.mt
  have HS : Hid (MS w W4 gb A1 B1 A2 B2 A3 B3 A4 B4 R E c y n k d d1 d2 d3 d4) := by
    have X := HN.out
    have e : cy = c + y := X.2.2.2.2.1
    have M2d := M2c.out
    rw [e] at M2d
    exact ⟨HG3.out.bc.up U4.out, HG3.out.up.trans U4.out, M1c.out.up U4.out, M2d.up U4.out, M3.out.up U4.out, M4.out, HB.out, H0.out, by omega⟩
  clear h1 HG3 U4 M1c M2c M3 M4 HB H0 b0 b1 b2 b3 b4
  obtain ⟨b0, b1, b2, b3, b4⟩ := HS.out.bc
  go_wp2_with fail
  go_loopw [149] (fun vi wr => ∃ p : Nat, p ≤ R ∧ vi = .int .i64 p ∧ Hid (MS w wr gb A1 B1 A2 B2 A3 B3 A4 B4 R E c y n k d d1 d2 d3 d4)) (fun vi _ => R - (intOf vi).toNat)
  case atStart => exact ⟨0, by omega, rfl, HS⟩
  case round =>
    clear HS b0 b1 b2 b3 b4
    obtain ⟨p, hp, rfl, HS⟩ := hrel
    obtain ⟨b0, b1, b2, b3, b4⟩ := HS.out.bc
    by_cases hlt : p < R
    · have p1 : (p : Int) < (R : Int) := by omega
      have p0 : (0 : Int) ≤ (p : Int) := by omega
      obtain ⟨z, hz⟩ : ∃ z, p * E = z := ⟨_, rfl⟩
      have HP : Hid (p * E = z) := hz
      clear hz
      have a1 := HS.out.one.row hlt HP.out
      have a2 := HS.out.two.row hlt HP.out
      have a3 := HS.out.near.row hlt HP.out
      have a4 := HS.out.far.row hlt HP.out
      have g1 : ((E : Int) != (E : Int)) = false := by simp
      go_wp2_with fail
      go_quiet (fail)
      have HQ : Hid (∀ j, MS w (wr.drewN j) gb A1 B1 A2 B2 A3 B3 A4 B4 R E c y n k d d1 d2 d3 d4) := fun j => HS.out.grow (Up.drewN _ j)
      clear HS a1 a2 a3 a4 b0 b1 b2 b3 b4 g1
      go_wp2_with fail
      go_loopw [24] (fun vi wr => ∃ g : Nat, g + y ≤ E ∧ vi = .int .i64 g ∧ Hid (MS w wr gb A1 B1 A2 B2 A3 B3 A4 B4 R E c y n k d d1 d2 d3 d4)) (fun vi _ => E - (intOf vi).toNat)
      case atStart => exact ⟨0, by have := HN.out; omega, rfl, HQ.out _⟩
      case round =>
        clear HQ
        obtain ⟨g, hg, rfl, HS⟩ := hrel
        obtain ⟨I, hI⟩ : ∃ I : Nat, (g : Int) + (y : Int) = (I : Int) := ⟨g + y, by omega⟩
        have i1 : (I : Int) < 1000 := by omega
        have b3 := HS.out.bc.c3
        by_cases hlg : I < E
        · have i2 : (I : Int) < (E : Int) := by omega
          have i3 : (g : Int) < (E : Int) := by omega
          have i4 : (0 : Int) ≤ (g : Int) := by omega
          have i5 : (0 : Int) ≤ (I : Int) := by omega
          have i6 : IntKind.i64.wrap (I : Int) = (I : Int) := IntWalk.i64_in _ (by omega)
          have a1 := HS.out.one.row hlt HP.out
          have a2 := HS.out.two.row hlt HP.out
          have a3 := HS.out.near.row hlt HP.out
          have a4 := HS.out.far.row hlt HP.out
          obtain ⟨x1, v1, x2, v2, x3, v3, x4, v4, q2, q1, q4, q3, f1, f2, f3, f4⟩ := HS.out.pair (g := g) (I := I) hlt (by omega) hlg HP.out
          have HE : Hid (g + y < E) := by show g + y < E; omega
          clear hg
          go_wp2_with fail
          go_quiet (fail)
          all_goals (try go_wp2)
          go_roundw
          case rel => exact ⟨g + 1, by have := HE.out; omega, by go_num, HS.out.grow (Up.drewN _ _)⟩
          case measure => have := HE.out; simp [intOf]; omega
        · have i2 : ¬ (I : Int) < (E : Int) := by omega
          go_wp2_with fail
          go_loopw [25] (fun vi wr => ∃ g : Nat, g ≤ y ∧ vi = .int .i64 g ∧ Hid (MS w wr gb A1 B1 A2 B2 A3 B3 A4 B4 R E c y n k d d1 d2 d3 d4)) (fun vi _ => y - (intOf vi).toNat)
          case atStart => exact ⟨0, by omega, rfl, HS⟩
          case round =>
            clear HS b3
            obtain ⟨gg, hgg, rfl, HS⟩ := hrel
            by_cases hlg : gg < y
            · have i3 : (gg : Int) < (y : Int) := by omega
              have i4 : (0 : Int) ≤ (gg : Int) := by omega
              have i5 : (gg : Int) < (E : Int) := by have := HN.out; omega
              have a2 := HS.out.two.row hlt HP.out
              have q2 := HS.out.low hlt hlg HP.out
              have f0 : eqF (ab 0) (ab 0) = true := by decide +kernel
              go_wp2_with fail
              go_roundw
              case rel => exact ⟨gg + 1, by omega, by go_num, HS⟩
              case measure => simp [intOf]; omega
            · have i3 : ¬ (gg : Int) < (y : Int) := by omega
              go_wp2_with fail
              go_roundw
              case rel => exact ⟨p + 1, by omega, by go_num, HS⟩
              case measure => simp [intOf]; omega
    · have p1 : ¬ (p : Int) < (R : Int) := by omega
      obtain ⟨a1, x, v, q, f⟩ := HS.out.first
      have i3 : (c : Int) < (E : Int) := by have := HN.out; omega
      have i4 : (0 : Int) ≤ (c : Int) := by omega
      have i5 : (0 : Int) < (R : Int) := by omega
      go_wp2
      go_ret
      exact ⟨by simp_all, HS.out.up⟩
theorem t5 (code cell by_ turn rows : Int) (tm : Nat) (w : World) : Calls Try.prog 5 #[.int .i64 code, .int .i64 cell, .int .i64 by_, .int .i64 turn, .int .i64 rows, .float .f64 tm] w (TU w) := by
  by_cases h : Fnt tm
  · exact t5f code cell by_ turn rows tm w h
  · exact t5n code cell by_ turn rows tm w h
end Go.Proofs.Ythifemkbemhmnaa
