/- BeamEven: the walk. -/
import Derived.Test.YtjnggbpifclpcaaWb
namespace Go.Proofs.Ytjnggbpifclpcaa
open Go.ChangeShapes Go.WideShapes Go.ChangeAt Go.RowKit Go.Fl Ieee
attribute [local go_sem] run_store_float run_store_complex call34 call33 run_neg fold_eq fold_ne fold_lt fold_gt abs_eq

set_option maxHeartbeats 8000000 in
set_option maxRecDepth 20000 in
theorem t5a (n : Int) (x y : Nat) (w : World) (h : steerL n (ab x) (ab y) = []) (he : steerE n (ab x) (ab y) = 2 ∨ steerE n (ab x) (ab y) = 3 ∨ steerE n (ab x) (ab y) = 6) : Calls Try.prog 5 #[.int .i64 n, .float .f64 x, .float .f64 y] w (TU w) := by
  have H8 : Hid (Calls Try.prog 8 #[.int .i64 n, .float .f64 x, .float .f64 y] w fun e w' => ∃ p c, e = .returned (.tuple #[.slice p 0 c, .int .i64 (steerE n (ab x) (ab y))]) ∧ Hid (Up w w')) := t8e h
  rcases he with he | he | he
  all_goals
    rw [he] at H8
    clear h he
    go_enter Try.func5, Try.ntmps5
    go_wp2_with (first
      | (go_at_call 8; (with_reducible refine H8.out.mono ?_); rintro e w1 ⟨p1, c1, rfl, U1⟩)
      | (go_at_call 10; (with_reducible refine (t10 _).mono ?_); rintro e w2 ⟨rfl, U2⟩))
    go_ret
    exact ⟨rfl, U1.out.trans U2.out⟩
set_option maxHeartbeats 8000000 in
set_option maxRecDepth 20000 in
theorem t5b (N x y : Nat) (w : World) (h0 : 1 ≤ N) (h : steerL N (ab x) (ab y) = (List.range N).map (steerF (ab x) (ab y))) (he : steerE N (ab x) (ab y) = 0) (hb : (ltF (ab (Go.Fl.abs x)) (ab 8660422083433463808) || eqF (ab (Go.Fl.abs x)) (ab 8660422083433463808)) = false) : Calls Try.prog 5 #[.int .i64 N, .float .f64 x, .float .f64 y] w (TU w) := by
  have H8 : Hid (Calls Try.prog 8 #[.int .i64 N, .float .f64 x, .float .f64 y] w (StR N (steerF (ab x) (ab y)) w)) := t8s h0 h he
  clear h he
  go_enter Try.func5, Try.ntmps5
  go_wp2_with (first
    | (go_at_call 8; (with_reducible refine H8.out.mono ?_); rintro e w1 ⟨g1, c1, d1, rfl, HD1, U1⟩)
    | (go_at_call 14; (with_reducible refine (t14 _ _).mono ?_); rintro e w' ⟨rfl, hw⟩; subst w')
    | (go_at_call 10; (with_reducible refine (t10 _).mono ?_); rintro e w2 ⟨rfl, U2⟩))
  go_ret
  exact ⟨rfl, U1.out.trans U2.out⟩
/-- Both rows of numbers, place by place. -/
structure Two (N : Nat) (g1 g2 : Nat) (w : World) : Prop where
  at_ : ∀ k, k < N → ∃ c s s', w.cell? ⟨g1, k, none⟩ = some (.complex .f64 c s) ∧ w.cell? ⟨g2, k, none⟩ = some (.complex .f64 c s') ∧ Good c s ∧ Ov s s'
  first : w.cell? ⟨g1, 0, none⟩ = some (.complex .f64 4607182418800017408 0)
theorem two_of {N x y g1 g2 : Nat} {d1 d2 : List (Nat × Nat)} {w w' : World} (hN : 1 ≤ N) (hN2 : N ≤ 64) (hx : PB (some x) 900) (hy : Fnt y) (h1 : ∀ j, j < N → w.cell? ⟨g1, j, none⟩ = some (.complex .f64 d1[j]!.1 d1[j]!.2) ∧ ab2 d1[j]! = steerF (ab x) (ab y) j) (hu : Up w w') (h2 : ∀ j, j < N → w'.cell? ⟨g2, j, none⟩ = some (.complex .f64 d2[j]!.1 d2[j]!.2) ∧ ab2 d2[j]! = steerF (ab x) (ab (Go.Fl.neg y)) j) : Two N g1 g2 w' := by
  obtain ⟨x', hx', fx, x1, x2⟩ := id hx
  cases hx'
  refine ⟨fun k hk => ?_, ?_⟩
  · obtain ⟨a1, a2⟩ := h1 k hk
    obtain ⟨b1, b2⟩ := h2 k hk
    obtain ⟨c, s, s', q1, q2, q3, q4⟩ := steer_even hx hy (k := k) (by omega)
    rw [Fnt.ab fx, Fnt.ab hy, q1] at a2
    rw [Fnt.ab fx, Fnt.ab (fin_neg hy), q2] at b2
    obtain ⟨e1, e2⟩ := pair_is a2
    obtain ⟨e3, e4⟩ := pair_is b2
    rw [e1, e2] at a1
    rw [e3, e4] at b1
    exact ⟨c, s, s', cell_up a1 hu, b1, q3, q4⟩
  · obtain ⟨a1, a2⟩ := h1 0 (by omega)
    rw [Fnt.ab fx, Fnt.ab hy, steer_first hx hy] at a2
    obtain ⟨e1, e2⟩ := pair_is a2
    rw [e1, e2] at a1
    exact cell_up a1 hu
theorem Two.up {N g1 g2 : Nat} {w w' : World} (h : Two N g1 g2 w) (hu : Up w w') : Two N g1 g2 w' :=
  ⟨fun k hk => by obtain ⟨c, s, s', a, b, q⟩ := h.at_ k hk; exact ⟨c, s, s', cell_up a hu, cell_up b hu, q⟩, cell_up h.first hu⟩
set_option maxHeartbeats 8000000 in
set_option maxRecDepth 20000 in
theorem t5c (N x y : Nat) (w : World) (h0 : 1 ≤ N) (h64 : N ≤ 64) (h : steerL N (ab x) (ab y) = (List.range N).map (steerF (ab x) (ab y))) (he : steerE N (ab x) (ab y) = 0) (h' : steerL N (ab x) (ab (Go.Fl.neg y)) = (List.range N).map (steerF (ab x) (ab (Go.Fl.neg y)))) (he' : steerE N (ab x) (ab (Go.Fl.neg y)) = 0) (hb : (ltF (ab (Go.Fl.abs x)) (ab 8660422083433463808) || eqF (ab (Go.Fl.abs x)) (ab 8660422083433463808)) = true) (hx : PB (some x) 900) (hy : Fnt y) : Calls Try.prog 5 #[.int .i64 N, .float .f64 x, .float .f64 y] w (TU w) := by
  have H8 : Hid (Calls Try.prog 8 #[.int .i64 N, .float .f64 x, .float .f64 y] w (StR N (steerF (ab x) (ab y)) w)) := t8s h0 h he
  have H8' : Hid (∀ w, Calls Try.prog 8 #[.int .i64 N, .float .f64 x, .float .f64 (Go.Fl.neg y)] w (StR N (steerF (ab x) (ab (Go.Fl.neg y))) w)) := fun w => t8s h0 h' he'
  have HX : Hid (PB (some x) 900 ∧ Fnt y) := ⟨hx, hy⟩
  have z0 : (N : Int) ≤ 64 := by omega
  have z1 : (0 : Int) < (N : Int) := by omega
  have z3 : 0 < N := by omega
  clear h he h' he' hx hy
  go_enter Try.func5, Try.ntmps5
  go_wp2_with (first
    | (go_at_call 8; (with_reducible refine H8.out.mono ?_); rintro e w1 ⟨g1, c1, d1, rfl, HD1, U1⟩)
    | (go_at_call 14; (with_reducible refine (t14 _ _).mono ?_); rintro e w' ⟨rfl, hw⟩; subst w')
    | (go_at_call 8; (with_reducible refine (H8'.out _).mono ?_); rintro e w2 ⟨g2, c2, d2, rfl, HD2, U2⟩; (have HT : Hid (Two N g1 g2 w2) := two_of h0 h64 HX.out.1 HX.out.2 HD1.out U2.out HD2.out); (have cf := HT.out.first))
    | (go_at_call 15; (with_reducible refine (t15k _).mono ?_); rintro e w' ⟨rfl, hw⟩; subst w'))
  go_loopw [11] (fun vi wr => ∃ k : Nat, k ≤ N ∧ vi = .int .i64 k ∧ Hid (Two N g1 g2 wr) ∧ Hid (Up w wr)) (fun vi _ => N - (intOf vi).toNat)
  case atStart => exact ⟨0, by omega, rfl, HT, U1.out.trans U2.out⟩
  case round =>
    clear HT cf
    obtain ⟨k, hk, rfl, HT, HU⟩ := hrel
    rename World => wr
    by_cases hlt : k < N
    · obtain ⟨c, s, s', q1, q2, q3, q4⟩ := HT.out.at_ k hlt
      obtain ⟨A, D, a1, a2, a3, a4⟩ := abs_near q3
      have y1 : (k : Int) < (N : Int) := by omega
      have y2 : (0 : Int) ≤ (k : Int) := by omega
      have HA : Hid (absF (ab c) (ab s) = some A) := a1
      have rs : ∀ w, (binOp .sub 22 (.float .f64 A) (.float .f64 4607182418800017408)).run Try.prog w = .ok (.float .f64 D) w := fun w => run_fl_some .sub 22 w (by rw [a4]; exact a2)
      have rn : ∀ w, (binOp .neq 40 (.complex .f64 c s') (.complex .f64 c (Go.Fl.neg s))).run Try.prog w = .ok (.bool false) w := fun w => by rw [run_nec, ov_eq q3.fs q4, eqF_self, q3.fc.num]; rfl
      clear a1 a2 a4 q3 q4
      go_wp2_with fail
      go_quiet (first
        | (go_at_call 16; (with_reducible refine Calls.quiet_of (t16q HA.out _)))
        | (go_at_call 14; (with_reducible refine Calls.quiet_of_same (t14 _ _)))
        | (go_at_call 17; (with_reducible refine Calls.quiet_of_same (t17 _ _ _))))
      go_wp2
      go_roundw
      case rel => exact ⟨k + 1, by omega, by go_num, HT.out.up (Up.drewN _ _), HU.out.trans (Up.drewN _ _)⟩
      case measure => simp [intOf]; omega
    · obtain rfl : k = N := by omega
      go_wp2_with (go_at_call 10; (with_reducible refine (t10 _).mono ?_); rintro e w5 ⟨rfl, U5⟩)
      go_ret
      exact ⟨rfl, HU.out.trans U5.out⟩
theorem fin_fnt {x : Nat} (h : fin (ab x) = true) : Fnt x := by
  unfold fin at h
  rw [Bool.and_eq_true, Bool.not_eq_true'] at h
  obtain ⟨h1, h2⟩ := h
  have hn : isN x = false := by
    cases e : isN x with
    | false => rfl
    | true => rw [ab_none e] at h1; cases h1
  have hn2 : isN (Go.Fl.abs x) = false := by rw [isN_abs]; exact hn
  rw [ab_some hn] at h2
  have hm : ab 9218868437227405311 = some 9218868437227405311 := by decide +kernel
  simp only [Option.map_some] at h2
  rw [hm, gtF_lin hn2 (by decide +kernel)] at h2
  have hlt : Go.Fl.abs x < 2 ^ 63 := Nat.mod_lt _ (by omega)
  rw [lin_low hlt, lin_low (by omega : 9218868437227405311 < 2 ^ 63)] at h2
  have h3 : ¬ ((9218868437227405311 : Nat) : Int) < (Go.Fl.abs x : Int) := by simpa using h2
  unfold Fnt
  unfold Go.Fl.abs at h3
  omega
theorem f900 : Fnt 8660422083433463808 ∧ val 8660422083433463808 = pw 900 := ⟨by unfold Fnt; decide, by decide +kernel⟩
theorem pb_of {x : Nat} (hx : Fnt x) (h : (ltF (ab (Go.Fl.abs x)) (ab 8660422083433463808) || eqF (ab (Go.Fl.abs x)) (ab 8660422083433463808)) = true) : PB (some x) 900 := by
  rw [ltF_val (fin_abs hx) f900.1, eqF_val (fin_abs hx) f900.1, f900.2, vabs, Bool.or_eq_true, decide_eq_true_eq, decide_eq_true_eq] at h
  have h2 : absR (val x) ≤ pw 900 := by rcases h with h | h <;> grind
  unfold absR at h2
  refine ⟨x, rfl, hx, ?_, ?_⟩ <;> (split at h2 <;> grind)
theorem t5 (n : Int) (x y : Nat) (w : World) : Calls Try.prog 5 #[.int .i64 n, .float .f64 x, .float .f64 y] w (TU w) := by
  rcases steer_cases n (ab x) (ab y) with ⟨h1, h2⟩ | ⟨N, rfl, h1, h2, h3, h4, h5, h6⟩
  · exact t5a n x y w h1 h2
  · cases hb : (ltF (ab (Go.Fl.abs x)) (ab 8660422083433463808) || eqF (ab (Go.Fl.abs x)) (ab 8660422083433463808)) with
    | false => exact t5b N x y w h1 h5 h6 hb
    | true =>
      have fx := fin_fnt h3
      have fy := fin_fnt h4
      have h4' : fin (ab (Go.Fl.neg y)) = true := fin_of (fin_neg fy)
      refine t5c N x y w h1 h2 h5 h6 ?_ ?_ hb (pb_of fx hb) fy
      · unfold steerL
        rw [if_neg (by omega), if_neg (by omega), h3, h4']
        rfl
      · unfold steerE
        rw [if_neg (by omega), if_neg (by omega), h3, h4']
        rfl
end Go.Proofs.Ytjnggbpifclpcaa
