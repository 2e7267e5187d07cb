/- Sector of both sides. -/
import Derived.Test.YtlgejebgkkmacaaLe
import Derived.Test.YtlgejebgkkmacaaEc
import Derived.Test.YtlgejebgkkmacaaPf
namespace Go.Proofs.Ytlgejebgkkmacaa
open Go.ChangeShapes Go.WideShapes Go.ChangeAt Go.RowKit Go.Fl Ieee
attribute [local go_sem] run_store_float run_store_complex call39 call50 run_neg fold_eq fold_ne fold_lt fold_gt abs_eq

theorem Zr.val {u : Nat} (h : Zr u) : Fnt u ∧ Go.Fl.val u = 0 := by
  have h1 := zr_abs h
  have h2 := vabs u
  rw [h1, fzero.2] at h2
  refine ⟨?_, ?_⟩
  · unfold Fnt; unfold Go.Fl.abs at h1; omega
  · unfold absR at h2; split at h2 <;> grind
theorem wrap_any {x : Nat} (hx : Fnt x) : ∃ w, wrapF (some x) = some w ∧ Fnt w ∧ -1 / 2 ≤ val w ∧ val w ≤ 1 / 2 := by
  rcases size_cases x with h | h
  · exact wrap_val hx h.1 h.2
  · obtain ⟨u, h1, h2⟩ := wrap_big hx h
    exact ⟨u, h1, h2.val.1, by rw [h2.val.2]; decide +kernel, by rw [h2.val.2]; decide +kernel⟩
theorem up_any' {w : Nat} (hw : Fnt w) (h1 : -1 / 2 ≤ val w) : ∃ b, upF (some w) = some b ∧ Fnt b ∧ 0 ≤ val b ∧ val b < 1 := by
  unfold upF
  have g := ltF_val hw fzero.1
  rw [Fnt.ab hw, fzero.2] at g
  rw [g]
  have key : ∀ t, Fnt t → 0 ≤ val t → ∃ b, (if gtF (some t) (ab 4607182418800017408) || eqF (some t) (ab 4607182418800017408) then ab 0 else some t) = some b ∧ Fnt b ∧ 0 ≤ val b ∧ val b < 1 := by
    intro t ht h0
    have g1 := gtF_val ht fone.1
    have g2 := eqF_val ht fone.1
    rw [Fnt.ab ht, fone.2] at g1 g2
    rw [g1, g2]
    by_cases h : val t < 1
    · have a : ¬ 1 < val t := by grind
      have b : ¬ val t = 1 := by grind
      exact ⟨t, by simp [a, b], ht, h0, h⟩
    · have hc : (decide (1 < val t) || decide (val t = 1)) = true := by
        by_cases h3 : val t = 1
        · simp [h3]
        · have : 1 < val t := by grind
          simp [this]
      rw [hc, if_pos rfl]
      exact ⟨0, rfl, fzero.1, by rw [fzero.2]; decide +kernel, by rw [fzero.2]; decide +kernel⟩
  by_cases hn : val w < 0
  · have e1 := fone.2
    obtain ⟨t, t1, t2, t3, t4⟩ := add_between hw fone.1 fzero.2 fone.2 (by grind) (by grind) (by grind) (by grind)
    rw [Fnt.ab fone.1]
    simp only [hn, decide_true, if_true, t1]
    have := key t t2 t3
    rwa [Fnt.ab fone.1] at this
  · simp only [hn, decide_false, Bool.false_eq_true, if_false]
    exact key w hw (by grind)
def intF (q : Option Nat) : Int := (floatToIntVal .f64 (q.getD 0) .i64).getD 0
/-- What Sector answers: the sector, the error. -/
def secF (x : Option Nat) (n : Int) : Int × Int :=
  if n < 1 then (0, 2) else if n > 4096 then (0, 2) else if fin x = false then (0, 6)
  else (min (intF ((bin .mul (upF (wrapF x)) (ab (floatOfInt .f64 n))).map floor)) (n - 1), 0)
theorem int4096 {n : Int} (h : n ≤ 4096) : (n : Rat) ≤ 4096 := by
  have := (Rat.intCast_le_intCast (a := n) (b := 4096)).2 h
  exact this
theorem big4096 : (4096 : Rat) ≤ pw 1000 := by
  have h1 : (4096 : Rat) = pw 12 := by decide +kernel
  have h2 := pw_lt (a := 12) (b := 1000) (by decide)
  rw [h1]
  generalize pw 1000 = W at *
  grind
theorem prod_some {b : Nat} {n : Int} (hb : Fnt b) (h0 : 0 ≤ val b) (h1 : val b < 1) (n1 : 1 ≤ n) (n2 : n ≤ 4096) : ∃ m, bin .mul (some b) (ab (floatOfInt .f64 n)) = some m ∧ Fnt m ∧ 0 ≤ val m ∧ val m ≤ (n : Rat) := by
  obtain ⟨fn, vn⟩ := int_whole (z := n) (by unfold P53; omega) (by unfold P53; omega)
  have q1 : (1 : Rat) ≤ (n : Rat) := by exact_mod_cast n1
  have q2 : (n : Rat) ≤ 4096 := int4096 n2
  obtain ⟨m, hm⟩ := bin_some_mul hb fn
  have p0 : 0 ≤ val b * (n : Rat) := Rat.mul_nonneg h0 (by grind)
  have p1 : val b * (n : Rat) ≤ (n : Rat) := by
    have : 0 ≤ (1 - val b) * (n : Rat) := Rat.mul_nonneg (by grind) (by grind)
    grind
  have hB := big4096
  have k1 : val b * val (floatOfInt .f64 n) ≤ pw 1000 := by rw [vn]; generalize pw 1000 = W at *; grind
  have k2 : -pw 1000 ≤ val b * val (floatOfInt .f64 n) := by rw [vn]; generalize pw 1000 = W at *; grind
  have m1 := mul_mono hb fn hm k1 k2 (z := floatOfInt .f64 n)
  have m2 := mul_mono hb fn hm k1 k2 (z := 0)
  rw [vn] at m1
  rw [vn, fzero.2] at m2
  obtain ⟨f, _⟩ := mul_near hb fn hm (B := 4096) (by rw [vn]; grind) (by rw [vn]; grind) hB
  exact ⟨m, by rw [Fnt.ab fn]; exact hm, f, m2.2 p0, m1.1 p1⟩
theorem sec_some {x : Nat} {n : Int} (hx : fin (ab x) = true) (n1 : 1 ≤ n) (n2 : n ≤ 4096) : ∃ u b m q, ∃ K : Nat, wrapF (ab x) = some u ∧ isN u = false ∧ upF (some u) = some b ∧ isN b = false ∧ bin .mul (some b) (ab (floatOfInt .f64 n)) = some m ∧ isN m = false ∧ floor m = q ∧ floatToIntVal .f64 q .i64 = some (K : Int) ∧ secF (ab x) n = (min (K : Int) (n - 1), 0) ∧ (K : Int) ≤ n := by
  have fx := fin_iff hx
  obtain ⟨u, u1, u2, u3, u4⟩ := wrap_any fx
  obtain ⟨b, b1, b2, b3, b4⟩ := up_any' u2 u3
  obtain ⟨m, m1, m2, m3, m4⟩ := prod_some b2 b3 b4 n1 n2
  have q2 : (n : Rat) ≤ 4096 := int4096 n2
  have hB := big4096
  obtain ⟨f1, f2, f3, f4⟩ := floor_val m2 m3 (by generalize pw 1000 = W at *; grind)
  obtain ⟨K, k1, k2, k3, k4⟩ := toInt_val f1 f4 (by grind)
  have hK : (K : Rat) ≤ (n : Rat) := by grind
  refine ⟨u, b, m, floor m, K, by rw [Fnt.ab fx]; exact u1, u2.num, b1, b2.num, m1, m2.num, rfl, k1, ?_, by exact_mod_cast hK⟩
  unfold secF
  rw [if_neg (by omega), if_neg (by omega), if_neg (by rw [hx]; decide), Fnt.ab fx, u1, b1, m1]
  unfold intF
  simp [k1]
/-- What a call leaves that hands back two whole numbers. -/
def I2 (w : World) (p : Int × Int) (e : Ending) (w' : World) : Prop := e = .returned (.tuple #[.int .i64 p.1, .int .i64 p.2]) ∧ ∃ n, w' = w.drewN n
theorem run_conv (q : Nat) (z : Int) (h : floatToIntVal .f64 q .i64 = some z) (w : World) : (convert 22 3 (.float .f64 q)).run Try.prog w = .ok (.int .i64 z) w :=
  run_convert_float_int w 22 3 .f64 .i64 q z (by kernel_rfl) Try.underlying3 h
theorem run_fl_some {P : Program} (op : BinOp) (t : TypeId) {x y r : Nat} (w : World) (h : bin op (ab x) (ab y) = some r) : (binOp op t (.float .f64 x) (.float .f64 y)).run P w = .ok (.float .f64 r) w :=
  run_float_arith w op t .f64 x y r (by rw [bits_ab]; exact h)
theorem fr_some {f : Nat} {vs : Array Value} {w : World} {v : Option Nat} {q : Nat} (h : Calls Try.prog f vs w (FR w v)) (hv : v = some q) : Calls Try.prog f vs w fun e w' => e = .returned (.float .f64 q) ∧ ∃ n, w' = w.drewN n := by
  refine h.mono ?_
  rintro e w' ⟨r, n, rfl, rfl, hr⟩
  rw [of_ab (hr.out.trans hv)]
  exact ⟨rfl, n, rfl⟩
theorem t42k {x q : Nat} (hx : isN x = false) (hq : floor x = q) (w : World) : Calls Try.prog 42 #[.float .f64 x] w fun e w' => e = .returned (.float .f64 q) ∧ ∃ n, w' = w.drewN n := fr_some (t42 x w) (show (ab x).map floor = some q by rw [ab_some hx, ← hq]; rfl)
theorem t26k {x q : Nat} (hq : wrapF (ab x) = some q) (w : World) : Calls Try.prog 26 #[.float .f64 x] w fun e w' => e = .returned (.float .f64 q) ∧ ∃ n, w' = w.drewN n := fr_some (t26 x w) hq
theorem t44k {x q : Nat} (hq : wrapF (ab x) = some q) (w : World) : Calls Try.prog 44 #[.float .f64 x] w fun e w' => e = .returned (.float .f64 q) ∧ ∃ n, w' = w.drewN n := fr_some (t44 x w) hq
theorem t31k {x q : Nat} (hq : upF (ab x) = some q) (w : World) : Calls Try.prog 31 #[.float .f64 x] w fun e w' => e = .returned (.float .f64 q) ∧ ∃ n, w' = w.drewN n := fr_some (t31 x w) hq
theorem t35k {x q : Nat} (hq : upF (ab x) = some q) (w : World) : Calls Try.prog 35 #[.float .f64 x] w fun e w' => e = .returned (.float .f64 q) ∧ ∃ n, w' = w.drewN n := fr_some (t35 x w) hq
theorem t43k {x : Nat} {b : Bool} (h : fin (ab x) = b) (w : World) : Calls Try.prog 43 #[.float .f64 x] w fun e w' => e = .returned (.bool b) ∧ w' = w := by rw [← h]; exact t43 x w
set_option maxHeartbeats 2000000 in
theorem t15 (x : Nat) (n : Int) (w : World) (hn : -9223372036854775808 ≤ n) (hn' : n ≤ 9223372036854775807) : Calls Try.prog 15 #[.float .f64 x, .int .i64 n] w (I2 w (secF (ab x) n)) := by
  by_cases h1 : n < 1
  · have HC : Hid (secF (ab x) n = (0, 2)) := by show _ = _; unfold secF; rw [if_pos h1]
    go_enter Try.func15, Try.ntmps15
    go_wp2
    exact bodyPost_ret (results_tmp2 Try.results15 _ _ _) rfl ⟨by rw [HC.out]; rfl, 0, rfl⟩
  by_cases h2 : n > 4096
  · have HC : Hid (secF (ab x) n = (0, 2)) := by show _ = _; unfold secF; rw [if_neg h1, if_pos h2]
    go_enter Try.func15, Try.ntmps15
    go_wp2
    exact bodyPost_ret (results_tmp2 Try.results15 _ _ _) rfl ⟨by rw [HC.out]; rfl, 0, rfl⟩
  cases hf : fin (ab x)
  · have HC : Hid (secF (ab x) n = (0, 6)) := by show _ = _; unfold secF; rw [if_neg h1, if_neg h2, if_pos hf]
    all_goals
      cases e1 : eqF (ab x) (ab x)
      · have E1 : Hid (eqF (ab x) (ab x) = !true) := e1
        have G1 : Hid True := trivial
        clear e1 hf
        go_enter Try.func15, Try.ntmps15
        go_wp2_with (first
            | (go_at_call 40; (with_reducible refine (t40k E1.out _).mono ?_); rintro e w' ⟨rfl, rfl⟩)
            | (go_at_call 41; (with_reducible refine (t41k G1.out _).mono ?_); rintro e w' ⟨rfl, rfl⟩))
        exact bodyPost_ret (results_tmp2 Try.results15 _ _ _) rfl ⟨by rw [HC.out]; rfl, 0, rfl⟩
      · have E1 : Hid (eqF (ab x) (ab x) = !false) := e1
        have G1 : Hid (gtF ((ab x).map abs) (ab 9218868437227405311) = true) := by
          show _ = _
          unfold fin at hf
          rw [e1] at hf
          simpa using hf
        clear e1 hf
        go_enter Try.func15, Try.ntmps15
        go_wp2_with (first
            | (go_at_call 40; (with_reducible refine (t40k E1.out _).mono ?_); rintro e w' ⟨rfl, rfl⟩)
            | (go_at_call 41; (with_reducible refine (t41k G1.out _).mono ?_); rintro e w' ⟨rfl, rfl⟩))
        exact bodyPost_ret (results_tmp2 Try.results15 _ _ _) rfl ⟨by rw [HC.out]; rfl, 0, rfl⟩
  · obtain ⟨u, b, m, q, K, s1, s2, s3, s4, s5, s6, s7, s8, s9, s10⟩ := sec_some hf (show 1 ≤ n by omega) (show n ≤ 4096 by omega)
    have HC : Hid (secF (ab x) n = (min (K : Int) (n - 1), 0)) := s9
    have HW : Hid (wrapF (ab x) = some u) := s1
    have HB : Hid (upF (ab u) = some b) := by show _ = _; rw [ab_some s2]; exact s3
    have HM : Hid (isN m = false) := s6
    have HQ : Hid (floor m = q) := s7
    have F1 : ∀ w : World, (binOp .mul 22 (.float .f64 b) (.float .f64 (floatOfInt .f64 n))).run Try.prog w = .ok (.float .f64 m) w := fun w => run_fl_some .mul 22 w (by rw [ab_some s4]; exact s5)
    have F2 : ∀ w : World, (convert 22 3 (.float .f64 q)).run Try.prog w = .ok (.int .i64 K) w := fun w => run_conv q K s8 w
    all_goals
      have E1 : Hid (eqF (ab x) (ab x) = !false) := by
        show _ = _
        unfold fin at hf
        cases h : eqF (ab x) (ab x)
        · rw [h] at hf; cases hf
        · rfl
      have G1 : Hid (gtF ((ab x).map abs) (ab 9218868437227405311) = false) := by
        show _ = _
        unfold fin at hf
        cases h : gtF ((ab x).map abs) (ab 9218868437227405311)
        · rfl
        · rw [h, Bool.not_true, Bool.and_false] at hf; cases hf
      clear hf s1 s2 s3 s4 s5 s6 s7 s8 s9
      go_enter Try.func15, Try.ntmps15
      go_wp2_with (first
            | ((with_reducible refine upon_fl (by simp) ?_); intro r n9 hr)
            | (go_at_call 40; (with_reducible refine (t40k E1.out _).mono ?_); rintro e w' ⟨rfl, rfl⟩)
            | (go_at_call 41; (with_reducible refine (t41k G1.out _).mono ?_); rintro e w' ⟨rfl, rfl⟩)
            | (go_at_call 26; (with_reducible refine (t26k HW.out _).mono ?_); rintro e w' ⟨rfl, n9, rfl⟩)
            | (go_at_call 31; (with_reducible refine (t31k HB.out _).mono ?_); rintro e w' ⟨rfl, n9, rfl⟩)
            | (go_at_call 42; (with_reducible refine (t42k HM.out HQ.out _).mono ?_); rintro e w' ⟨rfl, n9, rfl⟩))
      all_goals exact bodyPost_ret (results_tmp2 Try.results15 _ _ _) rfl ⟨by rw [HC.out]; simp; omega, _, rfl⟩
set_option maxHeartbeats 2000000 in
theorem t16 (x : Nat) (n : Int) (w : World) (hn : -9223372036854775808 ≤ n) (hn' : n ≤ 9223372036854775807) : Calls Try.prog 16 #[.float .f64 x, .int .i64 n] w (I2 w (secF (ab x) n)) := by
  by_cases h1 : n < 1
  · have HC : Hid (secF (ab x) n = (0, 2)) := by show _ = _; unfold secF; rw [if_pos h1]
    go_enter Try.func16, Try.ntmps16
    go_wp2
    exact bodyPost_ret (results_tmp2 Try.results16 _ _ _) rfl ⟨by rw [HC.out]; rfl, 0, rfl⟩
  by_cases h2 : n > 4096
  · have HC : Hid (secF (ab x) n = (0, 2)) := by show _ = _; unfold secF; rw [if_neg h1, if_pos h2]
    go_enter Try.func16, Try.ntmps16
    go_wp2
    exact bodyPost_ret (results_tmp2 Try.results16 _ _ _) rfl ⟨by rw [HC.out]; rfl, 0, rfl⟩
  cases hf : fin (ab x)
  · have HC : Hid (secF (ab x) n = (0, 6)) := by show _ = _; unfold secF; rw [if_neg h1, if_neg h2, if_pos hf]
    all_goals
      have HF : Hid (fin (ab x) = false) := hf
      clear hf
      go_enter Try.func16, Try.ntmps16
      go_wp2_with (first
            | (go_at_call 43; (with_reducible refine (t43k HF.out _).mono ?_); rintro e w' ⟨rfl, rfl⟩))
      exact bodyPost_ret (results_tmp2 Try.results16 _ _ _) rfl ⟨by rw [HC.out]; rfl, 0, rfl⟩
  · obtain ⟨u, b, m, q, K, s1, s2, s3, s4, s5, s6, s7, s8, s9, s10⟩ := sec_some hf (show 1 ≤ n by omega) (show n ≤ 4096 by omega)
    have HC : Hid (secF (ab x) n = (min (K : Int) (n - 1), 0)) := s9
    have HW : Hid (wrapF (ab x) = some u) := s1
    have HB : Hid (upF (ab u) = some b) := by show _ = _; rw [ab_some s2]; exact s3
    have HM : Hid (isN m = false) := s6
    have HQ : Hid (floor m = q) := s7
    have F1 : ∀ w : World, (binOp .mul 22 (.float .f64 b) (.float .f64 (floatOfInt .f64 n))).run Try.prog w = .ok (.float .f64 m) w := fun w => run_fl_some .mul 22 w (by rw [ab_some s4]; exact s5)
    have F2 : ∀ w : World, (convert 22 3 (.float .f64 q)).run Try.prog w = .ok (.int .i64 K) w := fun w => run_conv q K s8 w
    all_goals
      have HF : Hid (fin (ab x) = true) := hf
      clear hf s1 s2 s3 s4 s5 s6 s7 s8 s9
      go_enter Try.func16, Try.ntmps16
      go_wp2_with (first
            | ((with_reducible refine upon_fl (by simp) ?_); intro r n9 hr)
            | (go_at_call 43; (with_reducible refine (t43k HF.out _).mono ?_); rintro e w' ⟨rfl, rfl⟩)
            | (go_at_call 44; (with_reducible refine (t44k HW.out _).mono ?_); rintro e w' ⟨rfl, n9, rfl⟩)
            | (go_at_call 35; (with_reducible refine (t35k HB.out _).mono ?_); rintro e w' ⟨rfl, n9, rfl⟩)
            | (go_at_call 42; (with_reducible refine (t42k HM.out HQ.out _).mono ?_); rintro e w' ⟨rfl, n9, rfl⟩))
      all_goals exact bodyPost_ret (results_tmp2 Try.results16 _ _ _) rfl ⟨by rw [HC.out]; simp; omega, _, rfl⟩
end Go.Proofs.Ytlgejebgkkmacaa
