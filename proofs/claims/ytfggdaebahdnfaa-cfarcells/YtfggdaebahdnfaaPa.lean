/- What CfarMore leans on: whole numbers, all of a list, which looks fit. -/
import Derived.Test.YtfggdaebahdnfaaYf
import Derived.Test.YtfggdaebahdnfaaJc
namespace Go.Proofs.Ytfggdaebahdnfaa
open Go.ChangeShapes Go.WideShapes Go.ChangeAt Go.RowKit Go.Fl Go.Sort
attribute [local go_sem] run_store_float run_store_func call35 call46 run_neg fold_eq fold_ne fold_lt fold_gt abs_eq

theorem upon44 {o : Oper} {a : Act} {next : Act → World → Prop} {Q : Exit → Act → World → Prop} {x : Nat} {w : World}
    (hk : ∀ r n, Hid (ab r = (ab x).map floor) → o.upon Try.prog a next Q (.ok (.value (.float .f64 r)) (w.drewN n))) :
    o.upon Try.prog a next Q ((callFunc 44 #[.float .f64 x]).run Try.prog w) := by
  rw [run_callFunc_extern Try.func44 (by kernel_rfl) (by kernel_rfl) (by kernel_rfl) (e := Extern.MathFloor.toIntegral "math.archFloor" .down) (by kernel_rfl)]
  obtain ⟨r, n, e, hr⟩ := run_floor (P := Try.prog) "math.archFloor" x w
  rw [e]
  exact hk r n hr
theorem t26 (x : Nat) (w : World) : Calls Try.prog 26 #[.float .f64 x] w (FR w ((ab x).map floor)) := by
  go_enter Try.func26, Try.ntmps26
  go_wp2_with ((with_reducible refine upon44 ?_); intro r n hr)
  go_ret
  exact FR.mkN hr.out
/-- What a call leaves that tells a truth and only draws. -/
def BD (w : World) (v : Bool) (e : Ending) (w' : World) : Prop := e = .returned (.bool v) ∧ ∃ m, w' = w.drewN m
theorem floor_ab {x : Nat} (h : isN x = false) : (ab x).map floor = ab (floor x) := by
  rw [ab_some h, ab_some (floor_ok h)]; rfl
theorem t25w (x : Nat) (w : World) : Calls Try.prog 25 #[.float .f64 x] w (BD w (wholeB x)) := by
  cases h1 : (gtF (ab x) (ab 0) || eqF (ab x) (ab 0))
  · have e : wholeB x = false := by unfold wholeB; rw [h1]; rfl
    rw [e]
    go_enter Try.func25, Try.ntmps25
    go_wp2
    go_ret
    exact ⟨rfl, 0, rfl⟩
  · have hN : isN x = false := by
      simp only [Bool.or_eq_true] at h1
      rcases h1 with h | h
      · exact (gt_lin.1 h).1
      · exact (eq_lin h).1
    cases h2 : (ltF (ab x) (ab 4742290407621132288) || eqF (ab x) (ab 4742290407621132288))
    · have e : wholeB x = false := by unfold wholeB; rw [h1, h2]; rfl
      rw [e]
      go_enter Try.func25, Try.ntmps25
      go_wp2
      go_ret
      exact ⟨rfl, 0, rfl⟩
    · have E : Hid (wholeB x = eqF (ab x) ((ab x).map floor)) := by
        show _ = _
        unfold wholeB; rw [h1, h2, floor_ab hN]; rfl
      go_enter Try.func25, Try.ntmps25
      go_wp2_with (go_at_call 26; (with_reducible refine (t26 _ _).mono ?_); rintro e w' ⟨r, k, rfl, rfl, hr⟩)
      go_ret
      refine ⟨?_, k, rfl⟩
      rw [E.out, ← hr.out]
      rfl
/-- Is each number of a list so? -/
def allB (F : Nat → Bool) (d : Array Nat) : Nat → Bool
  | 0 => true
  | i + 1 => allB F d i && F d[i]!
theorem allB_false {F : Nat → Bool} {d : Array Nat} {i n : Nat} (hi : i < n) (h : F d[i]! = false) : allB F d n = false := by
  induction n with
  | zero => omega
  | succ n ih =>
    unfold allB
    rcases Nat.lt_succ_iff_lt_or_eq.1 hi with q | rfl
    · rw [ih q]; rfl
    · rw [h, Bool.and_false]
theorem allB_true {F : Nat → Bool} {d : Array Nat} {n : Nat} (h : allB F d n = true) {i : Nat} (hi : i < n) : F d[i]! = true := by
  cases hf : F d[i]!
  · rw [allB_false hi hf] at h; cases h
  · rfl
set_option maxHeartbeats 1000000 in
theorem t22 {w : World} {p : Option Addr} {n cap : Nat} {d : Array Nat} {k : FuncId} {F : Nat → Bool} (h : SV w p n cap d) (hn : n < 9223372036854775807) (eg : ∀ args w, (callFunc k args).run Try.prog w = .ok (.enter k args) w) (hF : ∀ x W, Calls Try.prog k #[.float .f64 x] W (BD W (F x))) :
    Calls Try.prog 22 #[.slice p n cap, .func (.func k) #[] #[]] w (BD w (allB F d n)) := by
  have H : Hid (SV w p n cap d) := h
  have CF : Hid (∀ x W, Calls Try.prog k #[.float .f64 x] W (BD W (F x))) := hF
  clear h hF
  go_enter Try.func22, Try.ntmps22
  go_wp2
  go_loopw [6, 9] (fun _ vi wr => ∃ i m : Nat, i ≤ n ∧ vi = .int .i64 i ∧ Hid (allB F d i = true) ∧ wr = w.drewN m) (fun _ vi _ => n - (intOf vi).toNat)
  case atStart => exact ⟨0, 0, by omega, rfl, rfl, rfl⟩
  case round =>
    obtain ⟨i, m, hi, rfl, HA, hw⟩ := hrel
    rename World => wr
    have HU : Hid (Up w wr) := by rw [hw]; exact Up.drewN _ _
    have HW : Hid (wr = w.drewN m) := hw
    clear hw
    by_cases hlt : i < n
    · obtain ⟨b1, o1, e1, r1⟩ := H.out.rd (by omega)
      subst e1
      obtain ⟨x, hx⟩ : ∃ x, d[i]! = x := ⟨_, rfl⟩
      have c1 := cell_up (r1 i (by rw [H.out.len]; exact hlt)) HU.out
      rw [hx] at c1
      have HX : Hid _ := hx
      have z1 : (i : Int) < (n : Int) := by omega
      obtain ⟨f, hf⟩ : ∃ f, F x = f := ⟨_, rfl⟩
      have CX : Hid (Calls Try.prog k #[.float .f64 x] wr (BD wr f)) := hf ▸ CF.out x wr
      have HFX : Hid _ := hf
      clear r1 hx hf
      cases f
      · go_wp2_with fail
        (with_reducible refine CX.out.mono ?_)
        rintro e w2 ⟨rfl, m2, hw2⟩
        go_wp2
        go_ret
        refine ⟨?_, m + m2, by rw [HW.out, World.drewN_drewN]⟩
        rw [allB_false hlt (by rw [HX.out]; exact HFX.out)]
        rfl
      · go_wp2_with fail
        (with_reducible refine CX.out.mono ?_)
        rintro e w2 ⟨rfl, m2, hw2⟩
        have HW2 : Hid (w2 = w.drewN (m + m2)) := by show _ = _; rw [hw2, HW.out, World.drewN_drewN]
        clear hw2
        go_wp2
        go_roundw
        case rel =>
          refine ⟨i + 1, m + m2, by omega, by go_num, ?_, HW2.out⟩
          show allB F d (i + 1) = true
          unfold allB
          rw [HA.out, HX.out, HFX.out]; rfl
        case measure => simp [intOf]; omega
    · obtain rfl : i = n := by omega
      go_wp2
      go_ret
      refine ⟨?_, m, HW.out⟩
      rw [HA.out]; rfl
/-- Do the numbers of a look let a list in? -/
def fitsB (n : Nat) (g t m : Int) (x : Nat) : Bool := !workF n t && decide (n ≤ 16384) && mayF g t m && eqF (bin .sub (ab x) (ab x)) (ab 0)
set_option maxHeartbeats 2000000 in
theorem t19 {w : World} {p : Option Addr} {n cap x : Nat} {a g t m : Int} (hn : n < 9223372036854775808) :
    Calls Try.prog 19 #[.slice p n cap, .agg #[.int .i8 a, .int .i64 g, .int .i64 t, .int .i64 m, .float .f64 x]] w fun e w' => e = .returned (.bool (fitsB n g t m x)) ∧ Hid (Up w w') := by
  obtain ⟨b, hb⟩ : ∃ b, workF n t = b := ⟨_, rfl⟩
  have HB : Hid _ := hb
  clear hb
  go_enter Try.func19, Try.ntmps19
  cases b
  · go_wp2_with (first
      | (go_at_call 8; (with_reducible refine (t8k hn HB.out _).mono ?_); rintro e w1 ⟨rfl, HU1⟩; (obtain ⟨l0, l1, l2, l3, l4⟩ := (LK.new w a g t m x).up HU1.out))
      | ((with_reducible refine upon_fl (by simp) ?_); intro r3 k3 hr3))
    all_goals
      go_ret
      go_tidy
      refine ⟨?_, by first | exact (Up.alloc _ _).trans HU1.out | exact ((Up.alloc _ _).trans HU1.out).trans (Up.drewN _ _)⟩
      unfold fitsB mayF
      rw [HB.out]
      clear l0 l1 l2 l3 l4
      refine congrArg (fun b => Ending.returned (Value.bool b)) (?_ : (_ : Bool) = _)
      first
        | (rw [← hr3.out, decide_eq_true (show n ≤ 16384 by omega), decide_eq_true (show 0 ≤ g by omega), decide_eq_true (show g ≤ 16384 by omega), decide_eq_true (show 1 ≤ t by omega), decide_eq_true (show t ≤ 16384 by omega), decide_eq_true (show 0 ≤ m by omega), decide_eq_true (show m ≤ 32768 by omega)]; rfl)
        | (symm; rw [← Bool.not_eq_true]; simp only [Bool.and_eq_true, decide_eq_true_eq]; omega)
  · go_wp2_with (go_at_call 8; (with_reducible refine (t8k hn HB.out _).mono ?_); rintro e w1 ⟨rfl, HU1⟩)
    go_ret
    refine ⟨?_, (Up.alloc _ _).trans HU1.out⟩
    unfold fitsB; rw [HB.out]; rfl
end Go.Proofs.Ytfggdaebahdnfaa
