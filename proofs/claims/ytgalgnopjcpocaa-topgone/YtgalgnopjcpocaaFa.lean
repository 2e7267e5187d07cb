/- Floats compared; a map fed and asked, whatever it has seen. -/
import Derived.Test.YtgalgnopjcpocaaEa
import Derived.Test.YtgalgnopjcpocaaRc
namespace Go.Proofs.Ytgalgnopjcpocaa
open Go.ChangeShapes Go.WideShapes Go.ChangeAt Go.RowKit Go.Fl Ieee
attribute [local go_sem] run_store_float run_store_c isSome_set call20 call33 run_neg fold_eq fold_ne fold_lt fold_gt abs_eq

set_option maxRecDepth 20000 in
theorem t19 (x y : Nat) (w : World) : Calls Try.prog 19 #[.float .f64 x, .float .f64 y] w fun e w' => e = .returned (.bool (ab x == ab y)) ∧ w' = w := by
  go_enter Try.func19, Try.ntmps19
  go_wp2
  all_goals (go_ret; go_tidy; refine ⟨?_, rfl⟩; rw [same_ab])
  all_goals simp_all [eqF_self]
  exact int_beq x y
theorem t19k {x y : Nat} (h : ab x = ab y) (w : World) : Calls Try.prog 19 #[.float .f64 x, .float .f64 y] w fun e w' => e = .returned (.bool true) ∧ w' = w := by
  have := t19 x y w
  rw [h, beq_self_eq_true] at this
  exact this
/-- A slice of floats that can be read. -/
def VF (w : World) (p : Option Addr) (n : Nat) (f : Nat → Nat) : Prop := 0 < n → ∃ b o, p = some ⟨b, o, none⟩ ∧ RF w b o n f
theorem VF.up {w w' : World} {p : Option Addr} {n : Nat} {f : Nat → Nat} (h : VF w p n f) (hu : Up w w') : VF w' p n f := fun hp => by
  obtain ⟨b, o, e, r⟩ := h hp
  exact ⟨b, o, e, r.up hu⟩
set_option maxRecDepth 20000 in
set_option maxHeartbeats 1000000 in
theorem t16 {w : World} {pa pb : Option Addr} {n ca cb : Nat} {fa fb : Nat → Nat} (ha : VF w pa n fa) (hb : VF w pb n fb) (h : ∀ i, i < n → ab (fa i) = ab (fb i)) (hn : n ≤ 1000000) : Calls Try.prog 16 #[.slice pa n ca, .slice pb n cb] w fun e w' => e = .returned (.bool true) ∧ ∃ m, w' = w.drewN m := by
  have HA : Hid (VF w pa n fa) := ha
  have HB : Hid (VF w pb n fb) := hb
  have HE : Hid (∀ i, i < n → ab (fa i) = ab (fb i)) := h
  have z0 : (n : Int) ≤ 1000000 := by omega
  clear ha hb h
  go_enter Try.func16, Try.ntmps16
  go_wp2
  go_loopw [5, 6] (fun vi _ wr => ∃ i m : Nat, i ≤ n ∧ vi = .int .i64 i ∧ wr = w.drewN m) (fun vi _ _ => n - (intOf vi).toNat)
  case atStart => exact ⟨0, 0, by omega, rfl, rfl⟩
  case round =>
    obtain ⟨i, m, hi, rfl, hw⟩ := hrel
    have HU : Hid (Up w wr) := by rw [hw]; exact Up.drewN _ _
    have HW : Hid (wr = w.drewN m) := hw
    clear hw
    by_cases hlt : i < n
    · obtain ⟨b1, o1, e1, r1⟩ := HA.out (by omega)
      obtain ⟨b2, o2, e2, r2⟩ := HB.out (by omega)
      subst e1
      subst e2
      have c1 := cell_up (r1 i hlt) HU.out
      have c2 := cell_up (r2 i hlt) HU.out
      have HX : Hid (ab (fa i) = ab (fb i)) := HE.out i hlt
      generalize fa i = x at c1 HX
      generalize fb i = y at c2 HX
      have z1 : (i : Int) < (n : Int) := by omega
      have z2 : (0 : Int) ≤ (i : Int) := by omega
      clear r1 r2
      go_wp2_with fail
      go_quiet (first | (go_at_call 19; (with_reducible refine Calls.quiet_of_same (t19k HX.out _))))
      go_wp2
      go_roundw
      case rel => exact ⟨i + 1, _, by omega, by go_num, by rw [HW.out, World.drewN_drewN]⟩
      case measure => simp [intOf]; omega
    · obtain rfl : i = n := by omega
      go_wp2
      go_ret
      exact ⟨rfl, m, HW.out⟩
/-- Fed, whatever was fed before. -/
theorem feed15 {lo : Nat} {w : World} {M L n s : Nat} {fed : Bool} {d : List Nat} {lv : Nat → Option Nat} {f : Nat → Nat} {pb po pc : Nat} (h : MP lo w M L n s fed d) (hlv : ∀ i, i < n → ab d[i]! = lv i) (hr : RF w pb po n f) (h1 : 1 ≤ n) (hn : n ≤ 16384) (hm : pb ≠ M) (hl : pb ≠ L) :
    Calls Try.prog 15 #[.pointer (some ⟨M, 0, none⟩), .slice (some ⟨pb, po, none⟩) n pc] w (FE lo w M L n s fed lv f) := by
  cases fed
  · exact t15f h hr h1 hn hm hl
  · exact t15t h hlv hr h1 hn hm hl
theorem feed14 {lo : Nat} {w : World} {M L n s : Nat} {fed : Bool} {d : List Nat} {lv : Nat → Option Nat} {f : Nat → Nat} {pb po pc : Nat} (h : MP lo w M L n s fed d) (hlv : ∀ i, i < n → ab d[i]! = lv i) (hr : RF w pb po n f) (h1 : 1 ≤ n) (hn : n ≤ 16384) (hm : pb ≠ M) (hl : pb ≠ L) :
    Calls Try.prog 14 #[.pointer (some ⟨M, 0, none⟩), .slice (some ⟨pb, po, none⟩) n pc] w (FE lo w M L n s fed lv f) := by
  cases fed
  · exact t14f h hr h1 hn hm hl
  · exact t14t h hlv hr h1 hn hm hl
/-- A level, wherever it is asked. -/
def levB (fed : Bool) (n : Nat) (k : Int) : Bool := fed && decide (0 ≤ k ∧ k < (n : Int))
def levF (fed : Bool) (lv : Nat → Option Nat) (n : Nat) (k : Int) : Option Nat := if levB fed n k then lv k.toNat else ab 0
def LR (w : World) (b : Bool) (v : Option Nat) (e : Ending) (w' : World) : Prop := ∃ x, e = .returned (.tuple #[.float .f64 x, .bool b]) ∧ Hid (ab x = v) ∧ w' = w
theorem lev17 {lo : Nat} {w : World} {M L n s : Nat} {fed : Bool} {d : List Nat} {lv : Nat → Option Nat} (h : MP lo w M L n s fed d) (hlv : ∀ i, i < n → ab d[i]! = lv i) (k : Int) : Calls Try.prog 17 #[.pointer (some ⟨M, 0, none⟩), .int .i64 k] w (LR w (levB fed n k) (levF fed lv n k)) := by
  by_cases hk : 0 ≤ k ∧ k < (n : Int)
  · cases fed
    · refine (t17u h k).mono fun e w' ⟨h1, h2⟩ => ⟨0, ?_, ?_, h2⟩
      · rw [h1]; simp [levB]
      · simp [levF, levB, Hid]
    · obtain ⟨j, rfl⟩ : ∃ j : Nat, k = j := ⟨k.toNat, by omega⟩
      refine (t17 h (k := j) (by omega)).mono fun e w' ⟨h1, h2⟩ => ⟨d[j]!, ?_, ?_, h2⟩
      · rw [h1]; simp [levB]; omega
      · show _ = _
        rw [hlv j (by omega)]
        have e1 : levB true n (j : Int) = true := by simp [levB]; omega
        simp only [levF, e1, if_true, Int.toNat_natCast]
  · have e1 : levB fed n k = false := by simp [levB]; intro _ h; omega
    refine (t17o h (k := k) (by omega)).mono fun e w' ⟨h1, h2⟩ => ⟨0, ?_, ?_, h2⟩
    · rw [h1, e1]
    · simp [levF, e1, Hid]
theorem lev18 {lo : Nat} {w : World} {M L n s : Nat} {fed : Bool} {d : List Nat} {lv : Nat → Option Nat} (h : MP lo w M L n s fed d) (hlv : ∀ i, i < n → ab d[i]! = lv i) (k : Int) : Calls Try.prog 18 #[.pointer (some ⟨M, 0, none⟩), .int .i64 k] w (LR w (levB fed n k) (levF fed lv n k)) := by
  by_cases hk : 0 ≤ k ∧ k < (n : Int)
  · cases fed
    · refine (t18u h k).mono fun e w' ⟨h1, h2⟩ => ⟨0, ?_, ?_, h2⟩
      · rw [h1]; simp [levB]
      · simp [levF, levB, Hid]
    · obtain ⟨j, rfl⟩ : ∃ j : Nat, k = j := ⟨k.toNat, by omega⟩
      refine (t18 h (k := j) (by omega)).mono fun e w' ⟨h1, h2⟩ => ⟨d[j]!, ?_, ?_, h2⟩
      · rw [h1]; simp [levB]; omega
      · show _ = _
        rw [hlv j (by omega)]
        have e1 : levB true n (j : Int) = true := by simp [levB]; omega
        simp only [levF, e1, if_true, Int.toNat_natCast]
  · have e1 : levB fed n k = false := by simp [levB]; intro _ h; omega
    refine (t18o h (k := k) (by omega)).mono fun e w' ⟨h1, h2⟩ => ⟨0, ?_, ?_, h2⟩
    · rw [h1, e1]
    · simp [levF, e1, Hid]
end Go.Proofs.Ytgalgnopjcpocaa
