/- each: every task's first job is handed over. -/
import Derived.Test.YtjklaemhfhakhaaBa
namespace Go.Proofs.Ytjklaemhfhakhaa
open Go.ChangeShapes Go.WideShapes Go.ChangeAt Go.RowKit

/-- A function that looks at jobs: I tells how many it has seen. -/
structure Looks (fg : Nat) (cb : Array Value) (L : Ly) (n : Nat) (p : Pl) (I : Nat → World → Prop) : Prop where
  up : ∀ {k w w'}, I k w → Up w w' → I k w'
  pw : ∀ {k w}, I k w → PW w L n p
  step : ∀ {k w}, k < n → I k w → Calls Try.prog fg (#[jv (p.J k)] ++ cb) w fun e w' => e = .returned (.tuple #[]) ∧ Hid (I (k + 1) w')
set_option maxHeartbeats 1000000 in
theorem t47 {fg : Nat} {cb : Array Value} {L : Ly} {n : Nat} {p : Pl} {I : Nat → World → Prop} (V : Looks fg cb L n p I) (eg : ∀ args w, (callFunc fg args).run Try.prog w = .ok (.enter fg args) w) (hb : PB n p) (hn : n ≤ 256) {w : World} (h0 : I 0 w) :
    Calls Try.prog 47 #[.pointer (some ⟨L.bp, 0, none⟩), .func (.func fg) #[] cb] w fun e w' => e = .returned (.tuple #[]) ∧ Hid (I n w') := by
  have HI : Hid (I 0 w) := h0
  have HV : Hid (Looks fg cb L n p I) := V
  have HB : Hid (PB n p) := hb
  have h1 := (V.pw h0).p1
  clear h0 V hb
  go_enter Try.func47, Try.ntmps47
  go_wp2_with fail
  go_loopw [4, 10] (fun _ vi wr => ∃ k : Nat, k ≤ n ∧ vi = .int .i64 k ∧ Hid (I k wr)) (fun _ vi _ => n - (intOf vi).toNat)
  case atStart => exact ⟨0, by omega, rfl, HI⟩
  case round =>
    clear HI
    obtain ⟨k, hk, rfl, HI⟩ := hrel
    rename World => wr
    by_cases hlt : k < n
    · have z1 : (k : Int) < (n : Int) := by omega
      have h2 := (HV.out.pw HI.out).p1
      go_wp2_with (go_at_call 55; (with_reducible refine (t55 (HV.out.pw HI.out) HB.out hlt).mono ?_); rintro e w1 ⟨rfl, HU⟩)
      with_reducible refine (HV.out.step hlt (HV.out.up HI.out HU.out)).mono ?_
      rintro e w2 ⟨rfl, HI2⟩
      go_wp2
      go_roundw
      case rel => exact ⟨k + 1, by omega, by go_num, HI2⟩
      case measure => simp [intOf]; omega
    · obtain rfl : k = n := by omega
      go_wp2
      go_end0
      exact ⟨rfl, HI⟩
end Go.Proofs.Ytjklaemhfhakhaa
