/- Float, Bell, Pair. -/
import Derived.Test.YtgalgnopjcpocaaN
namespace Go.Proofs.Ytgalgnopjcpocaa
open Go.ChangeShapes Go.WideShapes Go.ChangeAt Go.RowKit Go.Fl Ieee
attribute [local go_sem] run_store_float run_store_complex call20 call33 run_neg fold_eq fold_ne fold_lt fold_gt abs_eq

/-- What Float tells of a state. -/
def fltF (s : Int) : Option Nat := bin .quo (ab (floatOfInt .f64 (stir (adv s 1) / 2048))) (ab 4845873199050653696)
/-- The sum of k + 1 of them. -/
def sumF (s : Int) : Nat → Option Nat
  | 0 => fltF s
  | k + 1 => bin .add (sumF s k) (fltF (it s (k + 1)))
def bellF (s : Int) : Option Nat := bin .sub (sumF s 11) (ab 4618441417868443648)
def pairF (s : Int) (x : Nat) : Option Nat × Option Nat := (bin .mul (bellF s) (ab x), bin .mul (bellF (it s 12)) (ab x))
theorem it_add (s : Int) (k : Nat) : ∀ j, it (it s k) j = it s (k + j)
  | 0 => rfl
  | j + 1 => by show adv (it (it s k) j) 1 = adv (it s (k + j)) 1; rw [it_add s k j]

set_option maxRecDepth 20000 in
theorem t77 {b : Nat} {s : Int} {w : World} (h : SC w b s) : Calls Try.prog 77 #[.pointer (some ⟨b, 0, none⟩)] w (NF w b (adv s 1) (fltF s)) := by
  have H : Hid (SC w b s) := h
  clear h
  go_enter Try.func77, Try.ntmps77
  go_wp2_with (first
    | (go_at_call 80; (with_reducible refine (t80 H.out).mono ?_); rintro e w1 ⟨rfl, h1, hb1⟩)
    | ((with_reducible refine upon_fl (by simp) ?_); intro r n hr))
  go_ret
  exact ⟨r, rfl, hr, h1.out.up (Up.drewN _ _), hb1.out.trans (But.drewN _ _ _)⟩
theorem zero_quo : bin .quo (ab (floatOfInt .f64 0)) (ab 4845873199050653696) = some 0 := by decide +kernel
set_option maxRecDepth 20000 in
theorem t77n (w : World) : Calls Try.prog 77 #[.pointer none] w fun e w' => e = .returned (.float .f64 0) ∧ Hid (Up w w') := by
  go_enter Try.func77, Try.ntmps77
  go_wp2_with (first
    | (go_at_call 80; (with_reducible refine (t80n _).mono ?_); rintro e w1 ⟨rfl, rfl⟩)
    | ((with_reducible refine upon_fl (by simp) ?_); intro r n hr))
  go_ret
  have : ab r = some 0 := hr.out.trans zero_quo
  exact ⟨by rw [of_ab this]; rfl, Up.drewN _ _⟩
/-- A bell under way: k + 1 Floats are added. -/
structure BW (w wr : World) (b : Nat) (s : Int) (r k : Nat) : Prop where
  sc : SC wr b (it s (k + 1))
  but : But b w wr
  sum : ab r = sumF s k
theorem BW.step {w wr w1 : World} {b : Nat} {s : Int} {r r1 r2 k n : Nat} (h : BW w wr b s r k) (sc : SC w1 b (adv (it s (k + 1)) 1)) (hb : But b wr w1) (h1 : ab r1 = fltF (it s (k + 1))) (h2 : ab r2 = bin .add (ab r) (ab r1)) : BW w (w1.drewN n) b s r2 (k + 1) :=
  ⟨SC.up (s := it s (k + 1 + 1)) sc (Up.drewN _ _), (h.but.trans hb).trans (But.drewN _ _ _), by rw [h2, h1, h.sum]; rfl⟩
set_option maxRecDepth 20000 in
theorem t71 {b : Nat} {s : Int} {w : World} (h : SC w b s) : Calls Try.prog 71 #[.pointer (some ⟨b, 0, none⟩)] w (NF w b (it s 12) (bellF s)) := by
  have H : Hid (SC w b s) := h
  clear h
  go_enter Try.func71, Try.ntmps71
  go_wp2_with (go_at_call 77; (with_reducible refine (t77 H.out).mono ?_); rintro e w1 ⟨r, rfl, hr, h1, hb1⟩)
  have HB : Hid (BW w w1 b s r 0) := ⟨h1.out, hb1.out, hr.out⟩
  clear h1 hb1 hr H
  go_loopw [3, 8] (fun v i wr => ∃ k r : Nat, k ≤ 11 ∧ v = .float .f64 r ∧ i = .int .i64 k ∧ Hid (BW w wr b s r k)) (fun _ i _ => 11 - (intOf i).toNat)
  case atStart => exact ⟨0, _, by omega, rfl, rfl, HB⟩
  case round =>
    clear HB
    obtain ⟨k, r, hk, rfl, rfl, HB⟩ := hrel
    by_cases hlt : k < 11
    · have hkz : (k : Int) < 11 := by omega
      go_wp2_with (first
        | (go_at_call 77; (with_reducible refine (t77 HB.out.sc).mono ?_); rintro e w1 ⟨r1, rfl, hr1, h1, hb1⟩)
        | ((with_reducible refine upon_fl (by simp) ?_); intro r2 n hr2))
      go_roundw
      case rel => exact ⟨k + 1, _, by omega, rfl, by go_num, HB.out.step h1.out hb1.out hr1.out hr2.out⟩
      case measure => simp [intOf]; omega
    · obtain rfl : k = 11 := by omega
      go_wp2_with ((with_reducible refine upon_fl (by simp) ?_); intro r2 n hr2)
      go_ret
      exact ⟨_, rfl, by show _ = _; rw [hr2.out, HB.out.sum]; rfl, HB.out.sc.up (Up.drewN _ _), HB.out.but.trans (But.drewN _ _ _)⟩
set_option maxRecDepth 20000 in
theorem t71n (w : World) : Calls Try.prog 71 #[.pointer none] w fun e w' => e = .returned (.float .f64 0) ∧ w' = w := by
  go_enter Try.func71, Try.ntmps71
  go_wp2
  go_ret
  exact ⟨rfl, rfl⟩
/-- What a Pair leaves: the program's; the reference's. -/
def NP (w : World) (b : Nat) (s : Int) (v : Option Nat × Option Nat) (e : Ending) (w' : World) : Prop := ∃ x y, e = .returned (.complex .f64 x y) ∧ Hid (ab2 (x, y) = v) ∧ Hid (SC w' b s) ∧ Hid (But b w w')
def NQ (w : World) (b : Nat) (s : Int) (v : Option Nat × Option Nat) (e : Ending) (w' : World) : Prop := ∃ x y, e = .returned (.agg #[.float .f64 x, .float .f64 y]) ∧ Hid (ab2 (x, y) = v) ∧ Hid (SC w' b s) ∧ Hid (But b w w')
set_option maxRecDepth 20000 in
theorem t61 {b : Nat} {s : Int} {w : World} (h : SC w b s) (x : Nat) : Calls Try.prog 61 #[.pointer (some ⟨b, 0, none⟩), .float .f64 x] w (NP w b (it s 24) (pairF s x)) := by
  have H : Hid (SC w b s) := h
  clear h
  go_enter Try.func61, Try.ntmps61
  go_wp2_with (first
    | (go_at_call 71; (with_reducible refine (t71 H.out).mono ?_); rintro e w1 ⟨r1, rfl, hr1, h1, hb1⟩; clear H)
    | ((with_reducible refine upon_fl (by simp) ?_); intro r2 n2 hr2; have h2 : Hid (SC (w1.drewN n2) b (it s 12)) := h1.out.up (Up.drewN _ _); have hb2 : Hid (But b w (w1.drewN n2)) := hb1.out.trans (But.drewN _ _ _); clear h1 hb1)
    | (go_at_call 71; (with_reducible refine (t71 h2.out).mono ?_); rintro e w3 ⟨r3, rfl, hr3, h3, hb3⟩)
    | ((with_reducible refine upon_fl (by simp) ?_); intro r4 n4 hr4))
  go_ret
  refine ⟨_, _, rfl, ?_, ?_, (hb2.out.trans hb3.out).trans (But.drewN _ _ _)⟩
  · show (_, _) = pairF s x
    rw [hr2.out, hr4.out, hr1.out, hr3.out]; rfl
  · have := h3.out.up (Up.drewN _ n4)
    rw [it_add] at this; exact this
set_option maxRecDepth 20000 in
theorem t61n (x : Nat) (w : World) : Calls Try.prog 61 #[.pointer none, .float .f64 x] w fun e w' => e = .returned (.complex .f64 0 0) ∧ w' = w := by
  go_enter Try.func61, Try.ntmps61
  go_wp2
  go_ret
  exact ⟨rfl, rfl⟩
end Go.Proofs.Ytgalgnopjcpocaa
