/- Sums: Abs2, Power, the greatest of a row. -/
import Derived.Test.YthpoipajfkfdeabSd
namespace Go.Proofs.Ythpoipajfkfdeab
open Go.ChangeShapes Go.WideShapes Go.ChangeAt Go.RowKit Go.Fl Ieee
attribute [local go_sem] run_store_float run_store_complex call43 call17 run_neg fold_eq fold_ne fold_lt fold_gt abs_eq

set_option maxRecDepth 20000 in
set_option maxHeartbeats 1000000 in
theorem t33 (g n : Nat) (c : Value) (F : Nat → Option Nat) (w : World) (hn : n < 4611686018427387904) (eg : ∀ args w, (callFunc g args).run Try.prog w = .ok (.enter g args) w)
    (hat : ∀ i, i < n → ∀ k, Calls Try.prog g #[.int .i64 i, c] (w.drewN k) (FR (w.drewN k) (F i))) :
    Calls Try.prog 33 #[.int .i64 n, .func (.func g) #[] #[c]] w (FR w (sumN F n)) := by
  have HA : Hid (∀ i, i < n → ∀ k, Calls Try.prog g #[.int .i64 i, c] (w.drewN k) (FR (w.drewN k) (F i))) := hat
  clear hat
  rcases Nat.eq_zero_or_pos n with rfl | hp
  · go_enter Try.func33, Try.ntmps33
    go_wp2
    go_ret
    exact FR.mk0 rfl
  · obtain ⟨m, rfl⟩ : ∃ m, n = m + 1 := ⟨n - 1, by omega⟩
    have A0 : Hid (Calls Try.prog g #[.int .i64 0, c] w (FR w (F 0))) := HA.out 0 hp 0
    have A1 : Hid (∀ i, i < m → ∀ k, Calls Try.prog g #[.int .i64 ((i : Int) + 1), c] (w.drewN k) (FR (w.drewN k) (F (i + 1)))) := fun i hi k => HA.out (i + 1) (by omega) k
    clear HA
    have h0 : ((m : Int) + 1 == 0) = false := by rw [beq_eq_false_iff_ne]; omega
    go_enter Try.func33, Try.ntmps33
    go_wp2_with fail
    (with_reducible refine A0.out.mono ?_)
    rintro e w' ⟨r, k, rfl, rfl, hr⟩
    go_wp2
    go_loopw [5, 6, 13] (fun vs _ vi wr => ∃ i r k : Nat, i ≤ m ∧ vs = .float .f64 r ∧ vi = .int .i64 i ∧ wr = w.drewN k ∧ Hid (ab r = sumN F (i + 1))) (fun _ _ vi _ => m - (intOf vi).toNat)
    case atStart => exact ⟨0, r, k, by omega, rfl, rfl, by simp, hr⟩
    case round =>
      clear hr
      obtain ⟨i, r, k, hi, rfl, rfl, rfl, hr⟩ := hrel
      by_cases hlt : i < m
      · go_wp2_with fail
        (with_reducible refine (A1.out i hlt _).mono ?_)
        rintro e w' ⟨r2, k2, rfl, rfl, hr2⟩
        go_wp2_with ((with_reducible refine upon_fl (by simp) ?_); intro r3 k3 hr3)
        go_roundw
        case rel =>
          refine ⟨i + 1, r3, _, by omega, rfl, by go_num, by first | rfl | (simp only [World.drewN_drewN]; rfl), ?_⟩
          show _ = _
          rw [sumN_step, ← hr.out, ← hr2.out, ← hr3.out]
        case measure => simp [intOf]; omega
      · obtain rfl : i = m := by omega
        go_wp2
        go_ret
        exact FR.mkN hr.out

def abs2F (a b : Option Nat) : Option Nat := bin .add (bin .mul a a) (bin .mul b b)
set_option maxRecDepth 20000 in
theorem t28 (a b : Nat) (w : World) : Calls Try.prog 28 #[.complex .f64 a b] w (FR w (abs2F (ab a) (ab b))) := by
  go_enter Try.func28, Try.ntmps28
  go_wp2_with ((with_reducible refine upon_fl (by simp) ?_); intro r n hr)
  go_ret
  refine FR.mkN ?_
  simp_all [abs2F, Hid]
def pwF (f : Nat → Nat × Nat) (i : Nat) : Option Nat := abs2F (ab (f i).1) (ab (f i).2)
set_option maxRecDepth 20000 in
theorem t34 (blk off n cap i b : Nat) (f : Nat → Nat × Nat) (w : World) (hb : w.cell? ⟨b, 0, none⟩ = some (.slice (some ⟨blk, off, none⟩) n cap)) (hR : RD w blk off n f) (hi : i < n) : Calls Try.prog 34 #[.int .i64 i, .pointer (some ⟨b, 0, none⟩)] w (FR w (pwF f i)) := by
  obtain ⟨x, y, hx, hc⟩ : ∃ x y, f i = (x, y) ∧ w.cell? ⟨blk, off + i, none⟩ = some (.complex .f64 x y) := ⟨_, _, rfl, hR i hi⟩
  unfold pwF
  rw [hx]
  clear hx hR
  have hiz : (i : Int) < (n : Int) := by omega
  go_enter Try.func34, Try.ntmps34
  go_wp2_with (go_at_call 28; (with_reducible refine (t28 _ _ _).mono ?_); rintro e w' ⟨r, k, rfl, rfl, hr⟩)
  go_ret
  exact FR.mkN hr.out
theorem eg34 (args : Array Value) (w : World) : (callFunc 34 args).run Try.prog w = .ok (.enter 34 args) w := enters Try.func34 (by kernel_rfl) (by kernel_rfl) _ _
theorem sum24 {w : World} {blk off n : Nat} {f : Nat → Nat × Nat} (HR : Hid (RD w blk off n f)) (cap : Nat) (hn : n < 4611686018427387904) :
    Calls Try.prog 33 #[.int .i64 n, .func (.func 34) #[] #[.pointer (some ⟨w.heap.size, 0, none⟩)]] (w.alloc (.cells #[.slice (some ⟨blk, off, none⟩) n cap] 22)) (FR (w.alloc (.cells #[.slice (some ⟨blk, off, none⟩) n cap] 22)) (sumN (pwF f) n)) :=
  t33 34 n _ (pwF f) _ hn eg34 fun i hi k => t34 blk off n cap i w.heap.size f _ (box_cell w _ _ k) (HR.out.up (up1 w _ k)) hi
set_option maxRecDepth 20000 in
theorem t23 (blk off n cap : Nat) (f : Nat → Nat × Nat) (w : World) (hR : RD w blk off n f) (hn : n < 4611686018427387904) : Calls Try.prog 23 #[.slice (some ⟨blk, off, none⟩) n cap] w (FU w (sumN (pwF f) n)) := by
  have HR : Hid (RD w blk off n f) := hR
  clear hR
  go_enter Try.func23, Try.ntmps23
  go_wp2_with (go_at_call 33; (with_reducible refine (sum24 HR _ hn).mono ?_); rintro e w' ⟨r, k, rfl, rfl, hr⟩)
  go_ret
  exact FU.mk hr.out ((Up.alloc _ _).trans (Up.drewN _ _))
def aboveF (x y : Option Nat) : Bool := gtF x y || (y.isNone && x.isSome)
theorem ab_isNone (x : Nat) : (ab x).isNone = isN x := by unfold ab; cases isN x <;> simp
theorem ab_isSome (x : Nat) : (ab x).isSome = !isN x := by unfold ab; cases isN x <;> simp
set_option maxRecDepth 20000 in
theorem t42 (x y : Nat) (w : World) : Calls Try.prog 42 #[.float .f64 x, .float .f64 y] w fun e w' => e = .returned (.bool (aboveF (ab x) (ab y))) ∧ w' = w := by
  go_enter Try.func42, Try.ntmps42
  go_wp2_with (go_at_call 37; (with_reducible refine (t37 _ _).mono ?_); rintro e w' ⟨rfl, rfl⟩)
  all_goals (go_ret; go_tidy; refine ⟨?_, rfl⟩)
  all_goals (unfold aboveF; rw [ab_isNone, ab_isSome]; simp_all [eqF_self])
/-- The place of the greatest so far, and it. -/
def pk (F : Nat → Option Nat) : Nat → Int × Option Nat
  | 0 => (-1, none)
  | k + 1 => if (pk F k).1 < 0 || aboveF (F k) (pk F k).2 then (k, F k) else pk F k
set_option maxRecDepth 20000 in
theorem t42k {x y : Nat} {b : Bool} (h : aboveF (ab x) (ab y) = b) (w : World) : Calls Try.prog 42 #[.float .f64 x, .float .f64 y] w fun e w' => e = .returned (.bool b) ∧ w' = w := by
  rw [← h]; exact t42 x y w
set_option maxRecDepth 20000 in
set_option maxHeartbeats 1000000 in
theorem t38 (blk off n cap : Nat) (f : Nat → Nat × Nat) (w : World) (hR : RD w blk off n f) (hn : n < 4611686018427387904) :
    Calls Try.prog 38 #[.slice (some ⟨blk, off, none⟩) n cap] w fun e w' => e = .returned (.int .i64 (pk (pwF f) n).1) ∧ ∃ k, w' = w.drewN k := by
  have HR : Hid (RD w blk off n f) := hR
  clear hR
  have hnan : ab 9221120237041090561 = none := by decide +kernel
  have HN : Hid _ := hnan
  clear hnan
  go_enter Try.func38, Try.ntmps38
  go_wp2_with (go_at_call 5; (with_reducible refine (t5 _).mono ?_); rintro e w' ⟨rfl, rfl⟩)
  go_loopw [3, 4, 5, 6, 7, 11] (fun vb vm _ _ _ vi wr => ∃ (i m k : Nat) (b : Int), i ≤ n ∧ vb = .int .i64 b ∧ vm = .float .f64 m ∧ vi = .int .i64 i ∧ wr = w'.drewN k ∧ Hid (b = (pk (pwF f) i).1) ∧ Hid (ab m = (pk (pwF f) i).2)) (fun _ _ _ _ _ vi _ => n - (intOf vi).toNat)
  case atStart => exact ⟨0, _, 0, -1, by omega, rfl, rfl, rfl, rfl, rfl, HN.out⟩
  case round =>
    obtain ⟨i, m, k, b, hi, rfl, rfl, rfl, rfl, hb, hm⟩ := hrel
    by_cases hlt : i < n
    · obtain ⟨x, y, hx, hc⟩ : ∃ x y, f i = (x, y) ∧ w'.cell? ⟨blk, off + i, none⟩ = some (.complex .f64 x y) := ⟨_, _, rfl, HR.out i hlt⟩
      have hc2 : (w'.drewN k).cell? ⟨blk, off + i, none⟩ = some (.complex .f64 x y) := hc
      have HX : Hid (pwF f i = abs2F (ab x) (ab y)) := by show _ = _; unfold pwF; rw [hx]
      clear hx hc
      have hiz : (i : Int) < (n : Int) := by omega
      rcases Int.lt_or_le b 0 with hb0 | hb0
      · go_wp2_with (go_at_call 28; (with_reducible refine (t28 _ _ _).mono ?_); rintro e w2 ⟨r, k2, rfl, rfl, hr⟩)
        go_roundw
        case rel =>
          refine ⟨i + 1, r, _, i, by omega, rfl, rfl, by go_num, by first | rfl | (simp only [World.drewN_drewN]; rfl), ?_, ?_⟩
          · show _ = _
            rw [pk, if_pos (by simp [← hb.out, hb0])]
          · show _ = _
            rw [pk, if_pos (by simp [← hb.out, hb0]), hr.out, HX.out]
        case measure => simp [intOf]; omega
      · have hb1 : ¬ b < 0 := by omega
        cases hab : aboveF (abs2F (ab x) (ab y)) (ab m)
        · have HAb : Hid _ := hab
          clear hab
          go_wp2_with (first
            | (go_at_call 28; (with_reducible refine (t28 _ _ _).mono ?_); rintro e w2 ⟨r, k2, rfl, rfl, hr⟩)
            | (go_at_call 42; (with_reducible refine (t42k (hr.out ▸ HAb.out) _).mono ?_); rintro e w3 ⟨rfl, rfl⟩))
          go_roundw
          case rel =>
            refine ⟨i + 1, m, _, b, by omega, rfl, rfl, by go_num, by first | rfl | (simp only [World.drewN_drewN]; rfl), ?_, ?_⟩
            · show _ = _
              rw [pk, if_neg (by simp [← hb.out, ← hm.out, HX.out, HAb.out, hb0]), hb.out]
            · show _ = _
              rw [pk, if_neg (by simp [← hb.out, ← hm.out, HX.out, HAb.out, hb0]), hm.out]
          case measure => simp [intOf]; omega
        · have HAb : Hid _ := hab
          clear hab
          go_wp2_with (first
            | (go_at_call 28; (with_reducible refine (t28 _ _ _).mono ?_); rintro e w2 ⟨r, k2, rfl, rfl, hr⟩)
            | (go_at_call 42; (with_reducible refine (t42k (hr.out ▸ HAb.out) _).mono ?_); rintro e w3 ⟨rfl, rfl⟩))
          go_roundw
          case rel =>
            refine ⟨i + 1, r, _, i, by omega, rfl, rfl, by go_num, by first | rfl | (simp only [World.drewN_drewN]; rfl), ?_, ?_⟩
            · show _ = _
              rw [pk, if_pos (by simp [← hm.out, HX.out, HAb.out])]
            · show _ = _
              rw [pk, if_pos (by simp [← hm.out, HX.out, HAb.out]), hr.out, HX.out]
          case measure => simp [intOf]; omega
    · obtain rfl : i = n := by omega
      go_wp2
      go_ret
      exact ⟨by rw [hb.out]; rfl, k, rfl⟩
end Go.Proofs.Ythpoipajfkfdeab
