/- Sums of floats, the first alone. -/
import Derived.Test.YtfggdaebahdnfaaUa
namespace Go.Proofs.Ytfggdaebahdnfaa
open Go.ChangeShapes Go.WideShapes Go.ChangeAt Go.RowKit Go.Fl Go.Sort
attribute [local go_sem] run_store_float run_store_complex call35 call46 run_neg fold_eq fold_ne fold_lt fold_gt abs_eq

/-- The sum of n numbers, the first alone. -/
def sumN (F : Nat → Option Nat) : Nat → Option Nat
  | 0 => ab 0
  | 1 => F 0
  | n + 2 => bin .add (sumN F (n + 1)) (F (n + 1))
theorem sumN_step (F : Nat → Option Nat) (k : Nat) : sumN F (k + 1 + 1) = bin .add (sumN F (k + 1)) (F (k + 1)) := rfl
theorem sumN_congr {F G : Nat → Option Nat} : ∀ n, (∀ i, i < n → F i = G i) → sumN F n = sumN G n
  | 0, _ => rfl
  | 1, h => h 0 (by omega)
  | n + 2, h => by rw [sumN, sumN, sumN_congr (n + 1) fun i hi => h i (by omega), h (n + 1) (by omega)]

set_option maxHeartbeats 1000000 in
theorem t80 (g n : Nat) (c : Value) (F : Nat → Option Nat) (w : World) (hn : n < 4611686018427387904) (eg : ∀ args w, (callFunc g args).run Try.prog w = .ok (.enter g args) w)
    (hat : ∀ i, i < n → ∀ k, Calls Try.prog g #[.int .i64 i, c] (w.drewN k) (FR (w.drewN k) (F i))) :
    Calls Try.prog 80 #[.int .i64 n, .func (.func g) #[] #[c]] w (FR w (sumN F n)) := by
  have HA : Hid (∀ i, i < n → ∀ k, Calls Try.prog g #[.int .i64 i, c] (w.drewN k) (FR (w.drewN k) (F i))) := hat
  clear hat
  rcases Nat.eq_zero_or_pos n with rfl | hp
  · go_enter Try.func80, Try.ntmps80
    go_wp2
    go_ret
    exact FR.mk0 rfl
  · obtain ⟨m, rfl⟩ : ∃ m, n = m + 1 := ⟨n - 1, by omega⟩
    have A0 : Hid (Calls Try.prog g #[.int .i64 0, c] w (FR w (F 0))) := HA.out 0 hp 0
    have A1 : Hid (∀ i, i < m → ∀ k, Calls Try.prog g #[.int .i64 ((i : Int) + 1), c] (w.drewN k) (FR (w.drewN k) (F (i + 1)))) := fun i hi k => HA.out (i + 1) (by omega) k
    clear HA
    have h0 : ((m : Int) + 1 == 0) = false := by rw [beq_eq_false_iff_ne]; omega
    go_enter Try.func80, Try.ntmps80
    go_wp2_with fail
    (with_reducible refine A0.out.mono ?_)
    rintro e w' ⟨r, k, rfl, rfl, hr⟩
    go_wp2
    go_loopw [5, 6, 13] (fun vs _ vi wr => ∃ i r k : Nat, i ≤ m ∧ vs = .float .f64 r ∧ vi = .int .i64 i ∧ wr = w.drewN k ∧ Hid (ab r = sumN F (i + 1))) (fun _ _ vi _ => m - (intOf vi).toNat)
    case atStart => exact ⟨0, r, k, by omega, rfl, rfl, by simp, hr⟩
    case round =>
      clear hr
      obtain ⟨i, r, k, hi, rfl, rfl, rfl, hr⟩ := hrel
      by_cases hlt : i < m
      · go_wp2_with fail
        (with_reducible refine (A1.out i hlt _).mono ?_)
        rintro e w' ⟨r2, k2, rfl, rfl, hr2⟩
        go_wp2_with ((with_reducible refine upon_fl (by simp) ?_); intro r3 k3 hr3)
        go_roundw
        case rel =>
          refine ⟨i + 1, r3, _, by omega, rfl, by go_num, by first | rfl | (simp only [World.drewN_drewN]; rfl), ?_⟩
          show _ = _
          rw [sumN_step, ← hr.out, ← hr2.out, ← hr3.out]
        case measure => simp [intOf]; omega
      · obtain rfl : i = m := by omega
        go_wp2
        go_ret
        exact FR.mkN hr.out

/-- The sum of a row. -/
def sumD (d : Array Nat) : Option Nat := sumN (fun i => ab d[i]!) d.size
/-- What a call leaves that hands back one float. -/
def FU (w : World) (v : Option Nat) (e : Ending) (w' : World) : Prop := ∃ r, e = .returned (.float .f64 r) ∧ Hid (ab r = v) ∧ Hid (Up w w')
theorem FU.mk {w w' : World} {v : Option Nat} {r : Nat} (h : ab r = v) (hu : Up w w') : FU w v (.returned (.float .f64 r)) w' := ⟨r, rfl, h, hu⟩
theorem enters {f : FuncId} {fn : Func} (hf : Try.prog.funcs[f]? = some fn) (hn : (fn.name == "runtime.NumGoroutine") = false) (hb : fn.body.isSome = true) (args : Array Value) (w : World) : (callFunc f args).run Try.prog w = .ok (.enter f args) w := by
  have h1 : fn.name ≠ "runtime.NumGoroutine" := by simpa using hn
  obtain ⟨c, hc⟩ := Option.isSome_iff_exists.1 hb
  simp [callFunc, hf, h1, hc]
theorem eg81 (args : Array Value) (w : World) : (callFunc 81 args).run Try.prog w = .ok (.enter 81 args) w := enters Try.func81 (by kernel_rfl) (by kernel_rfl) _ _
theorem t81 (blk off cap i b : Nat) (d : Array Nat) (w : World) (hB : w.cell? ⟨b, 0, none⟩ = some (.slice (some ⟨blk, off, none⟩) d.size cap)) (hR : Reads w blk off d) (hi : i < d.size) :
    Calls Try.prog 81 #[.int .i64 i, .pointer (some ⟨b, 0, none⟩)] w (FR w (ab d[i]!)) := by
  obtain ⟨x, hx⟩ : ∃ x, d[i]! = x := ⟨_, rfl⟩
  have hc := hR i hi
  rw [hx] at hc
  rw [hx]
  clear hx hR
  have hiz : (i : Int) < (d.size : Int) := by omega
  go_enter Try.func81, Try.ntmps81
  go_wp2
  go_ret
  exact FR.mk0 rfl

theorem box_cell (w : World) (v : Value) (t : TypeId) (k : Nat) : ((w.alloc (.cells #[v] t)).drewN k).cell? ⟨w.heap.size, 0, none⟩ = some v := World.cell?_alloc_at _ _ _ _ rfl
theorem sum26 (blk off cap : Nat) (d : Array Nat) (w : World) (hR : Reads w blk off d) (hn : d.size < 4611686018427387904) :
    Calls Try.prog 80 #[.int .i64 d.size, .func (.func 81) #[] #[.pointer (some ⟨w.heap.size, 0, none⟩)]] (w.alloc (.cells #[.slice (some ⟨blk, off, none⟩) d.size cap] 22)) (FR (w.alloc (.cells #[.slice (some ⟨blk, off, none⟩) d.size cap] 22)) (sumD d)) :=
  t80 81 d.size _ (fun i => ab d[i]!) _ hn eg81 fun i hi _ => t81 blk off cap i w.heap.size d _ (box_cell _ _ _ _) (hR.up ((Up.alloc _ _).trans (Up.drewN _ _))) hi
theorem sum26e (p : Option Addr) (cap : Nat) (w : World) :
    Calls Try.prog 80 #[.int .i64 0, .func (.func 81) #[] #[.pointer (some ⟨w.heap.size, 0, none⟩)]] (w.alloc (.cells #[.slice p 0 cap] 22)) (FR (w.alloc (.cells #[.slice p 0 cap] 22)) (ab 0)) :=
  t80 81 0 _ (fun _ => none) _ (by omega) eg81 fun i hi _ => by omega
theorem t74 (blk off cap : Nat) (d : Array Nat) (w : World) (hR : Reads w blk off d) (hn : d.size < 4611686018427387904) : Calls Try.prog 74 #[.slice (some ⟨blk, off, none⟩) d.size cap] w (FU w (sumD d)) := by
  have HR : Hid (Reads w blk off d) := hR
  clear hR
  go_enter Try.func74, Try.ntmps74
  go_wp2_with (go_at_call 80; (with_reducible refine (sum26 _ _ _ _ _ HR.out hn).mono ?_); rintro e w' ⟨r, k, rfl, rfl, hr⟩)
  go_ret
  exact FU.mk hr.out ((Up.alloc _ _).trans (Up.drewN _ _))
theorem t74e (p : Option Addr) (cap : Nat) (w : World) : Calls Try.prog 74 #[.slice p 0 cap] w (FU w (ab 0)) := by
  go_enter Try.func74, Try.ntmps74
  go_wp2_with (go_at_call 80; (with_reducible refine (sum26e _ _ _).mono ?_); rintro e w' ⟨r, k, rfl, rfl, hr⟩)
  go_ret
  exact FU.mk hr.out ((Up.alloc _ _).trans (Up.drewN _ _))
theorem t65e (p : Option Addr) (cap : Nat) (w : World) : Calls Try.prog 65 #[.slice p 0 cap] w (FR w (ab 0)) := by
  go_enter Try.func65, Try.ntmps65
  go_wp2
  go_ret
  exact FR.mk0 rfl
set_option maxHeartbeats 1000000 in
theorem t65 (blk off cap : Nat) (d : Array Nat) (w : World) (hR : Reads w blk off d) (hp : 0 < d.size) (hn : d.size < 4611686018427387904) : Calls Try.prog 65 #[.slice (some ⟨blk, off, none⟩) d.size cap] w (FR w (sumD d)) := by
  have HR : Hid (Reads w blk off d) := hR
  obtain ⟨x, hx⟩ : ∃ x, d[0]! = x := ⟨_, rfl⟩
  have c0 := hR 0 hp
  rw [hx, Nat.add_zero] at c0
  have HX : Hid _ := hx
  clear hR hx
  have h0 : ((d.size : Int) == 0) = false := by rw [beq_eq_false_iff_ne]; omega
  have h1 : (0 : Int) < (d.size : Int) := by omega
  have h2 : ¬ d.size = 0 := by omega
  go_enter Try.func65, Try.ntmps65
  go_wp2
  go_loopw [3, 4] (fun vs vi wr => ∃ i r k : Nat, i < d.size ∧ vs = .float .f64 r ∧ vi = .int .i64 ((i : Int) + 1) ∧ wr = w.drewN k ∧ Hid (ab r = sumN (fun i => ab d[i]!) (i + 1))) (fun _ vi _ => (d.size : Int).toNat - (intOf vi).toNat)
  case atStart => exact ⟨0, x, 0, hp, rfl, rfl, rfl, by show _ = _; rw [← HX.out]; rfl⟩
  case round =>
    obtain ⟨i, r, k, hi, rfl, rfl, rfl, hr⟩ := hrel
    by_cases hlt : i + 1 < d.size
    · obtain ⟨y, hy⟩ : ∃ y, d[i + 1]! = y := ⟨_, rfl⟩
      have cy := HR.out (i + 1) hlt
      rw [hy] at cy
      have cy2 : (w.drewN k).cell? ⟨blk, off + (i + 1), none⟩ = some (.float .f64 y) := cy
      have HY : Hid _ := hy
      clear hy cy
      have hz : (i : Int) + 1 < (d.size : Int) := by omega
      have p0 : (0 : Int) ≤ (i : Int) + 1 := by omega
      have e0 : ((i : Int) + 1).toNat = i + 1 := by omega
      go_wp2_with ((with_reducible refine upon_fl (by simp) ?_); intro r3 k3 hr3)
      go_roundw
      case rel =>
        refine ⟨i + 1, r3, _, by omega, rfl, by go_num, by first | rfl | (simp only [World.drewN_drewN]; rfl), ?_⟩
        show _ = _
        rw [sumN_step, ← hr.out, HY.out, ← hr3.out]
      case measure => simp [intOf]; omega
    · have he : i + 1 = d.size := by omega
      have hz : ¬ (i : Int) + 1 < (d.size : Int) := by omega
      have HE : Hid _ := he
      clear he
      go_wp2
      go_ret
      refine FR.mkN ?_
      rw [hr.out, HE.out]; rfl
end Go.Proofs.Ytfggdaebahdnfaa
