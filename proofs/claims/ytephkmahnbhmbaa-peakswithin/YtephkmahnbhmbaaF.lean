/- Sums of floats, the first alone. -/
import Derived.Test.YtephkmahnbhmbaaUa
namespace Go.Proofs.Ytephkmahnbhmbaa
open Go.ChangeShapes Go.WideShapes Go.ChangeAt Go.RowKit Go.Fl Go.Sort
attribute [local go_sem] run_store_float run_store_complex call52 run_neg fold_eq fold_ne fold_lt fold_gt abs_eq

/-- The sum of n numbers, the first alone. -/
def sumN (F : Nat → Option Nat) : Nat → Option Nat
  | 0 => ab 0
  | 1 => F 0
  | n + 2 => bin .add (sumN F (n + 1)) (F (n + 1))
theorem sumN_step (F : Nat → Option Nat) (k : Nat) : sumN F (k + 1 + 1) = bin .add (sumN F (k + 1)) (F (k + 1)) := rfl
theorem sumN_congr {F G : Nat → Option Nat} : ∀ n, (∀ i, i < n → F i = G i) → sumN F n = sumN G n
  | 0, _ => rfl
  | 1, h => h 0 (by omega)
  | n + 2, h => by rw [sumN, sumN, sumN_congr (n + 1) fun i hi => h i (by omega), h (n + 1) (by omega)]

/-- The sum of a row. -/
def sumD (d : Array Nat) : Option Nat := sumN (fun i => ab d[i]!) d.size
/-- What a call leaves that hands back one float. -/
def FU (w : World) (v : Option Nat) (e : Ending) (w' : World) : Prop := ∃ r, e = .returned (.float .f64 r) ∧ Hid (ab r = v) ∧ Hid (Up w w')
theorem FU.mk {w w' : World} {v : Option Nat} {r : Nat} (h : ab r = v) (hu : Up w w') : FU w v (.returned (.float .f64 r)) w' := ⟨r, rfl, h, hu⟩
theorem enters {f : FuncId} {fn : Func} (hf : Try.prog.funcs[f]? = some fn) (hn : (fn.name == "runtime.NumGoroutine") = false) (hb : fn.body.isSome = true) (args : Array Value) (w : World) : (callFunc f args).run Try.prog w = .ok (.enter f args) w := by
  have h1 : fn.name ≠ "runtime.NumGoroutine" := by simpa using hn
  obtain ⟨c, hc⟩ := Option.isSome_iff_exists.1 hb
  simp [callFunc, hf, h1, hc]
theorem box_cell (w : World) (v : Value) (t : TypeId) (k : Nat) : ((w.alloc (.cells #[v] t)).drewN k).cell? ⟨w.heap.size, 0, none⟩ = some v := World.cell?_alloc_at _ _ _ _ rfl
theorem t49e (p : Option Addr) (cap : Nat) (w : World) : Calls Try.prog 49 #[.slice p 0 cap] w (FR w (ab 0)) := by
  go_enter Try.func49, Try.ntmps49
  go_wp2
  go_ret
  exact FR.mk0 rfl
set_option maxHeartbeats 1000000 in
theorem t49 (blk off cap : Nat) (d : Array Nat) (w : World) (hR : Reads w blk off d) (hp : 0 < d.size) (hn : d.size < 4611686018427387904) : Calls Try.prog 49 #[.slice (some ⟨blk, off, none⟩) d.size cap] w (FR w (sumD d)) := by
  have HR : Hid (Reads w blk off d) := hR
  obtain ⟨x, hx⟩ : ∃ x, d[0]! = x := ⟨_, rfl⟩
  have c0 := hR 0 hp
  rw [hx, Nat.add_zero] at c0
  have HX : Hid _ := hx
  clear hR hx
  have h0 : ((d.size : Int) == 0) = false := by rw [beq_eq_false_iff_ne]; omega
  have h1 : (0 : Int) < (d.size : Int) := by omega
  have h2 : ¬ d.size = 0 := by omega
  go_enter Try.func49, Try.ntmps49
  go_wp2
  go_loopw [3, 4] (fun vs vi wr => ∃ i r k : Nat, i < d.size ∧ vs = .float .f64 r ∧ vi = .int .i64 ((i : Int) + 1) ∧ wr = w.drewN k ∧ Hid (ab r = sumN (fun i => ab d[i]!) (i + 1))) (fun _ vi _ => (d.size : Int).toNat - (intOf vi).toNat)
  case atStart => exact ⟨0, x, 0, hp, rfl, rfl, rfl, by show _ = _; rw [← HX.out]; rfl⟩
  case round =>
    obtain ⟨i, r, k, hi, rfl, rfl, rfl, hr⟩ := hrel
    by_cases hlt : i + 1 < d.size
    · obtain ⟨y, hy⟩ : ∃ y, d[i + 1]! = y := ⟨_, rfl⟩
      have cy := HR.out (i + 1) hlt
      rw [hy] at cy
      have cy2 : (w.drewN k).cell? ⟨blk, off + (i + 1), none⟩ = some (.float .f64 y) := cy
      have HY : Hid _ := hy
      clear hy cy
      have hz : (i : Int) + 1 < (d.size : Int) := by omega
      have p0 : (0 : Int) ≤ (i : Int) + 1 := by omega
      have e0 : ((i : Int) + 1).toNat = i + 1 := by omega
      go_wp2_with ((with_reducible refine upon_fl (by simp) ?_); intro r3 k3 hr3)
      go_roundw
      case rel =>
        refine ⟨i + 1, r3, _, by omega, rfl, by go_num, by first | rfl | (simp only [World.drewN_drewN]; rfl), ?_⟩
        show _ = _
        rw [sumN_step, ← hr.out, HY.out, ← hr3.out]
      case measure => simp [intOf]; omega
    · have he : i + 1 = d.size := by omega
      have hz : ¬ (i : Int) + 1 < (d.size : Int) := by omega
      have HE : Hid _ := he
      clear he
      go_wp2
      go_ret
      refine FR.mkN ?_
      rw [hr.out, HE.out]; rfl
end Go.Proofs.Ytephkmahnbhmbaa
