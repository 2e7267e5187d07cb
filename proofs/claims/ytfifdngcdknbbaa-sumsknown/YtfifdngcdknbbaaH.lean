/- Sums of rows of complex numbers. -/
import Derived.Test.YtfifdngcdknbbaaG
namespace Go.Proofs.Ytfifdngcdknbbaa
open Go.ChangeShapes Go.WideShapes Go.ChangeAt Go.RowKit Go.Fl Go.Sort
attribute [local go_sem] run_store_float run_store_complex call12 call32 run_neg fold_eq fold_ne fold_lt fold_gt abs_eq

def ce (p : Nat × Nat) : Value := .complex .f64 p.1 p.2
/-- The cells of a slice hold these numbers. -/
def Reads2 (w : World) (blk off : Nat) (d : Array (Nat × Nat)) : Prop := ∀ j, j < d.size → w.cell? ⟨blk, off + j, none⟩ = some (ce d[j]!)
theorem Reads2.up {w w' : World} {blk off : Nat} {d : Array (Nat × Nat)} (h : Reads2 w blk off d) (hu : Up w w') : Reads2 w' blk off d := fun j hj => by
  obtain ⟨c, e, fr, hb, _⟩ := cells_of_cell? (h j hj)
  rw [RowKit.Below.cell hu (Array.getElem?_eq_some_iff.1 hb).1]; exact h j hj
def reF (d : Array (Nat × Nat)) (i : Nat) : Option Nat := ab d[i]!.1
def imF (d : Array (Nat × Nat)) (i : Nat) : Option Nat := ab d[i]!.2
/-- What the box of a slice holds. -/
def Box (w : World) (b blk off cap : Nat) (d : Array (Nat × Nat)) : Prop := w.cell? ⟨b, 0, none⟩ = some (.slice (some ⟨blk, off, none⟩) d.size cap) ∧ Reads2 w blk off d
theorem Box.open {w : World} {b blk off cap : Nat} {d : Array (Nat × Nat)} (h : Box w b blk off cap d) {i : Nat} (hi : i < d.size) : ∃ x y, d[i]! = (x, y) ∧ w.cell? ⟨blk, off + i, none⟩ = some (.complex .f64 x y) := ⟨_, _, rfl, h.2 i hi⟩
theorem box_new {w : World} {blk off : Nat} {d : Array (Nat × Nat)} (hR : Reads2 w blk off d) (cap k : Nat) (t : TypeId) : Box ((w.alloc (.cells #[.slice (some ⟨blk, off, none⟩) d.size cap] t)).drewN k) w.heap.size blk off cap d :=
  ⟨box_cell _ _ _ _, hR.up ((Up.alloc _ _).trans (Up.drewN _ _))⟩

theorem t39 (blk off cap i b : Nat) (d : Array (Nat × Nat)) (w : World) (hB : Box w b blk off cap d) (hi : i < d.size) : Calls Try.prog 39 #[.int .i64 i, .pointer (some ⟨b, 0, none⟩)] w (CR w (reF d i) (imF d i)) := by
  obtain ⟨x, y, hx, hc⟩ := hB.open hi
  have hb := hB.1
  unfold reF imF
  rw [hx]
  clear hx hB
  have hiz : (i : Int) < (d.size : Int) := by omega
  go_enter Try.func39, Try.ntmps39
  go_wp2
  go_ret
  exact CR.mk0 rfl rfl
theorem t34 (blk off cap i b : Nat) (d : Array (Nat × Nat)) (w : World) (hB : Box w b blk off cap d) (hi : i < d.size) : Calls Try.prog 34 #[.int .i64 i, .pointer (some ⟨b, 0, none⟩)] w (FR w (reF d i)) := by
  obtain ⟨x, y, hx, hc⟩ := hB.open hi
  have hb := hB.1
  unfold reF
  rw [hx]
  clear hx hB
  have hiz : (i : Int) < (d.size : Int) := by omega
  go_enter Try.func34, Try.ntmps34
  go_wp2
  go_ret
  exact FR.mk0 rfl
theorem t35 (blk off cap i b : Nat) (d : Array (Nat × Nat)) (w : World) (hB : Box w b blk off cap d) (hi : i < d.size) : Calls Try.prog 35 #[.int .i64 i, .pointer (some ⟨b, 0, none⟩)] w (FR w (imF d i)) := by
  obtain ⟨x, y, hx, hc⟩ := hB.open hi
  have hb := hB.1
  unfold imF
  rw [hx]
  clear hx hB
  have hiz : (i : Int) < (d.size : Int) := by omega
  go_enter Try.func35, Try.ntmps35
  go_wp2
  go_ret
  exact FR.mk0 rfl
def pwF (d : Array (Nat × Nat)) (i : Nat) : Option Nat := abs2F (reF d i) (imF d i)
theorem t47 (blk off cap i b : Nat) (d : Array (Nat × Nat)) (w : World) (hB : Box w b blk off cap d) (hi : i < d.size) : Calls Try.prog 47 #[.int .i64 i, .pointer (some ⟨b, 0, none⟩)] w (FR w (pwF d i)) := by
  obtain ⟨x, y, hx, hc⟩ := hB.open hi
  have hb := hB.1
  unfold pwF reF imF
  rw [hx]
  clear hx hB
  have hiz : (i : Int) < (d.size : Int) := by omega
  go_enter Try.func47, Try.ntmps47
  go_wp2_with (go_at_call 43; (with_reducible refine (t43 _ _ _).mono ?_); rintro e w' ⟨r, k, rfl, rfl, hr⟩)
  go_ret
  exact FR.mkN hr.out
theorem eg39 (args : Array Value) (w : World) : (callFunc 39 args).run Try.prog w = .ok (.enter 39 args) w := enters Try.func39 (by kernel_rfl) (by kernel_rfl) _ _
theorem eg34 (args : Array Value) (w : World) : (callFunc 34 args).run Try.prog w = .ok (.enter 34 args) w := enters Try.func34 (by kernel_rfl) (by kernel_rfl) _ _
theorem eg35 (args : Array Value) (w : World) : (callFunc 35 args).run Try.prog w = .ok (.enter 35 args) w := enters Try.func35 (by kernel_rfl) (by kernel_rfl) _ _
theorem eg47 (args : Array Value) (w : World) : (callFunc 47 args).run Try.prog w = .ok (.enter 47 args) w := enters Try.func47 (by kernel_rfl) (by kernel_rfl) _ _
theorem eg40 (args : Array Value) (w : World) : (callFunc 40 args).run Try.prog w = .ok (.enter 40 args) w := enters Try.func40 (by kernel_rfl) (by kernel_rfl) _ _

/-- What a call leaves that hands back a number of two parts. -/
def CU (w : World) (c s : Option Nat) (e : Ending) (w' : World) : Prop := ∃ r i, e = .returned (.complex .f64 r i) ∧ Hid (ab r = c) ∧ Hid (ab i = s) ∧ Hid (Up w w')
theorem CU.mk {w w' : World} {c s : Option Nat} {r i : Nat} (h1 : ab r = c) (h2 : ab i = s) (hu : Up w w') : CU w c s (.returned (.complex .f64 r i)) w' := ⟨r, i, rfl, h1, h2, hu⟩
theorem sum39 {w : World} {blk off : Nat} {d : Array (Nat × Nat)} (HR : Hid (Reads2 w blk off d)) (cap : Nat) (hn : d.size < 4611686018427387904) :
    Calls Try.prog 38 #[.int .i64 d.size, .func (.func 39) #[] #[.pointer (some ⟨w.heap.size, 0, none⟩)]] (w.alloc (.cells #[.slice (some ⟨blk, off, none⟩) d.size cap] 41)) (CR (w.alloc (.cells #[.slice (some ⟨blk, off, none⟩) d.size cap] 41)) (sumN (reF d) d.size) (sumN (imF d) d.size)) :=
  t38 39 d.size _ (reF d) (imF d) _ hn eg39 fun i hi k => t39 blk off cap i w.heap.size d _ (box_new HR.out cap k 41) hi
theorem t19 (blk off cap : Nat) (d : Array (Nat × Nat)) (w : World) (hR : Reads2 w blk off d) (hn : d.size < 4611686018427387904) : Calls Try.prog 19 #[.slice (some ⟨blk, off, none⟩) d.size cap] w (CU w (sumN (reF d) d.size) (sumN (imF d) d.size)) := by
  have HR : Hid (Reads2 w blk off d) := hR
  clear hR
  go_enter Try.func19, Try.ntmps19
  go_wp2_with (go_at_call 38; (with_reducible refine (sum39 HR _ hn).mono ?_); rintro e w' ⟨r, s, k, rfl, rfl, hr, hs⟩)
  go_ret
  exact CU.mk hr.out hs.out ((Up.alloc _ _).trans (Up.drewN _ _))
theorem sum39e (p : Option Addr) (cap : Nat) (w : World) :
    Calls Try.prog 38 #[.int .i64 0, .func (.func 39) #[] #[.pointer (some ⟨w.heap.size, 0, none⟩)]] (w.alloc (.cells #[.slice p 0 cap] 41)) (CR (w.alloc (.cells #[.slice p 0 cap] 41)) (ab 0) (ab 0)) :=
  t38 39 0 _ (fun _ => none) (fun _ => none) _ (by omega) eg39 fun i hi _ => by omega
theorem t19e (p : Option Addr) (cap : Nat) (w : World) : Calls Try.prog 19 #[.slice p 0 cap] w (CU w (ab 0) (ab 0)) := by
  go_enter Try.func19, Try.ntmps19
  go_wp2_with (go_at_call 38; (with_reducible refine (sum39e _ _ _).mono ?_); rintro e w' ⟨r, s, k, rfl, rfl, hr, hs⟩)
  go_ret
  exact CU.mk hr.out hs.out ((Up.alloc _ _).trans (Up.drewN _ _))
theorem sum47 {w : World} {blk off : Nat} {d : Array (Nat × Nat)} (HR : Hid (Reads2 w blk off d)) (cap : Nat) (hn : d.size < 4611686018427387904) :
    Calls Try.prog 25 #[.int .i64 d.size, .func (.func 47) #[] #[.pointer (some ⟨w.heap.size, 0, none⟩)]] (w.alloc (.cells #[.slice (some ⟨blk, off, none⟩) d.size cap] 41)) (FR (w.alloc (.cells #[.slice (some ⟨blk, off, none⟩) d.size cap] 41)) (sumN (pwF d) d.size)) :=
  t25 47 d.size _ (pwF d) _ hn eg47 fun i hi k => t47 blk off cap i w.heap.size d _ (box_new HR.out cap k 41) hi
theorem t31 (blk off cap : Nat) (d : Array (Nat × Nat)) (w : World) (hR : Reads2 w blk off d) (hn : d.size < 4611686018427387904) : Calls Try.prog 31 #[.slice (some ⟨blk, off, none⟩) d.size cap] w (FU w (sumN (pwF d) d.size)) := by
  have HR : Hid (Reads2 w blk off d) := hR
  clear hR
  go_enter Try.func31, Try.ntmps31
  go_wp2_with (go_at_call 25; (with_reducible refine (sum47 HR _ hn).mono ?_); rintro e w' ⟨r, k, rfl, rfl, hr⟩)
  go_ret
  exact FU.mk hr.out ((Up.alloc _ _).trans (Up.drewN _ _))

/-- The careful sum's steps: the sum and what was lost. -/
def carS (F : Nat → Option Nat) : Nat → Option Nat × Option Nat
  | 0 => (ab 0, ab 0)
  | k + 1 =>
    let s := (carS F k).1
    let c := (carS F k).2
    let x := F k
    let t := bin .add s x
    (t, if gtF (s.map abs) (x.map abs) || eqF (s.map abs) (x.map abs) then bin .add c (bin .add (bin .sub s t) x) else bin .add c (bin .add (bin .sub x t) s))
def carF (F : Nat → Option Nat) (n : Nat) : Option Nat := if fin (sumN F n) then bin .add (carS F n).1 (carS F n).2 else sumN F n
theorem t48k {x : Nat} {b : Bool} (h : fin (ab x) = b) (w : World) : Calls Try.prog 48 #[.float .f64 x] w fun e w' => e = .returned (.bool b) ∧ w' = w := by
  rw [← h]; exact t48 x w
set_option maxHeartbeats 1000000 in
theorem t33 (g n : Nat) (c : Value) (F : Nat → Option Nat) (w : World) (hn : n < 4611686018427387904) (eg : ∀ args w, (callFunc g args).run Try.prog w = .ok (.enter g args) w)
    (hat : ∀ i, i < n → ∀ k, Calls Try.prog g #[.int .i64 i, c] (w.drewN k) (FR (w.drewN k) (F i))) :
    Calls Try.prog 33 #[.int .i64 n, .func (.func g) #[] #[c]] w (FR w (carF F n)) := by
  have HA : Hid (∀ i, i < n → ∀ k, Calls Try.prog g #[.int .i64 i, c] (w.drewN k) (FR (w.drewN k) (F i))) := hat
  have H0 : Hid (Calls Try.prog 25 #[.int .i64 n, .func (.func g) #[] #[c]] w (FR w (sumN F n))) := t25 g n c F w hn eg hat
  clear hat
  cases hfin : fin (sumN F n)
  · have HFin : Hid (fin (sumN F n) = false) := hfin
    clear hfin
    go_enter Try.func33, Try.ntmps33
    go_wp2_with (first
      | (go_at_call 25; (with_reducible refine H0.out.mono ?_); rintro e w' ⟨r, k, rfl, rfl, hr⟩)
      | (go_at_call 48; (with_reducible refine (t48k (hr.out ▸ HFin.out) _).mono ?_); rintro e w' ⟨rfl, rfl⟩))
    go_ret
    refine FR.mkN ?_
    unfold carF
    rw [HFin.out, hr.out]
    simp
  · have HFin : Hid (fin (sumN F n) = true) := hfin
    clear hfin
    go_enter Try.func33, Try.ntmps33
    go_wp2_with (first
      | (go_at_call 25; (with_reducible refine H0.out.mono ?_); rintro e w' ⟨r, k, rfl, rfl, hr⟩)
      | (go_at_call 48; (with_reducible refine (t48k (hr.out ▸ HFin.out) _).mono ?_); rintro e w' ⟨rfl, rfl⟩))
    go_loopw [6, 7, 8, 9, 10, 19] (fun vs vc _ _ _ vi wr => ∃ i r s k : Nat, i ≤ n ∧ vs = .float .f64 r ∧ vc = .float .f64 s ∧ vi = .int .i64 i ∧ wr = w.drewN k ∧ Hid (ab r = (carS F i).1) ∧ Hid (ab s = (carS F i).2)) (fun _ _ _ _ _ vi _ => n - (intOf vi).toNat)
    case atStart => exact ⟨0, 0, 0, k, by omega, rfl, rfl, rfl, rfl, rfl, rfl⟩
    case round =>
      obtain ⟨i, r1, s1, k1, hi, rfl, rfl, rfl, rfl, hr1, hs1⟩ := hrel
      by_cases hlt : i < n
      · go_wp2_with fail
        (with_reducible refine (HA.out i hlt _).mono ?_)
        rintro e w' ⟨x, k2, rfl, rfl, hx⟩
        go_wp2_with (first
          | ((with_reducible refine upon_fl (by simp) ?_); intro r3 k3 hr3)
          | (go_at_call 49; (with_reducible refine (t49 _ _).mono ?_); rintro e w' ⟨rfl, rfl⟩))
        all_goals go_roundw
        all_goals try (case measure => simp [intOf]; omega)
        all_goals
          refine ⟨i + 1, _, _, _, by omega, rfl, rfl, by go_num, rfl, ?_, ?_⟩ <;> simp_all [Hid, carS, ab_abs]
      · obtain rfl : i = n := by omega
        go_wp2_with ((with_reducible refine upon_fl (by simp) ?_); intro r3 k3 hr3)
        go_ret
        refine FR.mkN ?_
        unfold carF
        rw [if_pos HFin.out, ← hr1.out, ← hs1.out, ← hr3.out]

theorem car34 {w : World} {blk off b cap : Nat} {d : Array (Nat × Nat)} (HB : Hid (∀ k, Box (w.drewN k) b blk off cap d)) (hn : d.size < 4611686018427387904) (k : Nat) :
    Calls Try.prog 33 #[.int .i64 d.size, .func (.func 34) #[] #[.pointer (some ⟨b, 0, none⟩)]] (w.drewN k) (FR (w.drewN k) (carF (reF d) d.size)) :=
  t33 34 d.size _ (reF d) _ hn eg34 fun i hi k' => t34 blk off cap i b d _ (by rw [World.drewN_drewN]; exact HB.out _) hi
theorem car35 {w : World} {blk off b cap : Nat} {d : Array (Nat × Nat)} (HB : Hid (∀ k, Box (w.drewN k) b blk off cap d)) (hn : d.size < 4611686018427387904) (k : Nat) :
    Calls Try.prog 33 #[.int .i64 d.size, .func (.func 35) #[] #[.pointer (some ⟨b, 0, none⟩)]] (w.drewN k) (FR (w.drewN k) (carF (imF d) d.size)) :=
  t33 35 d.size _ (imF d) _ hn eg35 fun i hi k' => t35 blk off cap i b d _ (by rw [World.drewN_drewN]; exact HB.out _) hi
set_option maxHeartbeats 1000000 in
theorem t17 (blk off cap : Nat) (d : Array (Nat × Nat)) (w : World) (hR : Reads2 w blk off d) (hn : d.size < 4611686018427387904) : Calls Try.prog 17 #[.slice (some ⟨blk, off, none⟩) d.size cap] w (CU w (carF (reF d) d.size) (carF (imF d) d.size)) := by
  have HB : Hid (∀ k, Box ((w.alloc (.cells #[.slice (some ⟨blk, off, none⟩) d.size cap] 41)).drewN k) w.heap.size blk off cap d) := fun k => box_new hR cap k 41
  have C0 : Hid (Calls Try.prog 33 #[.int .i64 d.size, .func (.func 34) #[] #[.pointer (some ⟨w.heap.size, 0, none⟩)]] (w.alloc (.cells #[.slice (some ⟨blk, off, none⟩) d.size cap] 41)) (FR (w.alloc (.cells #[.slice (some ⟨blk, off, none⟩) d.size cap] 41)) (carF (reF d) d.size))) := car34 HB hn 0
  have hb : ∀ k, ((w.alloc (.cells #[.slice (some ⟨blk, off, none⟩) d.size cap] 41)).drewN k).cell? ⟨w.heap.size, 0, none⟩ = some (.slice (some ⟨blk, off, none⟩) d.size cap) := fun k => box_cell _ _ _ _
  clear hR
  go_enter Try.func17, Try.ntmps17
  go_wp2_with (first
    | (go_at_call 33; (with_reducible refine C0.out.mono ?_); rintro e w' ⟨r, k, rfl, rfl, hr⟩)
    | (go_at_call 33; (with_reducible refine (car35 HB hn _).mono ?_); rintro e w' ⟨s, k2, rfl, rfl, hs⟩))
  go_ret
  refine CU.mk hr.out hs.out ?_
  first | exact (Up.alloc _ _).trans (Up.drewN _ _) | exact ((Up.alloc _ _).trans (Up.drewN _ _)).trans (Up.drewN _ _)

def aboveF (x y : Option Nat) : Bool := gtF x y || (y.isNone && x.isSome)
theorem ab_isNone (x : Nat) : (ab x).isNone = isN x := by unfold ab; cases isN x <;> simp
theorem ab_isSome (x : Nat) : (ab x).isSome = !isN x := by unfold ab; cases isN x <;> simp
theorem t44 (x y : Nat) (w : World) : Calls Try.prog 44 #[.float .f64 x, .float .f64 y] w fun e w' => e = .returned (.bool (aboveF (ab x) (ab y))) ∧ w' = w := by
  go_enter Try.func44, Try.ntmps44
  go_wp2_with (go_at_call 50; (with_reducible refine (t50 _ _).mono ?_); rintro e w' ⟨rfl, rfl⟩)
  all_goals (go_ret; go_tidy; refine ⟨?_, rfl⟩)
  all_goals (unfold aboveF; rw [ab_isNone, ab_isSome]; simp_all)
end Go.Proofs.Ytfifdngcdknbbaa
