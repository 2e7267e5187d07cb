/- Products and sums of complex numbers. -/
import Derived.Test.YthifemkbemhmnaaK
import Derived.Deep.RegionWith
namespace Go.Proofs.Ythifemkbemhmnaa
open Go.ChangeShapes Go.WideShapes Go.ChangeAt Go.RowKit Go.Fl Ieee
attribute [local go_sem] run_store_float run_store_complex call69 call32 run_neg fold_eq fold_ne fold_lt fold_gt abs_eq

/-- A sum: the first alone, then each further one. -/
def sumN (F : Nat → Option Nat) : Nat → Option Nat
  | 0 => ab 0
  | 1 => F 0
  | n + 2 => bin .add (sumN F (n + 1)) (F (n + 1))
theorem sumN_step (F : Nat → Option Nat) (k : Nat) : sumN F (k + 1 + 1) = bin .add (sumN F (k + 1)) (F (k + 1)) := rfl
/-- The sum of two complex numbers: part by part. -/
theorem run_cadd {P : Program} (t : TypeId) (a b c d : Nat) (w : World) :
    ∃ r i n, (binOp .add t (.complex .f64 a b) (.complex .f64 c d)).run P w = .ok (.complex .f64 r i) (w.drewN n) ∧ ab r = bin .add (ab a) (ab c) ∧ ab i = bin .add (ab b) (ab d) := by
  obtain ⟨r, n, e1, h1⟩ := run_fl (P := P) .add t a c w (by simp)
  obtain ⟨i, m, e2, h2⟩ := run_fl (P := P) .add t b d (w.drewN n) (by simp)
  have f1 : (Op.floatArith .add .f64 a c).run P w = .ok (.float .f64 r) (w.drewN n) := e1
  have f2 : (Op.floatArith .add .f64 b d).run P (w.drewN n) = .ok (.float .f64 i) ((w.drewN n).drewN m) := e2
  refine ⟨r, i, n + m, ?_, h1, h2⟩
  rw [World.drewN_drewN] at f2
  simp [binOp, Op.complexOp, Op.Complex.arith, f1, f2]
theorem upon_cadd {P : Program} {o : Oper} {a : Act} {next : Act → World → Prop} {Q : Exit → Act → World → Prop} {t : TypeId} {x y x' y' : Nat} {w : World}
    {F : Value → World → Result Next} (hk : ∀ r i n, Hid (ab r = bin .add (ab x) (ab x')) → Hid (ab i = bin .add (ab y) (ab y')) → o.upon P a next Q (F (.complex .f64 r i) (w.drewN n))) :
    o.upon P a next Q (((binOp .add t (.complex .f64 x y) (.complex .f64 x' y')).run P w).andThen F) := by
  obtain ⟨r, i, n, e, h1, h2⟩ := run_cadd (P := P) t x y x' y' w
  rw [e]
  exact hk r i n h1 h2
/-- What a call leaves that hands back a number of two parts, and only draws. -/
def DR (w : World) (c s : Option Nat) (e : Ending) (w' : World) : Prop := ∃ r i n, e = .returned (.complex .f64 r i) ∧ w' = w.drewN n ∧ Hid (ab r = c) ∧ Hid (ab i = s)
theorem DR.mk0 {w : World} {c s : Option Nat} {r i : Nat} (h1 : ab r = c) (h2 : ab i = s) : DR w c s (.returned (.complex .f64 r i)) w := ⟨r, i, 0, rfl, rfl, h1, h2⟩
theorem DR.mkN {w : World} {c s : Option Nat} {r i n : Nat} (h1 : ab r = c) (h2 : ab i = s) : DR w c s (.returned (.complex .f64 r i)) (w.drewN n) := ⟨r, i, n, rfl, rfl, h1, h2⟩
def mulR (a b c d : Option Nat) : Option Nat := bin .sub (bin .mul a c) (bin .mul b d)
def mulI (a b c d : Option Nat) : Option Nat := bin .add (bin .mul a d) (bin .mul b c)
theorem t27 (a b c d : Nat) (w : World) : Calls Try.prog 27 #[.complex .f64 a b, .complex .f64 c d] w (DR w (mulR (ab a) (ab b) (ab c) (ab d)) (mulI (ab a) (ab b) (ab c) (ab d))) := by
  go_enter Try.func27, Try.ntmps27
  go_wp2_with ((with_reducible refine upon_fl (by simp) ?_); intro r n hr)
  go_ret
  refine DR.mkN ?_ ?_ <;> simp_all [mulR, mulI, Hid]
theorem enters {f : FuncId} {fn : Func} (hf : Try.prog.funcs[f]? = some fn) (hn : (fn.name == "runtime.NumGoroutine") = false) (hb : fn.body.isSome = true) (args : Array Value) (w : World) : (callFunc f args).run Try.prog w = .ok (.enter f args) w := by
  have h1 : fn.name ≠ "runtime.NumGoroutine" := by simpa using hn
  obtain ⟨c, hc⟩ := Option.isSome_iff_exists.1 hb
  simp [callFunc, hf, h1, hc]
set_option maxRecDepth 20000 in
set_option maxHeartbeats 1000000 in
theorem t25 (g n : Nat) (c : Array Value) (F G : Nat → Option Nat) (w : World) (hn : n < 4611686018427387904) (eg : ∀ args w, (callFunc g args).run Try.prog w = .ok (.enter g args) w)
    (hat : ∀ i, i < n → ∀ k, Calls Try.prog g (#[.int .i64 i] ++ c) (w.drewN k) (DR (w.drewN k) (F i) (G i))) :
    Calls Try.prog 25 #[.int .i64 n, .func (.func g) #[] c] w (DR w (sumN F n) (sumN G n)) := by
  have HA : Hid (∀ i, i < n → ∀ k, Calls Try.prog g (#[.int .i64 i] ++ c) (w.drewN k) (DR (w.drewN k) (F i) (G i))) := hat
  clear hat
  rcases Nat.eq_zero_or_pos n with rfl | hp
  · go_enter Try.func25, Try.ntmps25
    go_wp2
    go_ret
    exact DR.mk0 rfl rfl
  · obtain ⟨m, rfl⟩ : ∃ m, n = m + 1 := ⟨n - 1, by omega⟩
    have A0 : Hid (Calls Try.prog g (#[.int .i64 0] ++ c) w (DR w (F 0) (G 0))) := HA.out 0 hp 0
    have A1 : Hid (∀ i, i < m → ∀ k, Calls Try.prog g (#[.int .i64 ((i : Int) + 1)] ++ c) (w.drewN k) (DR (w.drewN k) (F (i + 1)) (G (i + 1)))) := fun i hi k => HA.out (i + 1) (by omega) k
    clear HA
    have h0 : ((m : Int) + 1 == 0) = false := by rw [beq_eq_false_iff_ne]; omega
    go_enter Try.func25, Try.ntmps25
    go_wp2_with fail
    (with_reducible refine A0.out.mono ?_)
    rintro e w' ⟨r, s, k, rfl, rfl, hr, hs⟩
    go_wp2
    go_loopw [5, 6, 13] (fun vs _ vi wr => ∃ i r s k : Nat, i ≤ m ∧ vs = .complex .f64 r s ∧ vi = .int .i64 i ∧ wr = w.drewN k ∧ Hid (ab r = sumN F (i + 1)) ∧ Hid (ab s = sumN G (i + 1))) (fun _ _ vi _ => m - (intOf vi).toNat)
    case atStart => exact ⟨0, r, s, k, by omega, rfl, rfl, by simp, hr, hs⟩
    case round =>
      clear hr hs
      obtain ⟨i, r, s, k, hi, rfl, rfl, rfl, hr, hs⟩ := hrel
      by_cases hlt : i < m
      · go_wp2_with fail
        (with_reducible refine (A1.out i hlt _).mono ?_)
        rintro e w' ⟨r2, s2, k2, rfl, rfl, hr2, hs2⟩
        go_wp2_with ((with_reducible refine upon_cadd ?_); intro r3 s3 k3 hr3 hs3)
        go_roundw
        case rel =>
          refine ⟨i + 1, r3, s3, _, by omega, rfl, by go_num, by first | rfl | (simp only [World.drewN_drewN]; rfl), ?_, ?_⟩
          · show _ = _
            rw [sumN_step, ← hr.out, ← hr2.out, ← hr3.out]
          · show _ = _
            rw [sumN_step, ← hs.out, ← hs2.out, ← hs3.out]
        case measure => simp [intOf]; omega
      · obtain rfl : i = m := by omega
        go_wp2
        go_ret
        exact DR.mkN hr.out hs.out
/-- The cells of a slice hold these numbers. -/
def RD (w : World) (blk off n : Nat) (f : Nat → Nat × Nat) : Prop := ∀ j, j < n → w.cell? ⟨blk, off + j, none⟩ = some (ce (f j))
theorem RD.up {w w' : World} {blk off n : Nat} {f : Nat → Nat × Nat} (h : RD w blk off n f) (hu : Up w w') : RD w' blk off n f := fun j hj => cell_up (h j hj) hu
/-- The sums of a row's real and imaginary parts. -/
def sumR (f : Nat → Nat × Nat) (n : Nat) : Option Nat := sumN (fun i => ab (f i).1) n
def sumI (f : Nat → Nat × Nat) (n : Nat) : Option Nat := sumN (fun i => ab (f i).2) n
theorem box_cell (w : World) (v : Value) (t : TypeId) (k : Nat) : ((w.alloc (.cells #[v] t)).drewN k).cell? ⟨w.heap.size, 0, none⟩ = some v := World.cell?_alloc_at _ _ _ _ rfl
theorem up1 (w : World) (o : Obj) (k : Nat) : Up w ((w.alloc o).drewN k) := (Up.alloc _ _).trans (Up.drewN _ _)
end Go.Proofs.Ythifemkbemhmnaa
/- The product of two rows. -/
namespace Go.Proofs.Ythifemkbemhmnaa
open Go.ChangeShapes Go.WideShapes Go.ChangeAt Go.RowKit Go.Fl Ieee
attribute [local go_sem] run_store_float run_store_complex call69 call32 run_neg fold_eq fold_ne fold_lt fold_gt abs_eq

def dotR (f g : Nat → Nat × Nat) (i : Nat) : Option Nat := mulR (ab (f i).1) (ab (f i).2) (ab (g i).1) ((ab (g i).2).map neg)
def dotI (f g : Nat → Nat × Nat) (i : Nat) : Option Nat := mulI (ab (f i).1) (ab (f i).2) (ab (g i).1) ((ab (g i).2).map neg)
set_option maxRecDepth 20000 in
set_option maxHeartbeats 2000000 in
theorem t26 (b1 b2 g1 o1 n1 c1 g2 o2 n2 c2 i : Nat) (f g : Nat → Nat × Nat) (w : World) (hb1 : w.cell? ⟨b1, 0, none⟩ = some (.slice (some ⟨g1, o1, none⟩) n1 c1)) (hb2 : w.cell? ⟨b2, 0, none⟩ = some (.slice (some ⟨g2, o2, none⟩) n2 c2)) (hR1 : RD w g1 o1 n1 f) (hR2 : RD w g2 o2 n2 g) (h1 : i < n1) (h2 : i < n2) :
    Calls Try.prog 26 #[.int .i64 i, .pointer (some ⟨b1, 0, none⟩), .pointer (some ⟨b2, 0, none⟩)] w (DR w (dotR f g i) (dotI f g i)) := by
  obtain ⟨x, y, hx, hcx⟩ : ∃ x y, f i = (x, y) ∧ w.cell? ⟨g1, o1 + i, none⟩ = some (.complex .f64 x y) := ⟨_, _, rfl, hR1 i h1⟩
  obtain ⟨u, v, hu, hcu⟩ : ∃ x y, g i = (x, y) ∧ w.cell? ⟨g2, o2 + i, none⟩ = some (.complex .f64 x y) := ⟨_, _, rfl, hR2 i h2⟩
  unfold dotR dotI
  rw [hx, hu]
  simp only [← ab_neg]
  clear hx hu hR1 hR2
  have hi1 : (i : Int) < (n1 : Int) := by omega
  have hi2 : (i : Int) < (n2 : Int) := by omega
  have hi0 : (0 : Int) ≤ (i : Int) := Int.natCast_nonneg _
  go_enter Try.func26, Try.ntmps26
  go_wp2_with fail
  go_region_held3 (fun w' => w'.cell? ⟨b1, 0, none⟩ = some (.slice (some ⟨g1, o1, none⟩) n1 c1) ∧ w'.cell? ⟨b2, 0, none⟩ = some (.slice (some ⟨g2, o2, none⟩) n2 c2) ∧ w'.cell? ⟨g1, o1 + i, none⟩ = some (.complex .f64 x y) ∧ w'.cell? ⟨g2, o2 + i, none⟩ = some (.complex .f64 u v)) (go_keep)
    (first
    | (go_at_call 28; (with_reducible refine (t28 _ _ _).mono ?_); rintro e w' ⟨rfl, rfl⟩)
    | (go_at_call 27; (with_reducible refine (t27 _ _ _ _ _).mono ?_); rintro e w' ⟨r, s, k, rfl, rfl, hr, hs⟩))
  all_goals (try go_wp2)
  all_goals (go_ret; exact DR.mkN hr.out hs.out)
theorem eg26 (args : Array Value) (w : World) : (callFunc 26 args).run Try.prog w = .ok (.enter 26 args) w := enters Try.func26 (by kernel_rfl) (by kernel_rfl) _ _
theorem two_boxes (w : World) (u v : Value) (s t : TypeId) (k : Nat) : (((w.alloc (.cells #[u] s)).alloc (.cells #[v] t)).drewN k).cell? ⟨w.heap.size, 0, none⟩ = some u ∧ (((w.alloc (.cells #[u] s)).alloc (.cells #[v] t)).drewN k).cell? ⟨w.heap.size + 1, 0, none⟩ = some v := by
  constructor
  · have h : ((w.alloc (.cells #[u] s)).alloc (.cells #[v] t)).heap[w.heap.size]? = some (.cells #[u] s) := by
      rw [Below.heap_alloc (w.alloc (.cells #[u] s)) _ w.heap.size (by simp)]; exact heap_alloc_last _ _
    show ((w.alloc (.cells #[u] s)).alloc (.cells #[v] t)).cell? _ = _
    rw [cell_of_row _ _ _ _ _ _ h]; rfl
  · have h : ((w.alloc (.cells #[u] s)).alloc (.cells #[v] t)).heap[w.heap.size + 1]? = some (.cells #[v] t) := by
      have := heap_alloc_last (w.alloc (.cells #[u] s)) (.cells #[v] t)
      simpa using this
    show ((w.alloc (.cells #[u] s)).alloc (.cells #[v] t)).cell? _ = _
    rw [cell_of_row _ _ _ _ _ _ h]; rfl
theorem up2 (w : World) (o1 o2 : Obj) (k : Nat) : Up w (((w.alloc o1).alloc o2).drewN k) := ((Up.alloc _ _).trans (Up.alloc _ _)).trans (Up.drewN _ _)
theorem dot56 {w : World} {g1 o1 n1 c1 g2 o2 n2 c2 N : Nat} {f g : Nat → Nat × Nat} (h1 : N ≤ n1) (h2 : N ≤ n2) (HR1 : Hid (RD w g1 o1 n1 f)) (HR2 : Hid (RD w g2 o2 n2 g)) (hn : N < 4611686018427387904) :
    Calls Try.prog 25 #[.int .i64 N, .func (.func 26) #[] #[.pointer (some ⟨w.heap.size, 0, none⟩), .pointer (some ⟨w.heap.size + 1, 0, none⟩)]] ((w.alloc (.cells #[.slice (some ⟨g1, o1, none⟩) n1 c1] 27)).alloc (.cells #[.slice (some ⟨g2, o2, none⟩) n2 c2] 27))
      (DR ((w.alloc (.cells #[.slice (some ⟨g1, o1, none⟩) n1 c1] 27)).alloc (.cells #[.slice (some ⟨g2, o2, none⟩) n2 c2] 27)) (sumN (dotR f g) N) (sumN (dotI f g) N)) := by
  refine t25 26 N _ (dotR f g) (dotI f g) _ hn eg26 fun i hi k => ?_
  obtain ⟨k1, k2⟩ := two_boxes w (.slice (some ⟨g1, o1, none⟩) n1 c1) (.slice (some ⟨g2, o2, none⟩) n2 c2) 27 27 k
  exact t26 w.heap.size (w.heap.size + 1) g1 o1 n1 c1 g2 o2 n2 c2 i f g _ k1 k2 (HR1.out.up (up2 _ _ _ _)) (HR2.out.up (up2 _ _ _ _)) (by omega) (by omega)
theorem t9 (g1 o1 n1 c1 g2 o2 n2 c2 N : Nat) (f g : Nat → Nat × Nat) (w : World) (h : N = n1 ∧ n1 ≤ n2 ∨ N = n2 ∧ n2 < n1) (hR1 : RD w g1 o1 n1 f) (hR2 : RD w g2 o2 n2 g) (hn : n1 + n2 < 4611686018427387904) :
    Calls Try.prog 9 #[.slice (some ⟨g1, o1, none⟩) n1 c1, .slice (some ⟨g2, o2, none⟩) n2 c2] w (CR w (sumN (dotR f g) N) (sumN (dotI f g) N)) := by
  have HR1 : Hid (RD w g1 o1 n1 f) := hR1
  have HR2 : Hid (RD w g2 o2 n2 g) := hR2
  obtain ⟨k1, k2⟩ := two_boxes w (.slice (some ⟨g1, o1, none⟩) n1 c1) (.slice (some ⟨g2, o2, none⟩) n2 c2) 27 27 0
  have k1' : ((w.alloc (.cells #[.slice (some ⟨g1, o1, none⟩) n1 c1] 27)).alloc (.cells #[.slice (some ⟨g2, o2, none⟩) n2 c2] 27)).cell? ⟨w.heap.size, 0, none⟩ = some (.slice (some ⟨g1, o1, none⟩) n1 c1) := k1
  have k2' : ((w.alloc (.cells #[.slice (some ⟨g1, o1, none⟩) n1 c1] 27)).alloc (.cells #[.slice (some ⟨g2, o2, none⟩) n2 c2] 27)).cell? ⟨w.heap.size + 1, 0, none⟩ = some (.slice (some ⟨g2, o2, none⟩) n2 c2) := k2
  clear hR1 hR2 k1 k2
  rcases h with ⟨rfl, h⟩ | ⟨rfl, h⟩
  · have hz : min (N : Int) (n2 : Int) = N := by omega
    go_enter Try.func9, Try.ntmps9
    go_wp2_with (go_at_call 25; (with_reducible refine (dot56 (Nat.le_refl _) h HR1 HR2 (by omega)).mono ?_); rintro e w' ⟨r, s, k, rfl, rfl, hr, hs⟩)
    go_ret
    exact CR.mk hr.out hs.out (up2 _ _ _ _)
  · have hz : (N : Int) < (n1 : Int) := by omega
    go_enter Try.func9, Try.ntmps9
    go_wp2_with (go_at_call 25; (with_reducible refine (dot56 (Nat.le_of_lt h) (Nat.le_refl _) HR1 HR2 (by omega)).mono ?_); rintro e w' ⟨r, s, k, rfl, rfl, hr, hs⟩)
    go_ret
    exact CR.mk hr.out hs.out (up2 _ _ _ _)
end Go.Proofs.Ythifemkbemhmnaa
