/- A source: New, Next, Skip, State. -/
import Derived.Test.YthifemkbemhmnaaBg
namespace Go.Proofs.Ythifemkbemhmnaa
open Go.ChangeShapes Go.WideShapes Go.ChangeAt Go.RowKit Go.Fl Ieee
attribute [local go_sem] run_store_float run_store_complex call69 call32 run_neg fold_eq fold_ne fold_lt fold_gt abs_eq

/-- A number laid over what of it is shifted down. -/
def xs (z d : Int) : Int := bits BinOp.xor IntKind.u64 z (z / d)
def m1 (z : Int) : Int := IntKind.u64.wrap (xs z 1073741824 * 13787848793156543929)
def m2 (z : Int) : Int := IntKind.u64.wrap (xs z 134217728 * 10723151780598845931)
/-- A step's answer. -/
def stir (z : Int) : Int := xs (m2 (m1 z)) 2147483648
/-- A leap. -/
def adv (s n : Int) : Int := IntKind.u64.wrap (s + IntKind.u64.wrap (n * 11400714819323198485))
/-- So many steps. -/
def it (s : Int) : Nat → Int
  | 0 => s
  | k + 1 => adv (it s k) 1
theorem But.drewN (g : Nat) (w : World) (n : Nat) : But g w (w.drewN n) := But.of_up (Up.drewN w n)
/-- A source: its block, its state. -/
structure SC (w : World) (b : Nat) (s : Int) : Prop where
  c : w.cell? ⟨b, 0, none⟩ = some (.int .u64 s)
  f : w.frozen? ⟨b, 0, none⟩ = false
theorem SC.lt {w : World} {b : Nat} {s : Int} (h : SC w b s) : b < w.heap.size := World.block_lt_of_cell? w _ h.c
theorem SC.but {g : Nat} {w w' : World} {b : Nat} {s : Int} (h : SC w b s) (hb : But g w w') (hne : b ≠ g) : SC w' b s :=
  ⟨hb.cell hne h.c, (World.grownBy.frozen_far hb ⟨b, 0, none⟩ h.lt (by simpa using hne)).trans h.f⟩
theorem SC.up {w w' : World} {b : Nat} {s : Int} (h : SC w b s) (hu : Up w w') : SC w' b s := h.but (g := b + 1) (But.of_up hu) (by omega)
theorem SC.new (w : World) (s : Int) (t : TypeId) : SC (w.alloc (.cells #[.int .u64 s] t)) w.heap.size s := by
  have hh := heap_alloc_last w (.cells #[.int .u64 s] t)
  exact ⟨by rw [cell_of_row _ _ _ _ _ _ hh]; rfl, World.frozen?_alloc_at _ _ _ _ rfl⟩
theorem SC.put {w : World} {b : Nat} {s : Int} (h : SC w b s) (s' : Int) : SC (w.setCell ⟨b, 0, none⟩ (.int .u64 s')) b s' ∧ But b w (w.setCell ⟨b, 0, none⟩ (.int .u64 s')) := by
  refine ⟨⟨World.cell?_setCell_same' w ⟨b, 0, none⟩ _ (by rw [h.c]; rfl), (World.frozen?_setCell _ _ _ _).trans h.f⟩, ?_⟩
  exact ⟨rfl, rfl, rfl, by simp, fun k _ hk => heap_setCell_other w ⟨b, 0, none⟩ k _ (fun e => hk (by rw [e]))⟩
/-- What a call of a source leaves: its answer, its state. -/
def NX (w : World) (b : Nat) (s : Int) (v : Value) (e : Ending) (w' : World) : Prop := e = .returned v ∧ Hid (SC w' b s) ∧ Hid (But b w w')
def NF (w : World) (b : Nat) (s : Int) (v : Option Nat) (e : Ending) (w' : World) : Prop := ∃ r, e = .returned (.float .f64 r) ∧ Hid (ab r = v) ∧ Hid (SC w' b s) ∧ Hid (But b w w')

set_option maxRecDepth 20000 in
theorem t91 (z : Int) (w : World) : Calls Try.prog 91 #[.int .u64 z] w fun e w' => e = .returned (.int .u64 (stir z)) ∧ w' = w := by
  go_enter Try.func91, Try.ntmps91
  go_wp2
  go_ret
  exact ⟨rfl, rfl⟩
set_option maxRecDepth 20000 in
theorem t90 {b : Nat} {s : Int} {w : World} (h : SC w b s) (n : Int) : Calls Try.prog 90 #[.pointer (some ⟨b, 0, none⟩), .int .u64 n] w (NX w b (adv s n) (.tuple #[])) := by
  have H : Hid (SC w b s) := h
  have hc := h.c
  have hf := h.f
  clear h
  go_enter Try.func90, Try.ntmps90
  go_wp2
  go_end0
  exact ⟨rfl, (H.out.put _).1, (H.out.put _).2⟩
set_option maxRecDepth 20000 in
theorem t90n (n : Int) (w : World) : Calls Try.prog 90 #[.pointer none, .int .u64 n] w fun e w' => e = .returned (.tuple #[]) ∧ w' = w := by
  go_enter Try.func90, Try.ntmps90
  go_wp2
  (try simp only [Exit.inBlock, Exit.then])
  refine bodyPost_ret (results_none rfl _ _ _) rfl ?_
  exact ⟨rfl, rfl⟩
set_option maxRecDepth 20000 in
theorem t38 (s : Int) (w : World) : Calls Try.prog 38 #[.int .u64 s] w fun e w' => e = .returned (.pointer (some ⟨w.heap.size, 0, none⟩)) ∧ Hid (SC w' w.heap.size s) ∧ Hid (Up w w') := by
  go_enter Try.func38, Try.ntmps38
  go_wp2
  go_ret
  exact ⟨rfl, SC.new _ _ _, Up.alloc _ _⟩
set_option maxRecDepth 20000 in
theorem t87 {b : Nat} {s : Int} {w : World} (h : SC w b s) : Calls Try.prog 87 #[.pointer (some ⟨b, 0, none⟩)] w (NX w b (adv s 1) (.int .u64 (stir (adv s 1)))) := by
  have H : Hid (SC w b s) := h
  clear h
  go_enter Try.func87, Try.ntmps87
  go_wp2_with (first
    | (go_at_call 90; (with_reducible refine (t90 H.out _).mono ?_); rintro e w1 ⟨rfl, h1, hb1⟩; have hc1 := h1.out.c)
    | (go_at_call 91; (with_reducible refine (t91 _ _).mono ?_); rintro e w2 ⟨rfl, rfl⟩))
  go_ret
  exact ⟨rfl, h1, hb1⟩
theorem adv_one (s : Int) : IntKind.u64.wrap (s + 11400714819323198485) = adv s 1 := rfl
set_option maxRecDepth 20000 in
theorem t87n (w : World) : Calls Try.prog 87 #[.pointer none] w fun e w' => e = .returned (.int .u64 0) ∧ w' = w := by
  go_enter Try.func87, Try.ntmps87
  go_wp2
  go_ret
  exact ⟨rfl, rfl⟩
end Go.Proofs.Ythifemkbemhmnaa
/- Float, Bell, Pair. -/
namespace Go.Proofs.Ythifemkbemhmnaa
open Go.ChangeShapes Go.WideShapes Go.ChangeAt Go.RowKit Go.Fl Ieee
attribute [local go_sem] run_store_float run_store_complex call69 call32 run_neg fold_eq fold_ne fold_lt fold_gt abs_eq

/-- What Float tells of a state. -/
def fltF (s : Int) : Option Nat := bin .quo (ab (floatOfInt .f64 (stir (adv s 1) / 2048))) (ab 4845873199050653696)
/-- The sum of k + 1 of them. -/
def sumF (s : Int) : Nat → Option Nat
  | 0 => fltF s
  | k + 1 => bin .add (sumF s k) (fltF (it s (k + 1)))
def bellF (s : Int) : Option Nat := bin .sub (sumF s 11) (ab 4618441417868443648)
def pairF (s : Int) (x : Nat) : Option Nat × Option Nat := (bin .mul (bellF s) (ab x), bin .mul (bellF (it s 12)) (ab x))
theorem it_add (s : Int) (k : Nat) : ∀ j, it (it s k) j = it s (k + j)
  | 0 => rfl
  | j + 1 => by show adv (it (it s k) j) 1 = adv (it s (k + j)) 1; rw [it_add s k j]

set_option maxRecDepth 20000 in
theorem t84 {b : Nat} {s : Int} {w : World} (h : SC w b s) : Calls Try.prog 84 #[.pointer (some ⟨b, 0, none⟩)] w (NF w b (adv s 1) (fltF s)) := by
  have H : Hid (SC w b s) := h
  clear h
  go_enter Try.func84, Try.ntmps84
  go_wp2_with (first
    | (go_at_call 87; (with_reducible refine (t87 H.out).mono ?_); rintro e w1 ⟨rfl, h1, hb1⟩)
    | ((with_reducible refine upon_fl (by simp) ?_); intro r n hr))
  go_ret
  exact ⟨r, rfl, hr, h1.out.up (Up.drewN _ _), hb1.out.trans (But.drewN _ _ _)⟩
theorem zero_quo : bin .quo (ab (floatOfInt .f64 0)) (ab 4845873199050653696) = some 0 := by decide +kernel
set_option maxRecDepth 20000 in
theorem t84n (w : World) : Calls Try.prog 84 #[.pointer none] w fun e w' => e = .returned (.float .f64 0) ∧ Hid (Up w w') := by
  go_enter Try.func84, Try.ntmps84
  go_wp2_with (first
    | (go_at_call 87; (with_reducible refine (t87n _).mono ?_); rintro e w1 ⟨rfl, rfl⟩)
    | ((with_reducible refine upon_fl (by simp) ?_); intro r n hr))
  go_ret
  have : ab r = some 0 := hr.out.trans zero_quo
  exact ⟨by rw [of_ab this]; rfl, Up.drewN _ _⟩
/-- A bell under way: k + 1 Floats are added. -/
structure BW (w wr : World) (b : Nat) (s : Int) (r k : Nat) : Prop where
  sc : SC wr b (it s (k + 1))
  but : But b w wr
  sum : ab r = sumF s k
theorem BW.step {w wr w1 : World} {b : Nat} {s : Int} {r r1 r2 k n : Nat} (h : BW w wr b s r k) (sc : SC w1 b (adv (it s (k + 1)) 1)) (hb : But b wr w1) (h1 : ab r1 = fltF (it s (k + 1))) (h2 : ab r2 = bin .add (ab r) (ab r1)) : BW w (w1.drewN n) b s r2 (k + 1) :=
  ⟨SC.up (s := it s (k + 1 + 1)) sc (Up.drewN _ _), (h.but.trans hb).trans (But.drewN _ _ _), by rw [h2, h1, h.sum]; rfl⟩
set_option maxRecDepth 20000 in
theorem t78 {b : Nat} {s : Int} {w : World} (h : SC w b s) : Calls Try.prog 78 #[.pointer (some ⟨b, 0, none⟩)] w (NF w b (it s 12) (bellF s)) := by
  have H : Hid (SC w b s) := h
  clear h
  go_enter Try.func78, Try.ntmps78
  go_wp2_with (go_at_call 84; (with_reducible refine (t84 H.out).mono ?_); rintro e w1 ⟨r, rfl, hr, h1, hb1⟩)
  have HB : Hid (BW w w1 b s r 0) := ⟨h1.out, hb1.out, hr.out⟩
  clear h1 hb1 hr H
  go_loopw [3, 8] (fun v i wr => ∃ k r : Nat, k ≤ 11 ∧ v = .float .f64 r ∧ i = .int .i64 k ∧ Hid (BW w wr b s r k)) (fun _ i _ => 11 - (intOf i).toNat)
  case atStart => exact ⟨0, _, by omega, rfl, rfl, HB⟩
  case round =>
    clear HB
    obtain ⟨k, r, hk, rfl, rfl, HB⟩ := hrel
    by_cases hlt : k < 11
    · have hkz : (k : Int) < 11 := by omega
      go_wp2_with (first
        | (go_at_call 84; (with_reducible refine (t84 HB.out.sc).mono ?_); rintro e w1 ⟨r1, rfl, hr1, h1, hb1⟩)
        | ((with_reducible refine upon_fl (by simp) ?_); intro r2 n hr2))
      go_roundw
      case rel => exact ⟨k + 1, _, by omega, rfl, by go_num, HB.out.step h1.out hb1.out hr1.out hr2.out⟩
      case measure => simp [intOf]; omega
    · obtain rfl : k = 11 := by omega
      go_wp2_with ((with_reducible refine upon_fl (by simp) ?_); intro r2 n hr2)
      go_ret
      exact ⟨_, rfl, by show _ = _; rw [hr2.out, HB.out.sum]; rfl, HB.out.sc.up (Up.drewN _ _), HB.out.but.trans (But.drewN _ _ _)⟩
set_option maxRecDepth 20000 in
theorem t78n (w : World) : Calls Try.prog 78 #[.pointer none] w fun e w' => e = .returned (.float .f64 0) ∧ w' = w := by
  go_enter Try.func78, Try.ntmps78
  go_wp2
  go_ret
  exact ⟨rfl, rfl⟩
/-- What a Pair leaves: the program's; the reference's. -/
def NP (w : World) (b : Nat) (s : Int) (v : Option Nat × Option Nat) (e : Ending) (w' : World) : Prop := ∃ x y, e = .returned (.complex .f64 x y) ∧ Hid (ab2 (x, y) = v) ∧ Hid (SC w' b s) ∧ Hid (But b w w')
def NQ (w : World) (b : Nat) (s : Int) (v : Option Nat × Option Nat) (e : Ending) (w' : World) : Prop := ∃ x y, e = .returned (.agg #[.float .f64 x, .float .f64 y]) ∧ Hid (ab2 (x, y) = v) ∧ Hid (SC w' b s) ∧ Hid (But b w w')
set_option maxRecDepth 20000 in
theorem t63 {b : Nat} {s : Int} {w : World} (h : SC w b s) (x : Nat) : Calls Try.prog 63 #[.pointer (some ⟨b, 0, none⟩), .float .f64 x] w (NP w b (it s 24) (pairF s x)) := by
  have H : Hid (SC w b s) := h
  clear h
  go_enter Try.func63, Try.ntmps63
  go_wp2_with (first
    | (go_at_call 78; (with_reducible refine (t78 H.out).mono ?_); rintro e w1 ⟨r1, rfl, hr1, h1, hb1⟩; clear H)
    | ((with_reducible refine upon_fl (by simp) ?_); intro r2 n2 hr2; have h2 : Hid (SC (w1.drewN n2) b (it s 12)) := h1.out.up (Up.drewN _ _); have hb2 : Hid (But b w (w1.drewN n2)) := hb1.out.trans (But.drewN _ _ _); clear h1 hb1)
    | (go_at_call 78; (with_reducible refine (t78 h2.out).mono ?_); rintro e w3 ⟨r3, rfl, hr3, h3, hb3⟩)
    | ((with_reducible refine upon_fl (by simp) ?_); intro r4 n4 hr4))
  go_ret
  refine ⟨_, _, rfl, ?_, ?_, (hb2.out.trans hb3.out).trans (But.drewN _ _ _)⟩
  · show (_, _) = pairF s x
    rw [hr2.out, hr4.out, hr1.out, hr3.out]; rfl
  · have := h3.out.up (Up.drewN _ n4)
    rw [it_add] at this; exact this
set_option maxRecDepth 20000 in
theorem t63n (x : Nat) (w : World) : Calls Try.prog 63 #[.pointer none, .float .f64 x] w fun e w' => e = .returned (.complex .f64 0 0) ∧ w' = w := by
  go_enter Try.func63, Try.ntmps63
  go_wp2
  go_ret
  exact ⟨rfl, rfl⟩
end Go.Proofs.Ythifemkbemhmnaa
