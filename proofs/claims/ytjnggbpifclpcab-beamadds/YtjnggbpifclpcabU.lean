/- Units, worked out once: the maker of the closure, and the closure. -/
import Derived.Test.YtjnggbpifclpcabT
namespace Go.Proofs.Ytjnggbpifclpcab
open Go.ChangeShapes Go.WideShapes Go.ChangeAt Go.RowKit Go.Fl Ieee
/-- A number is stored where some value lies. -/
theorem run_store_c {P : Program} (w : World) (a : Addr) (m : Mode) (k : FloatKind) (x y : Nat) (h : (w.cell? a).isSome = true) (hf : w.frozen? a = false) : (store a (.complex k x y) m).run P w = .ok () (w.setCell a (.complex k x y)) := by
  obtain ⟨u, hu⟩ := Option.isSome_iff_exists.1 h
  rw [run_store_complex]
  simp [stored, hu, hf]
attribute [local go_sem] run_store_float run_store_c call20 call19 run_neg fold_eq fold_ne fold_lt fold_gt abs_eq

/-- What the closure that tells units holds: N points in a row, whose whole turn has S of them. -/
def Units (w : World) (c : Array Value) (N S : Nat) (f : Nat → Nat × Nat) : Prop :=
  ∃ bp bm g, c = #[.pointer (some ⟨bp, 0, none⟩), .pointer (some ⟨bm, 0, none⟩)] ∧ w.cell? ⟨bp, 0, none⟩ = some (.slice (some ⟨g, 0, none⟩) N N) ∧ w.cell? ⟨bm, 0, none⟩ = some (.int .i64 S) ∧ RD w g 0 N f
theorem Units.up {w w' : World} {c : Array Value} {N S : Nat} {f : Nat → Nat × Nat} (h : Units w c N S f) (hu : Up w w') : Units w' c N S f := by
  obtain ⟨bp, bm, g, rfl, h1, h2, h3⟩ := h
  exact ⟨bp, bm, g, rfl, cell_up h1 hu, cell_up h2 hu, h3.up hu⟩
theorem eg57 (args : Array Value) (w : World) : (callFunc 57 args).run Try.prog w = .ok (.enter 57 args) w := enters Try.func57 (by kernel_rfl) (by kernel_rfl) _ _
theorem i64_id {x : Int} (h : -9223372036854775808 ≤ x ∧ x ≤ 9223372036854775807) : IntKind.i64.wrap x = x := by rw [IntKind.wrap_i64]; omega
theorem t57 {c : Array Value} {N S : Nat} {f : Nat → Nat × Nat} {w : World} (h : Units w c N S f) (j n q i : Nat) (hn : 0 < n) (hq : S / n = q) (hi : j * q = i) (hN : i < N) (hb : N < 4611686018427387904) (hS : S < 4611686018427387904) :
    Calls Try.prog 57 (#[.int .i64 j, .int .i64 n] ++ c) w (DR w (ab (f i).1) (ab (f i).2)) := by
  obtain ⟨bp, bm, g, rfl, h1, h2, h3⟩ := h
  obtain ⟨x, y, hx, hc⟩ : ∃ x y, f i = (x, y) ∧ w.cell? ⟨g, i, none⟩ = some (.complex .f64 x y) := ⟨(f i).1, (f i).2, rfl, by have := h3 i hN; rw [Nat.zero_add] at this; exact this⟩
  rw [hx]
  have e1 : (S : Int).tdiv (n : Int) = q := by rw [Int.tdiv_eq_ediv_of_nonneg (by omega), ← hq]; rfl
  have e2 : (j : Int) * (q : Int) = i := by rw [← hi]; exact (Int.natCast_mul _ _).symm
  have hqS : q ≤ S := by rw [← hq]; exact Nat.div_le_self _ _
  clear hx h3 hi
  have hn2 : ¬ n = 0 := by omega
  have wq : IntKind.i64.wrap (q : Int) = q := i64_id (by omega)
  have wi : IntKind.i64.wrap (i : Int) = i := i64_id (by omega)
  have hi1 : (i : Int) < (N : Int) := by omega
  have hn0 : ((n : Int) == 0) = false := by rw [beq_eq_false_iff_ne]; omega
  have hn1 : ¬ (n : Int) = 0 := by omega
  have hq0 : (0 : Int) ≤ (q : Int) := by omega
  have hi0 : (0 : Int) ≤ (i : Int) := by omega
  show Calls Try.prog 57 #[.int .i64 j, .int .i64 n, .pointer (some ⟨bp, 0, none⟩), .pointer (some ⟨bm, 0, none⟩)] w _
  go_enter Try.func57, Try.ntmps57
  go_wp2_with fail
  go_region_held3 (fun w' => w'.cell? ⟨bp, 0, none⟩ = some (.slice (some ⟨g, 0, none⟩) N N) ∧ w'.cell? ⟨bm, 0, none⟩ = some (.int .i64 S) ∧ w'.cell? ⟨g, i, none⟩ = some (.complex .f64 x y)) (go_keep) (fail)
  all_goals (try go_wp2)
  all_goals (go_ret; exact ⟨_, _, 1, rfl, rfl, rfl, rfl⟩)

/-- The point at j nths, there or back. -/
def unitF (way : Int) (S j : Nat) : Option Nat × Option Nat := (unitC (way * j) S, unitS (way * j) S)
def wayOf (b : Bool) : Int := if b then 1 else -1
/-- What the maker of units leaves. -/
def UR (w : World) (b : Bool) (N S : Nat) (e : Ending) (w' : World) : Prop :=
  ∃ bp bm q f, e = .returned (.func (.func 57) #[] #[.pointer (some ⟨bp, 0, none⟩), .pointer (some ⟨bm, 0, none⟩)]) ∧ Hid (w'.cell? ⟨bp, 0, none⟩ = some (.slice (some ⟨q, 0, none⟩) N N) ∧ w'.cell? ⟨bm, 0, none⟩ = some (.int .i64 S) ∧ RD w' q 0 N f) ∧
    Hid (w.heap.size ≤ bp ∧ w.heap.size ≤ bm ∧ w.heap.size ≤ q ∧ bp < w'.heap.size ∧ bm < w'.heap.size ∧ q < w'.heap.size) ∧ Hid (Up w w') ∧ Hid (∀ j, j < N → ab2 (f j) = unitF (wayOf b) S j)
theorem Fill.new' {w w' : World} {n g : Nat} (F : Nat → Option Nat × Option Nat) (hg : w.heap.size = g) (h : w'.ownsRow g 26 1 (.slice (some ⟨w.heap.size, 0, none⟩) n n) n (madeCells (Value.complex .f64 0 0).cells (n * 1)).toList) (hgr : w.grownBy w' none) : Fill w w' g n F 0 := by
  subst hg; exact Fill.new F h hgr
theorem kept_up {w w1 : World} {b1 b2 g k : Nat} {u v : Value} (h : w.cell? ⟨b1, 0, none⟩ = some u ∧ w.cell? ⟨b2, 0, none⟩ = some v ∧ (w.cell? ⟨g, k, none⟩).isSome = true ∧ w.frozen? ⟨g, k, none⟩ = false) (hu : Up w w1) :
    w1.cell? ⟨b1, 0, none⟩ = some u ∧ w1.cell? ⟨b2, 0, none⟩ = some v ∧ (w1.cell? ⟨g, k, none⟩).isSome = true ∧ w1.frozen? ⟨g, k, none⟩ = false := by
  obtain ⟨h1, h2, h3, h4⟩ := h
  obtain ⟨x, hx⟩ := Option.isSome_iff_exists.1 h3
  refine ⟨cell_up h1 hu, cell_up h2 hu, by rw [cell_up hx hu]; rfl, ?_⟩
  have e : w1.heap[g]? = w.heap[g]? := hu.block g (World.block_lt_of_cell? w _ hx)
  simp only [World.frozen?, e] at h4 ⊢
  exact h4
theorem kept_set {w : World} {b1 b2 g k : Nat} {u v x : Value} (n1 : g ≠ b1) (n2 : g ≠ b2) (h : w.cell? ⟨b1, 0, none⟩ = some u ∧ w.cell? ⟨b2, 0, none⟩ = some v ∧ (w.cell? ⟨g, k, none⟩).isSome = true ∧ w.frozen? ⟨g, k, none⟩ = false) :
    (w.setCell ⟨g, k, none⟩ x).cell? ⟨b1, 0, none⟩ = some u ∧ (w.setCell ⟨g, k, none⟩ x).cell? ⟨b2, 0, none⟩ = some v ∧ ((w.setCell ⟨g, k, none⟩ x).cell? ⟨g, k, none⟩).isSome = true ∧ (w.setCell ⟨g, k, none⟩ x).frozen? ⟨g, k, none⟩ = false := by
  obtain ⟨h1, h2, h3, h4⟩ := h
  refine ⟨by rw [World.cell?_setCell_far _ _ _ _ n1]; exact h1, by rw [World.cell?_setCell_far _ _ _ _ n2]; exact h2, ?_, by simpa using h4⟩
  rw [World.cell?_setCell_same' _ _ _ h3]; rfl
theorem units_done {w wr : World} {b : Bool} {o : Obj} {N S g bp bm : Nat} (hF : Fill (w.alloc o) wr g N (unitF (wayOf b) S) N) (hg : w.heap.size ≤ g) (hp : w.heap.size ≤ bp) (hm : w.heap.size ≤ bm) (h1 : wr.cell? ⟨bp, 0, none⟩ = some (.slice (some ⟨g, 0, none⟩) N N)) (h2 : wr.cell? ⟨bm, 0, none⟩ = some (.int .i64 S)) : UR w b N S (.returned (.func (.func 57) #[] #[.pointer (some ⟨bp, 0, none⟩), .pointer (some ⟨bm, 0, none⟩)])) wr := by
  obtain ⟨⟨d, rfl, r2, r3⟩, hu⟩ := hF
  refine ⟨bp, bm, g, fun j => d[j]!, rfl, ⟨h1, h2, fun j hj => ?_⟩, ⟨hp, hm, hg, World.block_lt_of_cell? wr _ h1, World.block_lt_of_cell? wr _ h2, (World.ownsRow.lt r2 _ rfl).2⟩, (Up.alloc _ _).trans hu, r3⟩
  rw [Nat.zero_add]; exact r2.cell hj
set_option maxHeartbeats 1000000 in
theorem t49 (b : Bool) (N S : Nat) (w : World) (hN : N ≤ 100000) (hS : S ≤ 100000) : Calls Try.prog 49 #[.int .i64 N, .int .i64 S, .bool b] w (UR w b N S) := by
  obtain ⟨i0, hi, hz0, hz1, hz2⟩ := info_parts info26
  cases b
  · go_enter Try.func49, Try.ntmps49
    go_wp2_with (first
      | (refine wpList_make_full _ rfl _ _ 25 rfl (w.heap.size + 1) 26 i0 (.complex .f64 0 0) 1 Try.underlying25 hi hz0 hz1 .i64 .i64 _ _ N rfl rfl rfl rfl (by rw [hz2]; omega) (by unfold maxLen; omega) (by simp) ?_; intro w1 hown hgr))
    have HF : Hid (Fill (w.alloc (.cells #[.int .i64 S] 3)) w1 (w.heap.size + 1) N (unitF (-1) S) 0) := Fill.new' _ (by simp) hown hgr
    clear hown hgr
    have lb : w.heap.size + 1 < w1.heap.size := by
      obtain ⟨d, _, h2, _⟩ := HF.out.row
      exact (World.ownsRow.lt h2 _ rfl).2
    have cb : w1.cell? ⟨w.heap.size, 0, none⟩ = some (.int .i64 S) := cell_up (box_cell w _ _ 0) HF.out.below
    have bb := box_cell w1 (.slice (some ⟨w.heap.size + 1, 0, none⟩) N N) 25 0
    have ba := cell_up cb (Up.alloc w1 (.cells #[.slice (some ⟨w.heap.size + 1, 0, none⟩) N N] 25))
    have bF : Hid (Fill (w.alloc (.cells #[.int .i64 S] 3)) (w1.alloc (.cells #[.slice (some ⟨w.heap.size + 1, 0, none⟩) N N] 25)) (w.heap.size + 1) N (unitF (-1) S) 0) := HF.out.up (Up.alloc _ _)
    clear HF cb
    generalize w1.heap.size = bp at *
    go_loopw [9, 15] (fun _ vi wr => ∃ k : Nat, k ≤ N ∧ vi = .int .i64 k ∧ Hid (Fill (w.alloc (.cells #[.int .i64 S] 3)) wr (w.heap.size + 1) N (unitF (-1) S) k) ∧ wr.cell? ⟨bp, 0, none⟩ = some (.slice (some ⟨w.heap.size + 1, 0, none⟩) N N) ∧ wr.cell? ⟨w.heap.size, 0, none⟩ = some (.int .i64 S)) (fun _ vi _ => N - (intOf vi).toNat)
    case atStart => exact ⟨0, by omega, rfl, bF, bb, ba⟩
    case round =>
      clear bF bb ba
      obtain ⟨k, hk, rfl, HF, h1, h2⟩ := hrel
      by_cases hlt : k < N
      · obtain ⟨⟨x0, y0, hc⟩, hf⟩ := HF.out.cell hlt
        have hs : (wr.cell? ⟨w.heap.size + 1, k, none⟩).isSome = true := by rw [hc]; rfl
        clear hc
        have hkz : (k : Int) < (N : Int) := by omega
        have hk0 : (0 : Int) ≤ (k : Int) := by omega
        have wk : IntKind.i64.wrap (-(k : Int)) = -k := i64_id (by omega)
        go_wp2_with fail
        go_region_held3 (fun w' => w'.cell? ⟨bp, 0, none⟩ = some (.slice (some ⟨w.heap.size + 1, 0, none⟩) N N) ∧ w'.cell? ⟨w.heap.size, 0, none⟩ = some (.int .i64 S) ∧ (w'.cell? ⟨w.heap.size + 1, k, none⟩).isSome = true ∧ w'.frozen? ⟨w.heap.size + 1, k, none⟩ = false)
          (first | (exact kept_up ‹_› hu) | (exact kept_set (by omega) (by omega) ‹_›) | go_keep)
          ((go_at_call 56; refine (t56 _ _ _ (by omega) (by omega)).mono ?_; rintro e w2 ⟨c, s, rfl, hc, hs, hu⟩))
        have HF2 : Hid (Fill (w.alloc (.cells #[.int .i64 S] 3)) w2 (w.heap.size + 1) N (unitF (-1) S) k) := HF.out.up (Up.trans (Up.drewN _ 1) hu)
        obtain ⟨g1, g2, _, _⟩ := ‹_ ∧ _ ∧ _ ∧ _›
        clear HF h1 h2
        go_wp2
        go_roundw
        case rel =>
          refine ⟨k + 1, by omega, by go_num, HF2.out.stored hlt ?_ ?_, g1, g2⟩ <;> (unfold unitF; rw [show (-1 : Int) * (k : Int) = -(k : Int) by omega]; first | exact hc.out | exact hs.out)
        case measure => simp [intOf]; omega
      · obtain rfl : N = k := by omega
        go_wp2
        go_ret
        exact units_done HF.out (by omega) (by omega) (by omega) h1 h2
  · go_enter Try.func49, Try.ntmps49
    go_wp2_with (first
      | (refine wpList_make_full _ rfl _ _ 25 rfl (w.heap.size + 1) 26 i0 (.complex .f64 0 0) 1 Try.underlying25 hi hz0 hz1 .i64 .i64 _ _ N rfl rfl rfl rfl (by rw [hz2]; omega) (by unfold maxLen; omega) (by simp) ?_; intro w1 hown hgr))
    have HF : Hid (Fill (w.alloc (.cells #[.int .i64 S] 3)) w1 (w.heap.size + 1) N (unitF (1) S) 0) := Fill.new' _ (by simp) hown hgr
    clear hown hgr
    have lb : w.heap.size + 1 < w1.heap.size := by
      obtain ⟨d, _, h2, _⟩ := HF.out.row
      exact (World.ownsRow.lt h2 _ rfl).2
    have cb : w1.cell? ⟨w.heap.size, 0, none⟩ = some (.int .i64 S) := cell_up (box_cell w _ _ 0) HF.out.below
    have bb := box_cell w1 (.slice (some ⟨w.heap.size + 1, 0, none⟩) N N) 25 0
    have ba := cell_up cb (Up.alloc w1 (.cells #[.slice (some ⟨w.heap.size + 1, 0, none⟩) N N] 25))
    have bF : Hid (Fill (w.alloc (.cells #[.int .i64 S] 3)) (w1.alloc (.cells #[.slice (some ⟨w.heap.size + 1, 0, none⟩) N N] 25)) (w.heap.size + 1) N (unitF (1) S) 0) := HF.out.up (Up.alloc _ _)
    clear HF cb
    generalize w1.heap.size = bp at *
    go_loopw [9, 15] (fun _ vi wr => ∃ k : Nat, k ≤ N ∧ vi = .int .i64 k ∧ Hid (Fill (w.alloc (.cells #[.int .i64 S] 3)) wr (w.heap.size + 1) N (unitF (1) S) k) ∧ wr.cell? ⟨bp, 0, none⟩ = some (.slice (some ⟨w.heap.size + 1, 0, none⟩) N N) ∧ wr.cell? ⟨w.heap.size, 0, none⟩ = some (.int .i64 S)) (fun _ vi _ => N - (intOf vi).toNat)
    case atStart => exact ⟨0, by omega, rfl, bF, bb, ba⟩
    case round =>
      clear bF bb ba
      obtain ⟨k, hk, rfl, HF, h1, h2⟩ := hrel
      by_cases hlt : k < N
      · obtain ⟨⟨x0, y0, hc⟩, hf⟩ := HF.out.cell hlt
        have hs : (wr.cell? ⟨w.heap.size + 1, k, none⟩).isSome = true := by rw [hc]; rfl
        clear hc
        have hkz : (k : Int) < (N : Int) := by omega
        have hk0 : (0 : Int) ≤ (k : Int) := by omega
        have wk : IntKind.i64.wrap (k : Int) = k := i64_id (by omega)
        go_wp2_with fail
        go_region_held3 (fun w' => w'.cell? ⟨bp, 0, none⟩ = some (.slice (some ⟨w.heap.size + 1, 0, none⟩) N N) ∧ w'.cell? ⟨w.heap.size, 0, none⟩ = some (.int .i64 S) ∧ (w'.cell? ⟨w.heap.size + 1, k, none⟩).isSome = true ∧ w'.frozen? ⟨w.heap.size + 1, k, none⟩ = false)
          (first | (exact kept_up ‹_› hu) | (exact kept_set (by omega) (by omega) ‹_›) | go_keep)
          ((go_at_call 56; refine (t56 _ _ _ (by omega) (by omega)).mono ?_; rintro e w2 ⟨c, s, rfl, hc, hs, hu⟩))
        have HF2 : Hid (Fill (w.alloc (.cells #[.int .i64 S] 3)) w2 (w.heap.size + 1) N (unitF (1) S) k) := HF.out.up (Up.trans (Up.drewN _ 1) hu)
        obtain ⟨g1, g2, _, _⟩ := ‹_ ∧ _ ∧ _ ∧ _›
        clear HF h1 h2
        go_wp2
        go_roundw
        case rel =>
          refine ⟨k + 1, by omega, by go_num, HF2.out.stored hlt ?_ ?_, g1, g2⟩ <;> (unfold unitF; rw [show (1 : Int) * (k : Int) = (k : Int) by omega]; first | exact hc.out | exact hs.out)
        case measure => simp [intOf]; omega
      · obtain rfl : N = k := by omega
        go_wp2
        go_ret
        exact units_done HF.out (by omega) (by omega) (by omega) h1 h2
end Go.Proofs.Ytjnggbpifclpcab
