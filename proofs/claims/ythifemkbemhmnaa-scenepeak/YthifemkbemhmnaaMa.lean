/- Match. -/
import Derived.Test.YthifemkbemhmnaaS
import Derived.Test.YthifemkbemhmnaaX
namespace Go.Proofs.Ythifemkbemhmnaa
open Go.ChangeShapes Go.WideShapes Go.ChangeAt Go.RowKit Go.Fl Ieee
attribute [local go_sem] run_store_float run_store_complex call69 call32 run_neg fold_eq fold_ne fold_lt fold_gt abs_eq

theorem RD.drop {w : World} {blk off n : Nat} {f : Nat → Nat × Nat} (h : RD w blk off n f) (d : Nat) : RD w blk (off + d) (n - d) (fun i => f (i + d)) := fun j hj => by
  have := h (j + d) (by omega)
  rw [show off + d + j = off + (j + d) by omega]; exact this
set_option maxRecDepth 20000 in
theorem t52 (p q : Option Addr) (n c m d : Nat) (w : World) (hn : n < 4611686018427387904) (hm : m < 4611686018427387904) : Calls Try.prog 52 #[.slice p n c, .slice q m d] w fun e w' => e = .returned (.bool (decide (16384 < n) || decide (16384 < m))) ∧ w' = w := by
  by_cases h1 : 16384 < n
  · go_enter Try.func52, Try.ntmps52
    go_wp2
    go_ret
    simp
  · by_cases h2 : 16384 < m
    · go_enter Try.func52, Try.ntmps52
      go_wp2
      go_ret
      simp [h2]; omega
    · go_enter Try.func52, Try.ntmps52
      go_wp2
      go_ret
      simp [h1, h2]; omega
set_option maxRecDepth 20000 in
theorem t52k (p q : Option Addr) {n c m d : Nat} {b : Bool} (w : World) (hn : n < 4611686018427387904) (hm : m < 4611686018427387904) (h : (decide (16384 < n) || decide (16384 < m)) = b) : Calls Try.prog 52 #[.slice p n c, .slice q m d] w fun e w' => e = .returned (.bool b) ∧ w' = w := by
  rw [← h]; exact t52 p q n c m d w hn hm
set_option maxRecDepth 20000 in
theorem t29a (p q : Option Addr) (n c m d : Nat) (w : World) (hn : n < 4611686018427387904) (hm : m < 4611686018427387904) (h : 16384 < n ∨ 16384 < m) : Calls Try.prog 29 #[.slice p n c, .slice q m d] w fun e w' => e = .returned (.bool true) ∧ w' = w := by
  have e : Hid ((decide (16384 < n) || decide (16384 < m)) = true) := by show _ = _; simpa using h
  go_enter Try.func29, Try.ntmps29
  go_wp2_with (go_at_call 52; (with_reducible refine (t52k _ _ _ hn hm e.out).mono ?_); rintro e w' ⟨rfl, rfl⟩)
  go_ret
  exact ⟨rfl, rfl⟩
set_option maxRecDepth 20000 in
theorem t29b (p q : Option Addr) (n c m d : Nat) (w : World) (b : Bool) (hn : n ≤ 16384) (hm : m ≤ 16384) (h : decide (16777216 < n * m) = b) : Calls Try.prog 29 #[.slice p n c, .slice q m d] w fun e w' => e = .returned (.bool b) ∧ w' = w := by
  have e : Hid ((decide (16384 < n) || decide (16384 < m)) = false) := by show _ = _; simp; omega
  have hb : n * m ≤ 16384 * 16384 := Nat.mul_le_mul hn hm
  obtain ⟨k, hk⟩ : ∃ k, n * m = k := ⟨_, rfl⟩
  have hz : (n : Int) * (m : Int) = k := by rw [← hk, Int.natCast_mul]
  have hz2 : decide ((16777216 : Int) < (k : Int)) = b := by
    rw [← h, hk]; rw [decide_eq_decide]; omega
  rw [hk] at hb
  clear h hk
  go_enter Try.func29, Try.ntmps29
  go_wp2_with (go_at_call 52; (with_reducible refine (t52k _ _ _ (by omega) (by omega) e.out).mono ?_); rintro e w' ⟨rfl, rfl⟩)
  go_ret
  exact ⟨rfl, rfl⟩
/-- What Match holds at a place: l has n samples, the pulse m. -/
def heldF (f : Nat → Nat × Nat) (n : Nat) (g : Nat → Nat × Nat) (m d : Nat) : Option Nat × Option Nat :=
  (sumN (dotR (fun i => f (i + d)) g) (min (n - d) m), sumN (dotI (fun i => f (i + d)) g) (min (n - d) m))
def HL (w : World) (L : List (Option Nat × Option Nat)) (e : Ending) (w' : World) : Prop := ∃ v d, e = .returned v ∧ Hid (CRow w.heap.size w' v d) ∧ Hid (Up w w') ∧ Hid (d.map ab2 = L)
set_option maxRecDepth 20000 in
theorem held_dot {lg lo n pg po m pc d cc : Nat} {f g : Nat → Nat × Nat} {w : World} (h1 : RD w lg lo n f) (h2 : RD w pg po m g) (hd : d < n) (hn : n ≤ 1000000) (hm : m ≤ 1000000) :
    Calls Try.prog 9 #[.slice (some ⟨lg, lo + d, none⟩) (n - d) cc, .slice (some ⟨pg, po, none⟩) m pc] w (CR w (heldF f n g m d).1 (heldF f n g m d).2) :=
  t9 lg (lo + d) (n - d) cc pg po m pc (min (n - d) m) _ g w (by omega) (h1.drop d) h2 (by omega)
set_option maxRecDepth 20000 in
set_option maxHeartbeats 2000000 in
theorem t30 (lg lo n c pg po m pc k : Nat) (f g : Nat → Nat × Nat) (w : World) (h1 : RD w lg lo n f) (h2 : RD w pg po m g) (hk : k ≤ n) (hc : n ≤ c) (hn : n ≤ 1000000) (hm : m ≤ 1000000) :
    Calls Try.prog 30 #[.slice (some ⟨lg, lo, none⟩) n c, .slice (some ⟨pg, po, none⟩) m pc, .int .i64 k] w (HL w ((List.range k).map (heldF f n g m))) := by
  obtain ⟨i0, hi, hz0, hz1, hz2⟩ := info_parts info41
  have H1 : Hid (RD w lg lo n f) := h1
  have H2 : Hid (RD w pg po m g) := h2
  clear h1 h2
  go_enter Try.func30, Try.ntmps30
  go_wp2_with (refine wpList_make_full _ rfl _ _ 27 rfl w.heap.size 28 i0 (.complex .f64 0 0) 1 Try.underlying27 hi hz0 hz1 .i64 .i64 _ _ k rfl rfl rfl rfl (by rw [hz2]; omega) (by unfold maxLen; omega) (Nat.le_refl _) ?_; intro w1 hown hgr; have HF : Hid (Fill w w1 w.heap.size k (heldF f n g m) 0) := Fill.new _ hown hgr; clear hown hgr)
  go_loopw [8, 12] (fun _ vi wr => ∃ d : Nat, d ≤ k ∧ vi = .int .i64 d ∧ Hid (Fill w wr w.heap.size k (heldF f n g m) d)) (fun _ vi _ => k - (intOf vi).toNat)
  case atStart => exact ⟨0, by omega, rfl, HF⟩
  case round =>
    clear HF
    obtain ⟨d, hd, rfl, HF⟩ := hrel
    by_cases hlt : d < k
    · have z1 : (d : Int) < (k : Int) := by omega
      have z2 : (d : Int) < (n : Int) := by omega
      have z3 : ¬ c = d := by omega
      have z4 : ¬ c - d = 0 := by omega
      have R1 : Hid (RD wr lg lo n f) := H1.out.up HF.out.below
      have R2 : Hid (RD wr pg po m g) := H2.out.up HF.out.below
      go_wp2_with (go_at_call 9; (with_reducible refine (held_dot R1.out R2.out (by omega) hn hm).mono ?_); rintro e w2 ⟨r1, s1, rfl, hr1, hs1, hu1⟩
                   have HF2 : Hid (Fill w w2 w.heap.size k (heldF f n g m) d) := HF.out.up hu1
                   obtain ⟨⟨x0, y0, hcell⟩, hfr⟩ := HF2.out.cell hlt
                   have HF3 : Hid (Fill w (w2.setCell ⟨w.heap.size, d, none⟩ (.complex .f64 r1 s1)) w.heap.size k (heldF f n g m) (d + 1)) := HF2.out.stored hlt hr1.out hs1.out
                   clear HF hu1)
      go_roundw
      case rel => exact ⟨d + 1, by omega, by go_num, HF3⟩
      case measure => simp [intOf]; omega
    · obtain rfl : k = d := by omega
      go_wp2
      go_ret
      obtain ⟨dd, g1, g2⟩ := HF.out.done
      exact ⟨_, dd, rfl, g1, HF.out.below, g2⟩
set_option maxRecDepth 20000 in
theorem t30e (lg : Option Addr) (n c m pc : Nat) (pg : Option Addr) (w : World) : Calls Try.prog 30 #[.slice lg n c, .slice pg m pc, .int .i64 0] w (HL w []) := by
  obtain ⟨i0, hi, hz0, hz1, hz2⟩ := info_parts info41
  go_enter Try.func30, Try.ntmps30
  go_wp2_with (refine wpList_make_full _ rfl _ _ 27 rfl w.heap.size 28 i0 (.complex .f64 0 0) 1 Try.underlying27 hi hz0 hz1 .i64 .i64 _ _ 0 rfl rfl rfl rfl (by rw [hz2]; omega) (by unfold maxLen; omega) (Nat.le_refl _) ?_; intro w1 hown hgr; have HF : Hid (Fill w w1 w.heap.size 0 (fun _ => (none, none)) 0) := Fill.new _ hown hgr; clear hown hgr)
  go_loopw [8, 12] (fun _ vi wr => vi = .int .i64 0 ∧ Hid (Fill w wr w.heap.size 0 (fun _ => (none, none)) 0)) (fun _ _ _ => 0)
  case atStart => exact ⟨rfl, HF⟩
  case round =>
    clear HF
    obtain ⟨rfl, HF⟩ := hrel
    go_wp2
    go_ret
    obtain ⟨dd, g1, g2⟩ := HF.out.done
    exact ⟨_, dd, rfl, g1, HF.out.below, g2⟩
theorem HL.pl {w w' : World} {L : List (Option Nat × Option Nat)} {v : Value} (h : HL w L (.returned v) w') : PL w L 0 (.returned (.tuple #[v, .int .i64 0])) w' := by
  obtain ⟨v', d, e, h1, h2, h3⟩ := h
  cases e
  exact ⟨_, d, rfl, h1, h2, h3⟩
set_option maxRecDepth 20000 in
theorem t11arg (lg pg : Option Addr) (n c pc : Nat) (w : World) : Calls Try.prog 11 #[.slice lg n c, .slice pg 0 pc] w (PL w [] 2) := by
  go_enter Try.func11, Try.ntmps11
  go_wp2
  go_ret2
  exact PL.none _ _
set_option maxRecDepth 20000 in
theorem t11long (lg pg : Option Addr) (n c m pc : Nat) (w : World) (hm : 1 ≤ m) (hn : n < 4611686018427387904) (hm2 : m < 4611686018427387904) (h : 16384 < n ∨ 16384 < m) : Calls Try.prog 11 #[.slice lg n c, .slice pg m pc] w (PL w [] 3) := by
  have H : Hid (16384 < n ∨ 16384 < m) := h
  clear h
  go_enter Try.func11, Try.ntmps11
  go_wp2_with (go_at_call 29; (with_reducible refine (t29a _ _ _ _ _ _ _ hn hm2 H.out).mono ?_); rintro e w' ⟨rfl, rfl⟩)
  go_ret2
  exact PL.none _ _
set_option maxRecDepth 20000 in
theorem t11 (lg lo n c pg po m pc : Nat) (f g : Nat → Nat × Nat) (w : World) (h1 : RD w lg lo n f) (h2 : RD w pg po m g) (hc : n ≤ c) (hm : 1 ≤ m) (hn : n ≤ 16384) (hm2 : m ≤ 16384) (hw : n * m ≤ 16777216) :
    Calls Try.prog 11 #[.slice (some ⟨lg, lo, none⟩) n c, .slice (some ⟨pg, po, none⟩) m pc] w (PL w ((List.range n).map (heldF f n g m)) 0) := by
  have H1 : Hid (RD w lg lo n f) := h1
  have H2 : Hid (RD w pg po m g) := h2
  have H3 : Hid (decide (16777216 < n * m) = false) := by show _ = _; simpa using hw
  clear h1 h2 hw
  go_enter Try.func11, Try.ntmps11
  go_wp2_with (first
    | (go_at_call 29; (with_reducible refine (t29b _ _ _ _ _ _ _ _ hn hm2 H3.out).mono ?_); rintro e w' ⟨rfl, rfl⟩)
    | (go_at_call 30; (with_reducible refine (t30 _ _ _ _ _ _ _ _ _ _ _ _ H1.out H2.out (Nat.le_refl _) hc (by omega) (by omega)).mono ?_); rintro e w2 ⟨v, d, rfl, h3, h4, h5⟩))
  go_ret2
  exact ⟨_, d, rfl, h3, h4, h5⟩
set_option maxRecDepth 20000 in
theorem t11none (lg : Option Addr) (c m pc : Nat) (pg : Option Addr) (w : World) (hm : 1 ≤ m) (hm2 : m ≤ 16384) : Calls Try.prog 11 #[.slice lg 0 c, .slice pg m pc] w (PL w [] 0) := by
  have H3 : Hid (decide (16777216 < 0 * m) = false) := by show _ = _; simp
  go_enter Try.func11, Try.ntmps11
  go_wp2_with (first
    | (go_at_call 29; (with_reducible refine (t29b _ _ _ _ _ _ _ _ (by omega) hm2 H3.out).mono ?_); rintro e w' ⟨rfl, rfl⟩)
    | (go_at_call 30; (with_reducible refine (t30e _ _ _ _ _ _ _).mono ?_); rintro e w2 ⟨v, d, rfl, h3, h4, h5⟩))
  go_ret2
  exact ⟨_, d, rfl, h3, h4, h5⟩
end Go.Proofs.Ythifemkbemhmnaa
