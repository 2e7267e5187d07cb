/- The walk of NoisePlays. -/
import Derived.Test.YtcocliilapeelaaZa
namespace Go.Proofs.Ytcocliilapeelaa
open Go.ChangeShapes Go.WideShapes Go.ChangeAt Go.RowKit Go.Fl Ieee
attribute [local go_sem] run_store_float run_store_complex call38 call37 run_neg fold_eq fold_ne fold_lt fold_gt abs_eq

/-- Four sources: two of the program's, two of the reference's. -/
structure P4 (w W : World) (a b x y : Nat) (s r : Int) : Prop where
  up : Up w W
  sa : SC W a s
  sb : SC W b r
  sx : SC W x s
  sy : SC W y r
  ab : a ≠ b
  ax : a ≠ x
  ay : a ≠ y
  bx : b ≠ x
  bY : b ≠ y
  xy : x ≠ y
  la : w.heap.size ≤ a
  lb : w.heap.size ≤ b
  lx : w.heap.size ≤ x
  ly : w.heap.size ≤ y
theorem P4.grow {w W W' : World} {a b x y : Nat} {s r : Int} (h : P4 w W a b x y s r) (u : Up W W') : P4 w W' a b x y s r :=
  ⟨h.up.trans u, h.sa.up u, h.sb.up u, h.sx.up u, h.sy.up u, h.ab, h.ax, h.ay, h.bx, h.bY, h.xy, h.la, h.lb, h.lx, h.ly⟩
theorem P4.first {w W W' : World} {a b x y : Nat} {s r s' : Int} (h : P4 w W a b x y s r) (sa : SC W' a s') (sx : SC W' x s') (t : Two a x W W') : P4 w W' a b x y s' r :=
  ⟨t.up h.up h.la h.lx, sa, h.sb.two t (Ne.symm h.ab) h.bx, sx, h.sy.two t (Ne.symm h.ay) (Ne.symm h.xy), h.ab, h.ax, h.ay, h.bx, h.bY, h.xy, h.la, h.lb, h.lx, h.ly⟩
theorem P4.second {w W W' : World} {a b x y : Nat} {s r r' : Int} (h : P4 w W a b x y s r) (sb : SC W' b r') (sy : SC W' y r') (t : Two b y W W') : P4 w W' a b x y s r' :=
  ⟨t.up h.up h.lb h.ly, h.sa.two t h.ab h.ay, sb, h.sx.two t (Ne.symm h.bx) h.xy, sy, h.ab, h.ax, h.ay, h.bx, h.bY, h.xy, h.la, h.lb, h.lx, h.ly⟩
/-- What a step leaves of the four. -/
def PD (w : World) (a b x y : Nat) (e : Ending) (W : World) : Prop := ∃ s r, e = .returned (.bool true) ∧ Hid (P4 w W a b x y s r)
theorem stepA {w W : World} {a b x y : Nat} {s r : Int} (h : P4 w W a b x y s r) (K N S : Int) (X : Nat) : Calls Try.prog 10 #[.pointer (some ⟨a, 0, none⟩), .pointer (some ⟨x, 0, none⟩), .agg #[.int .i64 K, .int .i64 N, .int .u64 S, .float .f64 X]] W (PD w a b x y) :=
  (t10 h.sa h.sx h.ax K N S X).mono fun _ _ ⟨_, e, s1, s2, t⟩ => ⟨_, _, e, h.first s1.out s2.out t.out⟩
theorem stepB {w W : World} {a b x y : Nat} {s r : Int} (h : P4 w W a b x y s r) (K N S : Int) (X : Nat) : Calls Try.prog 10 #[.pointer (some ⟨b, 0, none⟩), .pointer (some ⟨y, 0, none⟩), .agg #[.int .i64 K, .int .i64 N, .int .u64 S, .float .f64 X]] W (PD w a b x y) :=
  (t10 h.sb h.sy h.bY K N S X).mono fun _ _ ⟨_, e, s1, s2, t⟩ => ⟨_, _, e, h.second s1.out s2.out t.out⟩
theorem stepN {w W : World} {a b x y : Nat} {s r : Int} (h : P4 w W a b x y s r) (K N S : Int) (X : Nat) : Calls Try.prog 10 #[.pointer none, .pointer none, .agg #[.int .i64 K, .int .i64 N, .int .u64 S, .float .f64 X]] W (PD w a b x y) :=
  (t10n W K N S X).mono fun _ _ ⟨e, u⟩ => ⟨_, _, e, h.grow u.out⟩
theorem newP (s : Int) {w W : World} (h : Up w W) : Calls Try.prog 7 #[.int .u64 s] W fun e W' => ∃ b, e = .returned (.pointer (some ⟨b, 0, none⟩)) ∧ Hid (SC W' b s) ∧ Hid (Up W W') ∧ Hid (w.heap.size ≤ b) ∧ Hid (W.heap.size ≤ b) :=
  (t7 s W).mono fun _ _ ⟨e, s, u⟩ => ⟨_, e, s, u, h.size, Nat.le_refl _⟩
theorem newR (s : Int) {w W : World} (h : Up w W) : Calls Try.prog 8 #[.int .u64 s] W fun e W' => ∃ b, e = .returned (.pointer (some ⟨b, 0, none⟩)) ∧ Hid (SC W' b s) ∧ Hid (Up W W') ∧ Hid (w.heap.size ≤ b) ∧ Hid (W.heap.size ≤ b) :=
  (t8 s W).mono fun _ _ ⟨e, s, u⟩ => ⟨_, e, s, u, h.size, Nat.le_refl _⟩
theorem cells4 (w : World) (K N S : Int) (X : Nat) : (w.alloc (.cells #[.int .i64 K, .int .i64 N, .int .u64 S, .float .f64 X] 30)).cell? ⟨w.heap.size, 0, none⟩ = some (.int .i64 K) ∧ (w.alloc (.cells #[.int .i64 K, .int .i64 N, .int .u64 S, .float .f64 X] 30)).cell? ⟨w.heap.size, 1, none⟩ = some (.int .i64 N) ∧ (w.alloc (.cells #[.int .i64 K, .int .i64 N, .int .u64 S, .float .f64 X] 30)).cell? ⟨w.heap.size, 2, none⟩ = some (.int .u64 S) ∧ (w.alloc (.cells #[.int .i64 K, .int .i64 N, .int .u64 S, .float .f64 X] 30)).cell? ⟨w.heap.size, 3, none⟩ = some (.float .f64 X) := (SN.new w K N S X).cells
set_option maxHeartbeats 4000000 in
set_option maxRecDepth 100000 in
theorem t3 (sd od : Int) (p : Option Addr) (blk off n cap : Nat) (K N S : Nat → Int) (X : Nat → Nat) (w : World) (hp : 0 < n → p = some ⟨blk, off, none⟩)
    (hc : ∀ i, i < n → w.cell? ⟨blk, off + i * 4, none⟩ = some (.int .i64 (K i)) ∧ w.cell? ⟨blk, off + i * 4 + 1, none⟩ = some (.int .i64 (N i)) ∧ w.cell? ⟨blk, off + i * 4 + 2, none⟩ = some (.int .u64 (S i)) ∧ w.cell? ⟨blk, off + i * 4 + 3, none⟩ = some (.float .f64 (X i)))
    (hn : n ≤ 9223372036854775807) : Calls Try.prog 3 #[.int .u64 sd, .int .u64 od, .slice p n cap] w (TU w) := by
  have HC : Hid (∀ i, i < n → w.cell? ⟨blk, off + i * 4, none⟩ = some (.int .i64 (K i)) ∧ w.cell? ⟨blk, off + i * 4 + 1, none⟩ = some (.int .i64 (N i)) ∧ w.cell? ⟨blk, off + i * 4 + 2, none⟩ = some (.int .u64 (S i)) ∧ w.cell? ⟨blk, off + i * 4 + 3, none⟩ = some (.float .f64 (X i))) := hc
  have HP : Hid (0 < n → p = some ⟨blk, off, none⟩) := hp
  have U0 : Hid (Up w w) := Up.refl w
  clear hc hp
  go_enter Try.func3, Try.ntmps3
  go_wp2_with (first
    | (go_at_call 7; (with_reducible refine (newP sd U0.out).mono ?_); rintro e w1 ⟨a, rfl, s1, v1, l1, k1⟩; have u1 : Hid (Up w w1) := v1.out; clear U0 v1)
    | (go_at_call 7; (with_reducible refine (newP od u1.out).mono ?_); rintro e w2 ⟨b, rfl, s2, v2, l2, k2⟩; have u2 : Hid (Up w w2) := u1.out.trans v2.out; have n1 : Hid (a < b) := Nat.lt_of_lt_of_le s1.out.lt k2.out; have q1 : Hid (SC w2 a sd) := s1.out.up v2.out; clear u1 v2 s1)
    | (go_at_call 8; (with_reducible refine (newR sd u2.out).mono ?_); rintro e w3 ⟨x, rfl, s3, v3, l3, k3⟩; have u3 : Hid (Up w w3) := u2.out.trans v3.out; have n2 : Hid (b < x) := Nat.lt_of_lt_of_le s2.out.lt k3.out; have r1 : Hid (SC w3 a sd) := q1.out.up v3.out; have r2 : Hid (SC w3 b od) := s2.out.up v3.out; clear u2 v3 s2 q1)
    | (go_at_call 8; (with_reducible refine (newR od u3.out).mono ?_); rintro e w4 ⟨y, rfl, s4, v4, l4, k4⟩; have n3 : Hid (x < y) := Nat.lt_of_lt_of_le s3.out.lt k4.out; have H4 : Hid (P4 w w4 a b x y sd od) := ⟨u3.out.trans v4.out, r1.out.up v4.out, r2.out.up v4.out, s3.out.up v4.out, s4.out, (by have := n1.out; omega), (by have := n1.out; have := n2.out; omega), (by have := n1.out; have := n2.out; have := n3.out; omega), (by have := n2.out; omega), (by have := n2.out; have := n3.out; omega), (by have := n3.out; omega), l1.out, l2.out, l3.out, l4.out⟩; clear u3 v4 s3 s4 r1 r2 l1 l2 l3 l4 k1 k2 k3 k4 n1 n2 n3))
  go_loopw [11, 12, 13, 14, 15, 32] (fun wh wk _ _ _ i wr => ∃ k h q : Nat, k ≤ n ∧ h ≤ k ∧ q ≤ 1048576 ∧ wh = .int .i64 h ∧ wk = .int .i64 q ∧ i = .int .i64 k ∧ ∃ s r, Hid (P4 w wr a b x y s r)) (fun _ _ _ _ _ i _ => n - (intOf i).toNat)
  case atStart => exact ⟨0, 0, 0, by omega, by omega, by omega, rfl, rfl, rfl, _, _, H4⟩
  case round =>
    clear H4
    obtain ⟨k, h, q, hk, hh, hq, rfl, rfl, rfl, s, r, HT⟩ := hrel
    by_cases hlt : k < n
    · obtain rfl := HP.out (by omega)
      obtain ⟨hc0, hc1, hc2, hc3⟩ := HC.out k hlt
      generalize K k = κ at hc0
      generalize N k = ν at hc1
      generalize S k = σ at hc2
      generalize X k = ξ at hc3
      replace hc0 := cell_up hc0 HT.out.up
      replace hc1 := cell_up hc1 HT.out.up
      replace hc2 := cell_up hc2 HT.out.up
      replace hc3 := cell_up hc3 HT.out.up
      have hkz : (k : Int) < (n : Int) := by omega
      by_cases h4 : κ = 4
      · subst h4
        obtain ⟨d0, d1, d2, d3⟩ := cells4 wr 4 ν σ ξ
        have H0 : Hid (P4 w (wr.alloc (.cells #[.int .i64 4, .int .i64 ν, .int .u64 σ, .float .f64 ξ] 30)) a b x y s r) := HT.out.grow (Up.alloc _ _)
        clear HT
        go_wp2_with (first
          | (go_at_call 9; (with_reducible refine (t9 _).mono ?_); rintro e w9 ⟨rfl, u9⟩)
          | (go_at_call 10; (with_reducible refine (stepA H0.out _ _ _ _).mono ?_); rintro e w5 ⟨s', r', rfl, H5⟩)
          | (go_at_call 10; (with_reducible refine (stepB H0.out _ _ _ _).mono ?_); rintro e w5 ⟨s', r', rfl, H5⟩)
          | (go_at_call 10; (with_reducible refine (stepN H0.out _ _ _ _).mono ?_); rintro e w5 ⟨s', r', rfl, H5⟩))
        all_goals first
          | (go_ret; exact ⟨rfl, H0.out.up.trans u9.out⟩)
          | (go_roundw
             case rel => first
               | exact ⟨k + 1, h, q, by omega, by omega, by omega, rfl, rfl, by go_num, _, _, H5⟩
               | exact ⟨k + 1, h, ((q : Int) + ν).toNat, by omega, by omega, by omega, rfl, by rw [Int.toNat_of_nonneg (by omega)], by go_num, _, _, H5⟩
             case measure => simp [intOf]; omega)
      · have e4 : (κ == 4) = false := by simpa using h4
        clear h4
        obtain ⟨d0, d1, d2, d3⟩ := cells4 wr κ ν σ ξ
        have H0 : Hid (P4 w (wr.alloc (.cells #[.int .i64 κ, .int .i64 ν, .int .u64 σ, .float .f64 ξ] 30)) a b x y s r) := HT.out.grow (Up.alloc _ _)
        clear HT
        go_wp2_with (first
          | (go_at_call 9; (with_reducible refine (t9 _).mono ?_); rintro e w9 ⟨rfl, u9⟩)
          | (go_at_call 10; (with_reducible refine (stepA H0.out _ _ _ _).mono ?_); rintro e w5 ⟨s', r', rfl, H5⟩)
          | (go_at_call 10; (with_reducible refine (stepB H0.out _ _ _ _).mono ?_); rintro e w5 ⟨s', r', rfl, H5⟩)
          | (go_at_call 10; (with_reducible refine (stepN H0.out _ _ _ _).mono ?_); rintro e w5 ⟨s', r', rfl, H5⟩))
        all_goals
          go_roundw
          case rel => first | exact ⟨k + 1, h, q, by omega, by omega, by omega, rfl, rfl, by go_num, _, _, H5⟩ | exact ⟨k + 1, h + 1, q, by omega, by omega, by omega, by go_num, rfl, by go_num, _, _, H5⟩
          case measure => simp [intOf]; omega
    · obtain rfl : n = k := by omega
      go_wp2_with (first
        | (go_at_call 11; (with_reducible refine (t11 HT.out.sa).mono ?_); rintro e w' ⟨rfl, hw⟩; subst w')
        | (go_at_call 12; (with_reducible refine (t12 HT.out.sx).mono ?_); rintro e w' ⟨rfl, hw⟩; subst w')
        | (go_at_call 11; (with_reducible refine (t11 HT.out.sb).mono ?_); rintro e w' ⟨rfl, hw⟩; subst w')
        | (go_at_call 12; (with_reducible refine (t12 HT.out.sy).mono ?_); rintro e w' ⟨rfl, hw⟩; subst w')
        | (go_at_call 9; (with_reducible refine (t9 _).mono ?_); rintro e w9 ⟨rfl, u9⟩))
      go_ret
      exact ⟨by simp, HT.out.up.trans u9.out⟩
end Go.Proofs.Ytcocliilapeelaa
