/- The leaves: math's small functions, the order's, the reference's. -/
import Derived.Test.YtflngnnoibkkoaaGreatRows
import Derived.Test.YtflngnnoibkkoaaGreatM
import Derived.OpenShut
import Derived.Sort.Row
import Derived.Sort.LotA
import Derived.Deep.LoopGhost
import Derived.Deep.QuietTactic
import Derived.BigQuiet
import Derived.BigRegion
import Derived.WalkKit
import Derived.Deep.WholeRow
import Derived.Laws.CopyOwn
import Derived.Laws.Cover3
namespace Go.Proofs.YtflngnnoibkkoaaGreat.Cf
open Go.ChangeShapes Go.WideShapes Go.ChangeAt Go.RowKit Go.Fl
set_option maxRecDepth 200000
set_option maxHeartbeats 8000000

theorem call35 (x : Nat) (w : World) : (callFunc 34 #[.float .f64 x]).run Tryz.prog w = .ok (.value (.int .u64 x)) w := by
  rw [run_callFunc_extern Tryz.func34 (by kernel_rfl) (by kernel_rfl) (by kernel_rfl) (e := Extern.MathFloatBits.float64bits) (by kernel_rfl)]; rfl
theorem call46 (x : Int) (w : World) : (callFunc 33 #[.int .u64 x]).run Tryz.prog w = .ok (.value (.float .f64 x.toNat)) w := by
  rw [run_callFunc_extern Tryz.func33 (by kernel_rfl) (by kernel_rfl) (by kernel_rfl) (e := Extern.MathFloatBits.float64frombits) (by kernel_rfl)]; rfl
attribute [local go_sem] call35 call46 run_neg fold_eq fold_ne fold_lt fold_gt abs_eq

theorem t41 (x : Nat) (w : World) : Calls Tryz.prog 14 #[.float .f64 x] w fun e w' => e = .returned (.float .f64 (abs x)) ∧ w' = w := by
  go_enter Tryz.func14, Tryz.ntmps14
  go_wp2
  go_ret
  exact ⟨rfl, rfl⟩
theorem t54 (x : Nat) (w : World) : Calls Tryz.prog 51 #[.float .f64 x] w fun e w' => e = .returned (.bool (isN x)) ∧ w' = w := by
  go_enter Tryz.func51, Tryz.ntmps51
  go_wp2
  go_ret
  exact ⟨by rw [eqF_self]; simp, rfl⟩
theorem t29 (x : Nat) (w : World) : Calls Tryz.prog 52 #[.float .f64 x, .int .i64 0] w fun e w' => e = .returned (.bool (gtF ((ab x).map abs) (ab 9218868437227405311))) ∧ w' = w := by
  go_enter Tryz.func52, Tryz.ntmps52
  go_wp2_with (go_at_call 14; refine (t41 _ _).mono ?_; rintro e w' ⟨rfl, rfl⟩)
  go_ret
  exact ⟨by rw [← ab_abs]; rfl, rfl⟩
theorem top_and (x : Nat) : x &&& 2 ^ 63 = if x.testBit 63 then 2 ^ 63 else 0 := by
  apply Nat.eq_of_testBit_eq
  intro i
  rw [Nat.testBit_and, Nat.testBit_two_pow]
  by_cases hi : 63 = i
  · subst hi
    cases hb : x.testBit 63
    · rfl
    · rfl
  · cases hb : x.testBit 63
    · simp [hi]
    · rw [if_pos rfl, Nat.testBit_two_pow]; simp [hi]
theorem top_bit (x : Nat) (h : x < 2 ^ 64) : x.testBit 63 = decide (2 ^ 63 ≤ x) := by
  rw [Nat.testBit_eq_decide_div_mod_eq]
  by_cases hc : 2 ^ 63 ≤ x
  · have e : x / 2 ^ 63 % 2 = 1 := by omega
    rw [e]; exact (decide_eq_true hc).symm
  · have e : x / 2 ^ 63 % 2 = 0 := by omega
    rw [e]; exact (decide_eq_false hc).symm
theorem and_top (x : Nat) (h : x < 2 ^ 64) : bits BinOp.and IntKind.u64 (x : Int) 9223372036854775808 = if x < 2 ^ 63 then 0 else 9223372036854775808 := by
  show IntKind.u64.wrap ((BitVec.ofInt 64 (x : Int) &&& BitVec.ofInt 64 ((9223372036854775808 : Nat) : Int)).toNat : Int) = _
  rw [BitVec.toNat_and, BitVec.ofInt_natCast, BitVec.ofInt_natCast, BitVec.toNat_ofNat, BitVec.toNat_ofNat, IntKind.wrap_u64]
  have e1 : x % 2 ^ 64 = x := by omega
  have e2 : (9223372036854775808 : Nat) % 2 ^ 64 = 2 ^ 63 := by omega
  rw [e1, e2, top_and, top_bit x h]
  by_cases hc : 2 ^ 63 ≤ x
  · rw [if_neg (by omega : ¬ x < 2 ^ 63), if_pos (decide_eq_true hc)]; rfl
  · rw [if_pos (by omega : x < 2 ^ 63), if_neg (by simp; omega)]; rfl
theorem xor_top (x : Nat) (h : x < 2 ^ 64) : bits BinOp.xor IntKind.u64 IntKind.u64.max (x : Int) = ((2 ^ 64 - 1 - x : Nat) : Int) := by
  show IntKind.u64.wrap ((BitVec.ofInt 64 ((18446744073709551615 : Nat) : Int) ^^^ BitVec.ofInt 64 (x : Int)).toNat : Int) = _
  rw [BitVec.ofInt_natCast, BitVec.ofInt_natCast, show BitVec.ofNat 64 18446744073709551615 = BitVec.allOnes 64 from rfl, BitVec.allOnes_xor, BitVec.toNat_not, BitVec.toNat_ofNat, IntKind.wrap_u64]
  omega
theorem or_top (x : Nat) (h : x < 2 ^ 63) : bits BinOp.or IntKind.u64 (x : Int) 9223372036854775808 = ((x + 2 ^ 63 : Nat) : Int) := by
  show IntKind.u64.wrap ((BitVec.ofInt 64 (x : Int) ||| BitVec.ofInt 64 ((9223372036854775808 : Nat) : Int)).toNat : Int) = _
  rw [BitVec.toNat_or, BitVec.ofInt_natCast, BitVec.ofInt_natCast, BitVec.toNat_ofNat, BitVec.toNat_ofNat, IntKind.wrap_u64]
  have e1 : x % 2 ^ 64 = x := by omega
  have e2 : (9223372036854775808 : Nat) % 2 ^ 64 = 2 ^ 63 * 1 := by omega
  rw [e1, e2, Nat.or_comm, ← Nat.two_pow_add_eq_or_of_lt h]
  omega

theorem t86 (x : Nat) (w : World) (hx : x < 2 ^ 64) : Calls Tryz.prog 252 #[.float .f64 x] w fun e w' => e = .returned (.int .u64 (key x)) ∧ w' = w := by
  cases hN : isN x
  · rcases Nat.lt_or_ge x (2 ^ 63) with hl | hg
    · have h1 := and_top x hx
      rw [if_pos hl] at h1
      have h2 := or_top x hl
      have hk : key x = x + 2 ^ 63 := by unfold key; rw [hN, if_pos hl]; rfl
      rw [hk]
      go_enter Tryz.func252, Tryz.ntmps252
      go_wp2_with (go_at_call 51; refine (t54 _ _).mono ?_; rintro e w' ⟨rfl, rfl⟩; rw [hN])
      go_ret
      exact ⟨rfl, rfl⟩
    · have h1 := and_top x hx
      rw [if_neg (by omega)] at h1
      have h2 := xor_top x hx
      have hk : key x = 2 ^ 64 - 1 - x := by unfold key; rw [hN, if_neg (by simp), if_neg (by omega)]
      rw [hk]
      go_enter Tryz.func252, Tryz.ntmps252
      go_wp2_with (go_at_call 51; refine (t54 _ _).mono ?_; rintro e w' ⟨rfl, rfl⟩; rw [hN])
      go_ret
      exact ⟨rfl, rfl⟩
  · have hk : key x = 18446744073709551615 := key_nan hN
    rw [hk]
    go_enter Tryz.func252, Tryz.ntmps252
    go_wp2_with (go_at_call 51; refine (t54 _ _).mono ?_; rintro e w' ⟨rfl, rfl⟩; rw [hN])
    go_ret
    exact ⟨rfl, rfl⟩
theorem t83 (x y : Nat) (w : World) (hx : x < 2 ^ 64) (hy : y < 2 ^ 64) : Calls Tryz.prog 240 #[.complex .f64 x 0, .complex .f64 y 0] w fun e w' => e = .returned (.bool (decide (key x < key y))) ∧ w' = w := by
  go_enter Tryz.func240, Tryz.ntmps240
  go_wp2_with (go_at_call 252; refine (t86 _ _ (by first | exact hx | exact hy | omega)).mono ?_; rintro e w' ⟨rfl, rfl⟩)
  all_goals (go_ret; go_tidy; refine ⟨?_, rfl⟩; simp_all; try omega)
theorem t78 (x y : Nat) (w : World) (hx : x < 2 ^ 64) (hy : y < 2 ^ 64) : Calls Tryz.prog 216 #[.float .f64 x, .float .f64 y] w fun e w' => e = .returned (.int .i64 (cmpK x y)) ∧ w' = w := by
  go_enter Tryz.func216, Tryz.ntmps216
  go_wp2_with (go_at_call 240; refine (t83 _ _ _ (by first | exact hx | exact hy) (by first | exact hx | exact hy)).mono ?_; rintro e w' ⟨rfl, rfl⟩)
  all_goals (go_ret; go_tidy)
  all_goals simp_all [cmpK]
  rw [if_neg (by omega), if_neg (by omega)]
end Go.Proofs.YtflngnnoibkkoaaGreat.Cf
/- Rows of floats that are exchanged in place: the exchange of two ranges, and the turn of two neighbours. -/
namespace Go.Proofs.YtflngnnoibkkoaaGreat.Cf
open Go.ChangeShapes Go.WideShapes Go.ChangeAt Go.RowKit Go.Fl Go.Sort
set_option maxRecDepth 200000
set_option maxHeartbeats 8000000
attribute [local go_sem] run_store_float call35 call46 run_neg fold_eq fold_ne fold_lt fold_gt abs_eq

abbrev fe : Nat → Value := Value.float .f64
/-- Two stores and the draw of their order, from a row after n draws. -/
theorem swap_row (w : World) (blk off : Nat) (d : Array Nat) (n i j : Nat) (hi : i < d.size) (hj : j < d.size) :
    ((((putRow fe w blk off d).drewN n).setCell ⟨blk, off + i, none⟩ (fe d[j]!)).setCell ⟨blk, off + j, none⟩ (fe d[i]!)).drew = (putRow fe w blk off (swp d i j)).drewN (n + 1) := by
  rw [← putRow_swp fe w blk off d i j hi hj]
  rfl
/-- The ranges of n places from a and from b, exchanged place by place. -/
def swapR (d : Array Nat) (a b : Nat) : Nat → Array Nat
  | 0 => d
  | n + 1 => swp (swapR d a b n) (a + n) (b + n)
theorem size_swapR (d : Array Nat) (a b n : Nat) : (swapR d a b n).size = d.size := by
  induction n with
  | zero => rfl
  | succ n ih => rw [swapR, size_swp, ih]

set_option maxHeartbeats 1000000 in
theorem t88 (blk off cap a b n : Nat) (d : Array Nat) (f : Value) (w : World) (hH : Holds fe w blk off d) (hab : a + n ≤ b) (hb : b + n ≤ d.size) (hsz : d.size < 4611686018427387904) :
    Calls Tryz.prog 257 #[.slice (some ⟨blk, off, none⟩) d.size cap, .int .i64 a, .int .i64 b, .int .i64 n, f] w fun e w' => e = .returned (.tuple #[]) ∧ ∃ m, w' = (putRow fe w blk off (swapR d a b n)).drewN m := by
  have HH : Hid (Holds fe w blk off d) := hH
  have HST : Hid (w = (putRow fe w blk off d).drewN 0) := (putRow_self fe w blk off d hH).symm
  clear hH
  go_enter Tryz.func257, Tryz.ntmps257
  go_wp2
  go_loopw [10] (fun vi wr => ∃ (i m : Nat), vi = .int .i64 i ∧ i ≤ n ∧ wr = (putRow fe w blk off (swapR d a b i)).drewN m) (fun vi _ => n - (intOf vi).toNat)
  case atStart => exact ⟨0, 0, rfl, by omega, HST.out⟩
  case round =>
    obtain ⟨i, m, rfl, hin, hw⟩ := hrel
    rename World => W1
    by_cases hlt : i < n
    · have hHk : Holds fe W1 blk off (swapR d a b i) := by
        rw [hw]; exact holds_putRow fe w blk off d _ HH.out (size_swapR _ _ _ _)
      have hs := size_swapR d a b i
      obtain ⟨ca, fa⟩ := hHk (a + i) (by omega)
      obtain ⟨cb, fb⟩ := hHk (b + i) (by omega)
      obtain ⟨x, hx⟩ : ∃ x, (swapR d a b i)[a + i]! = x := ⟨_, rfl⟩
      obtain ⟨y, hy⟩ : ∃ y, (swapR d a b i)[b + i]! = y := ⟨_, rfl⟩
      rw [hx] at ca
      rw [hy] at cb
      have HW : Hid (W1 = (putRow fe w blk off (swapR d a b i)).drewN m) := hw
      have HX : Hid _ := hx
      have HY : Hid _ := hy
      clear hw hHk hs hx hy
      obtain ⟨p, hp⟩ : ∃ p, a + i = p := ⟨_, rfl⟩
      obtain ⟨q, hq⟩ : ∃ q, b + i = q := ⟨_, rfl⟩
      have ep : (a : Int) + (i : Int) = (p : Int) := by omega
      have eq : (b : Int) + (i : Int) = (q : Int) := by omega
      have hpq : p ≠ q := by omega
      have hps : p < d.size := by omega
      have hqs : q < d.size := by omega
      rw [hp] at ca fa
      rw [hq] at cb fb
      go_wp2
      go_big_region
      all_goals go_wp2
      go_roundw
      case rel =>
        refine ⟨i + 1, m + 1, by go_num, by omega, ?_⟩
        rw [HW.out, ← HX.out, ← HY.out, ← hp, ← hq]
        have hs := size_swapR d a b i
        exact swap_row w blk off (swapR d a b i) m (a + i) (b + i) (by omega) (by omega)
      case measure => simp [intOf]; omega
    · obtain rfl : i = n := by omega
      go_wp2
      go_end0
      exact ⟨rfl, m, rfl⟩

theorem swapR_get (d : Array Nat) (a b n : Nat) (hab : a + n ≤ b) (hb : b + n ≤ d.size) (x : Nat) :
    (swapR d a b n)[x]! = if a ≤ x ∧ x < a + n then d[x - a + b]! else if b ≤ x ∧ x < b + n then d[x - b + a]! else d[x]! := by
  induction n generalizing x with
  | zero => rw [swapR, if_neg (by omega), if_neg (by omega)]
  | succ n ih =>
    have ih := ih (by omega) (by omega)
    have hs := size_swapR d a b n
    rw [swapR]
    by_cases h1 : x = a + n
    · subst h1
      rw [swp_left _ _ _ (by omega) (by omega), ih, if_neg (by omega), if_neg (by omega), if_pos (by omega)]
      congr 1; omega
    · by_cases h2 : x = b + n
      · subst h2
        rw [swp_right _ _ _ (by omega), ih, if_neg (by omega), if_neg (by omega), if_neg (by omega), if_pos (by omega)]
        congr 1; omega
      · rw [swp_other _ _ _ _ h1 h2, ih]
        repeat' split
        all_goals first | omega | rfl
theorem swapR_perm (d : Array Nat) (a b n lo hi : Nat) (h1 : lo ≤ a) (h2 : a ≤ b) (h3 : b + n ≤ hi) (h4 : hi ≤ d.size) : PermIn lo hi d (swapR d a b n) := by
  induction n with
  | zero => exact permIn_refl _ _ _
  | succ n ih =>
    have hs := size_swapR d a b n
    exact permIn_trans _ _ _ _ _ (ih (by omega)) (swp_permIn _ _ _ _ _ (by omega) (by omega) (by omega) (by omega) (by omega))
/-- The neighbours [a, m) and [m, b) have changed their places. -/
def Rot (a m b : Nat) (d d' : Array Nat) : Prop := d'.size = d.size ∧ ∀ x, d'[x]! = if a ≤ x ∧ x < a + (b - m) then d[x - a + m]! else if a + (b - m) ≤ x ∧ x < b then d[x - (b - m)]! else d[x]!
/-- One step of the turn: the first j of [m - i, m) for [m, m + j). -/
theorem rot_left {m i j : Nat} {d d' : Array Nat} (hi : i ≤ m) (hj : j < i) (hs : m + j ≤ d.size) (h : Rot (m - i + j) m (m + j) (swapR d (m - i) m j) d') : Rot (m - i) m (m + j) d d' := by
  refine ⟨h.1.trans (size_swapR _ _ _ _), fun x => ?_⟩
  rw [h.2 x, swapR_get _ _ _ _ (by omega) hs, swapR_get _ _ _ _ (by omega) hs, swapR_get _ _ _ _ (by omega) hs]
  repeat' split
  all_goals first | omega | rfl | (congr 1; omega)
theorem rot_right {m i j : Nat} {d d' : Array Nat} (hi : i ≤ m) (hj : i < j) (hs : m + j ≤ d.size) (h : Rot (m - i) m (m + (j - i)) (swapR d (m - i) (m + j - i) i) d') : Rot (m - i) m (m + j) d d' := by
  refine ⟨h.1.trans (size_swapR _ _ _ _), fun x => ?_⟩
  rw [h.2 x, swapR_get _ _ _ _ (by omega) (by omega), swapR_get _ _ _ _ (by omega) (by omega), swapR_get _ _ _ _ (by omega) (by omega)]
  repeat' split
  all_goals first | omega | rfl | (congr 1; omega)
theorem rot_same {m i : Nat} {d : Array Nat} (hi : i ≤ m) (hs : m + i ≤ d.size) : Rot (m - i) m (m + i) d (swapR d (m - i) m i) := by
  refine ⟨size_swapR _ _ _ _, fun x => ?_⟩
  rw [swapR_get _ _ _ _ (by omega) (by omega)]
  repeat' split
  all_goals first | omega | rfl | (congr 1; omega)

theorem row_on (w : World) (blk off k m : Nat) (d d' : Array Nat) (h : d'.size = d.size) : (putRow fe ((putRow fe w blk off d).drewN k) blk off d').drewN m = (putRow fe w blk off d').drewN (k + m) := by
  show (((putRow fe (putRow fe w blk off d) blk off d')).drewN k).drewN m = _
  rw [putRow_putRow fe w blk off d d' h, World.drewN_drewN]
/-- The exchange, met in a world that is a row of the walk's. -/
theorem t88r {blk off cap a b n : Nat} {d d0 : Array Nat} {f : Value} {w W : World} {k : Nat} (hW : Hid (W = (putRow fe w blk off d).drewN k)) (hH : Hid (Holds fe w blk off d0)) (hs : d.size = d0.size) (hab : a + n ≤ b) (hb : b + n ≤ d.size) (hsz : d.size < 4611686018427387904) :
    Calls Tryz.prog 257 #[.slice (some ⟨blk, off, none⟩) d0.size cap, .int .i64 a, .int .i64 b, .int .i64 n, f] W fun e w' => e = .returned (.tuple #[]) ∧ ∃ m, w' = (putRow fe w blk off (swapR d a b n)).drewN m := by
  have h := t88 blk off cap a b n d f W (by rw [hW.out]; exact holds_putRow fe w blk off d0 d hH.out hs) hab hb hsz
  rw [hs] at h
  refine h.mono fun e w' ⟨he, m, hw⟩ => ⟨he, k + m, ?_⟩
  rw [hw, hW.out, row_on _ _ _ _ _ _ _ (size_swapR _ _ _ _)]

set_option maxHeartbeats 1000000 in
theorem t87 (blk off cap a m b : Nat) (d : Array Nat) (f : Value) (w : World) (hH : Holds fe w blk off d) (ham : a < m) (hmb : m < b) (hb : b ≤ d.size) (hsz : d.size < 4611686018427387904) :
    Calls Tryz.prog 256 #[.slice (some ⟨blk, off, none⟩) d.size cap, .int .i64 a, .int .i64 m, .int .i64 b, f] w fun e w' => e = .returned (.tuple #[]) ∧ ∃ k d', w' = (putRow fe w blk off d').drewN k ∧ Rot a m b d d' ∧ PermIn a b d d' := by
  have HH : Hid (Holds fe w blk off d) := hH
  have HST : Hid (w = (putRow fe w blk off d).drewN 0) := (putRow_self fe w blk off d hH).symm
  clear hH
  go_enter Tryz.func256, Tryz.ntmps256
  go_wp2
  go_loopw [10, 11] (fun vi vj wr => ∃ (i j k : Nat) (dk : Array Nat), vi = .int .i64 i ∧ vj = .int .i64 j ∧ 0 < i ∧ i ≤ m - a ∧ 0 < j ∧ j ≤ b - m ∧ dk.size = d.size ∧ wr = (putRow fe w blk off dk).drewN k ∧ Hid (PermIn a b d dk) ∧ Hid (∀ d', Rot (m - i) m (m + j) dk d' → Rot a m b d d')) (fun vi vj _ => (intOf vi).toNat + (intOf vj).toNat)
  case atStart =>
    refine ⟨m - a, b - m, 0, d, by go_num, by go_num, by omega, by omega, by omega, by omega, rfl, HST.out, permIn_refl _ _ _, ?_⟩
    intro d' h
    rw [show m - (m - a) = a by omega, show m + (b - m) = b by omega] at h
    exact h
  case round =>
    obtain ⟨i, j, k, dk, rfl, rfl, hi0, hi, hj0, hj, hs, hw, HP, HR⟩ := hrel
    rename World => W1
    have HW : Hid (W1 = (putRow fe w blk off dk).drewN k) := hw
    clear hw
    obtain ⟨p, hp⟩ : ∃ p, m - i = p := ⟨_, rfl⟩
    obtain ⟨q, hq⟩ : ∃ q, m + j - i = q := ⟨_, rfl⟩
    have e1 : (m : Int) - (i : Int) = (p : Int) := by omega
    rcases Nat.lt_trichotomy i j with hlt | heq | hgt
    · have e2 : (m : Int) + (j : Int) - (i : Int) = (q : Int) := by omega
      go_wp2_with (go_at_call 257; refine (t88r HW HH hs (by omega) (by omega) (by omega)).mono ?_; rintro e w' ⟨rfl, m', rfl⟩)
      subst hp; subst hq
      go_roundw
      case rel =>
        refine ⟨i, j - i, m', _, rfl, by go_num, by omega, by omega, by omega, by omega, (size_swapR _ _ _ _).trans hs, rfl, ?_, ?_⟩
        · exact permIn_trans _ _ _ _ _ HP.out (swapR_perm _ _ _ _ _ _ (by omega) (by omega) (by omega) (by omega))
        · intro d' h
          exact HR.out d' (rot_right (by omega) hlt (by omega) h)
      case measure => simp [intOf]; omega
    · subst heq
      go_wp2_with (go_at_call 257; refine (t88r HW HH hs (by omega) (by omega) (by omega)).mono ?_; rintro e w' ⟨rfl, m', rfl⟩)
      subst hp; clear hq
      go_end0
      exact ⟨rfl, m', _, rfl, HR.out _ (rot_same (by omega) (by omega)), permIn_trans _ _ _ _ _ HP.out (swapR_perm _ _ _ _ _ _ (by omega) (by omega) (by omega) (by omega))⟩
    · go_wp2_with (go_at_call 257; refine (t88r HW HH hs (by omega) (by omega) (by omega)).mono ?_; rintro e w' ⟨rfl, m', rfl⟩)
      subst hp; clear hq
      go_roundw
      case rel =>
        refine ⟨i - j, j, m', _, by go_num, rfl, by omega, by omega, by omega, by omega, (size_swapR _ _ _ _).trans hs, rfl, ?_, ?_⟩
        · exact permIn_trans _ _ _ _ _ HP.out (swapR_perm _ _ _ _ _ _ (by omega) (by omega) (by omega) (by omega))
        · intro d' h
          rw [show m - (i - j) = m - i + j by omega] at h
          exact HR.out d' (rot_left (by omega) hgt (by omega) h)
      case measure => simp [intOf]; omega
end Go.Proofs.YtflngnnoibkkoaaGreat.Cf
/- The sort by insertion of a part of a row of floats, by the order's function. -/
namespace Go.Proofs.YtflngnnoibkkoaaGreat.Cf
open Go.ChangeShapes Go.WideShapes Go.ChangeAt Go.RowKit Go.Fl Go.Sort
set_option maxRecDepth 200000
set_option maxHeartbeats 8000000
attribute [local go_sem] run_store_float call35 call46 run_neg fold_eq fold_ne fold_lt fold_gt abs_eq

abbrev ord29 : Value := .func (.func 216) #[] #[]
/-- Every float of the row is one of 64 bits. -/
def Fit (d : Array Nat) : Prop := ∀ i, i < d.size → d[i]! < 2 ^ 64
theorem swoK : SWO ltK where
  irrefl x := by simp [ltK]
  trans x y z h1 h2 := by simp only [ltK, decide_eq_true_eq] at *; omega
  ntrans x y z h1 h2 := by simp only [ltK, decide_eq_false_iff_not] at *; omega
theorem cmpK_neg (x y : Nat) : cmpK x y < 0 ↔ ltK x y = true := by
  unfold cmpK ltK
  split
  · simp; omega
  · split <;> simp <;> omega
theorem Fit.perm {d d' : Array Nat} (h : Fit d) {a b : Nat} (hb : b ≤ d.size) (hp : PermIn a b d d') : Fit d' := by
  intro i hi
  rw [hp.1] at hi
  by_cases hin : a ≤ i ∧ i < b
  · exact permIn_all d d' a b (fun x => x < 2 ^ 64) hb hp (fun j hj1 hj2 => h j (by omega)) i hin.1 hin.2
  · rw [hp.2.1 i (by omega)]; exact h i hi
theorem cmp29 {x y : Nat} {w : World} (hx : x < 2 ^ 64) (hy : y < 2 ^ 64) (n : Nat) : Calls Tryz.prog 216 #[.float .f64 x, .float .f64 y] (w.drewN n) fun e w' => e = .returned (.int .i64 (cmpK x y)) ∧ ∃ m, w' = (w.drewN n).drewN m :=
  (t78 x y _ hx hy).mono fun _ _ ⟨he, hw⟩ => ⟨he, 0, hw⟩
theorem fit_at {d d0 : Array Nat} (h : Fit d) (hs : d.size = d0.size) {i x : Nat} (hi : i < d0.size) (hx : d[i]! = x) : x < 2 ^ 64 := by
  rw [← hx]; exact h i (by omega)
theorem fam {w W : World} {blk off n : Nat} {d0 d : Array Nat} (hw : W = (putRow fe w blk off d).drewN n) (hH : Holds fe w blk off d0) (hs : d.size = d0.size) {i x : Nat} (hi : i < d0.size) (hx : d[i]! = x) :
    W.cell? ⟨blk, off + i, none⟩ = some (.float .f64 x) ∧ W.frozen? ⟨blk, off + i, none⟩ = false := by
  rw [hw, ← hx]
  exact holds_putRow fe w blk off d0 d hH hs i (by omega)

set_option maxHeartbeats 2000000 in
theorem t84 (blk off cap a b : Nat) (d : Array Nat) (w : World) (hH : Holds fe w blk off d) (hF : Fit d) (hab : a ≤ b) (hb : b ≤ d.size) (hsz : d.size < 4611686018427387904) :
    Calls Tryz.prog 250 #[.slice (some ⟨blk, off, none⟩) d.size cap, .int .i64 a, .int .i64 b, ord29] w fun e w' => e = .returned (.tuple #[]) ∧ ∃ n d', w' = (putRow fe w blk off d').drewN n ∧ PermIn a b d d' ∧ SortedIn ltK a b d' := by
  have HH : Hid (Holds fe w blk off d) := hH
  have HST : Hid (w = (putRow fe w blk off d).drewN 0) := (putRow_self fe w blk off d hH).symm
  have HF : Hid (Fit d) := hF
  clear hH hF
  go_enter Tryz.func250, Tryz.ntmps250
  go_wp2
  go_loopw [8] (fun vi wr => ∃ (i n : Nat) (dk : Array Nat), vi = .int .i64 i ∧ a < i ∧ (i ≤ b ∨ i = a + 1) ∧ dk.size = d.size ∧ wr = (putRow fe w blk off dk).drewN n ∧ Hid (PermIn a b d dk) ∧ Hid (SortedIn ltK a i dk)) (fun vi _ => b - (intOf vi).toNat)
  case atStart => exact ⟨a + 1, 0, d, by go_num, by omega, by omega, rfl, HST.out, permIn_refl _ _ _, fun p q h1 h2 h3 => by omega⟩
  case round =>
    obtain ⟨i, n, dk, rfl, hai, hib, hs, hw, HP, HS⟩ := hrel
    by_cases hlt : i < b
    · go_wp2
      go_loopw [9] (fun vj wr2 => ∃ (j m : Nat) (dj : Array Nat), vj = .int .i64 j ∧ a ≤ j ∧ j ≤ i ∧ dj.size = d.size ∧ wr2 = (putRow fe w blk off dj).drewN m ∧ Hid (PermIn a b d dj) ∧ Hid (Ins ltK a j i dj)) (fun vj _ => (intOf vj).toNat)
      case atStart => exact ⟨i, n, dk, rfl, by omega, Nat.le_refl _, hs, by first | exact hw | rfl, HP, ⟨fun p q h1 h2 h3 h4 h5 => HS.out p q h1 h2 (by omega), fun q h1 h2 => by omega⟩⟩
      case round =>
        clear hw HP HS hs
        obtain ⟨j, m, dj, rfl, haj, hji, hs, hw, HP, HI⟩ := hrel
        rename World => W1
        have HW : Hid (W1 = (putRow fe w blk off dj).drewN m) := hw
        clear hw
        by_cases hja : a < j
        · obtain ⟨jp, rfl⟩ : ∃ jp, j = jp + 1 := ⟨j - 1, by omega⟩
          obtain ⟨x, hx⟩ : ∃ x, dj[jp + 1]! = x := ⟨_, rfl⟩
          obtain ⟨y, hy⟩ : ∃ y, dj[jp]! = y := ⟨_, rfl⟩
          obtain ⟨cj, fj⟩ := fam HW.out HH.out hs (show jp + 1 < d.size by omega) hx
          obtain ⟨cp, fp⟩ := fam HW.out HH.out hs (show jp < d.size by omega) hy
          have hFj := HF.out.perm hb HP.out
          have bx := fit_at hFj hs (show jp + 1 < d.size by omega) hx
          have by' := fit_at hFj hs (show jp < d.size by omega) hy
          have HX : Hid _ := hx
          have HY : Hid _ := hy
          clear hx hy hFj
          have hwp : IntKind.i64.wrap (jp : Int) = (jp : Int) := by rw [IntKind.wrap_i64]; omega
          have jz : (jp : Int) + 1 < (d.size : Int) := by omega
          have jz1 : (jp : Int) < (d.size : Int) := by omega
          have hjaz : (a : Int) < (jp : Int) + 1 := by omega
          have p0 : (0 : Int) ≤ (jp : Int) + 1 := by omega
          have e0 : ((jp : Int) + 1).toNat = jp + 1 := by omega
          by_cases hlv : cmpK x y < 0
          · go_wp2_with fail
            go_quiet (first | (go_at_call 216; refine Calls.quiet_of (cmp29 bx by' _)))
            go_wp2_with fail
            have cj2 : (W1.drewN nq).cell? ⟨blk, off + (jp + 1), none⟩ = some (.float .f64 x) := cj
            have cp2 : (W1.drewN nq).cell? ⟨blk, off + jp, none⟩ = some (.float .f64 y) := cp
            have fj2 : (W1.drewN nq).frozen? ⟨blk, off + (jp + 1), none⟩ = false := fj
            have fp2 : (W1.drewN nq).frozen? ⟨blk, off + jp, none⟩ = false := fp
            have HW2 : Hid (W1.drewN nq = (putRow fe w blk off dj).drewN (m + nq)) := by show _ = _; rw [HW.out, World.drewN_drewN]
            clear cj cp fj fp HW
            generalize W1.drewN nq = W2 at cj2 cp2 fj2 fp2 HW2 ⊢
            obtain ⟨j1, hj1⟩ : ∃ j1, j1 = jp + 1 := ⟨_, rfl⟩
            rw [← hj1] at cj2 fj2 e0
            have J1 : Hid (j1 = jp + 1) := hj1
            clear hj1
            go_big_region
            all_goals go_wp2
            go_roundw
            case rel =>
              refine ⟨jp, m + nq + 1, swp dj (jp + 1) jp, by first | rfl | go_num | (congr 1; omega), by omega, by omega, by rw [size_swp]; exact hs, ?_, ?_, ?_⟩
              · rw [J1.out, HW2.out, ← HX.out, ← HY.out]
                exact swap_row w blk off dj (m + nq) (jp + 1) jp (by omega) (by omega)
              · exact permIn_trans _ _ _ _ _ HP.out (swp_permIn _ _ _ _ _ (by omega) (by omega) (by omega) (by omega) (by omega))
              · exact HI.out.step (by rw [HX.out, HY.out]; exact (cmpK_neg x y).1 hlv) (by omega) (by omega)
            case measure => simp [intOf]
          · go_wp2_with fail
            go_quiet (first | (go_at_call 216; refine Calls.quiet_of (cmp29 bx by' _)))
            go_wp2
            go_roundw
            case rel =>
              refine ⟨i + 1, m + nq, dj, by go_num, by omega, by omega, hs, by rw [HW.out, World.drewN_drewN], HP, ?_⟩
              refine HI.out.stop swoK (Or.inr ?_)
              simp only [Nat.add_sub_cancel]
              rw [HX.out, HY.out]
              exact Bool.eq_false_iff.2 fun h => by have := (cmpK_neg x y).2 h; omega
            case measure => simp [intOf]; omega
        · have hjaz : decide ((j : Int) > (a : Int)) = false := decide_eq_false (by omega)
          have hjaz' : ¬ (a : Int) < (j : Int) := by omega
          go_wp2_with fail
          go_big_region
          all_goals go_wp2
          go_roundw
          case rel => exact ⟨i + 1, m + 1, dj, by go_num, by omega, by omega, hs, by rw [HW.out]; rfl, HP, HI.out.stop swoK (Or.inl (by omega))⟩
          case measure => simp [intOf]; omega
    · go_wp2
      go_end0
      refine ⟨rfl, n, dk, by first | exact hw | rfl, HP.out, ?_⟩
      exact fun p q h1 h2 h3 => HS.out p q h1 h2 (by omega)
end Go.Proofs.YtflngnnoibkkoaaGreat.Cf
/- What was there is kept; slices of floats; rows of one's own. -/
namespace Go.Proofs.YtflngnnoibkkoaaGreat.Cf
open Go.ChangeShapes Go.WideShapes Go.ChangeAt Go.RowKit Go.Fl Go.Sort
set_option maxRecDepth 200000
set_option maxHeartbeats 8000000
attribute [local go_sem] run_store_float call35 call46 run_neg fold_eq fold_ne fold_lt fold_gt abs_eq

/-- Of what was there nothing has turned. -/
def Up (w w' : World) : Prop := RowKit.Below w.heap.size w w'
theorem Up.refl (w : World) : Up w w := Below.refl _ _
theorem Up.trans {a b c : World} (h : Up a b) (k : Up b c) : Up a c := RowKit.Below.trans h (RowKit.Below.mono k (RowKit.Below.size h))
theorem Up.drewN (w : World) (n : Nat) : Up w (w.drewN n) := below_drewN (Below.refl _ _) n
theorem Up.alloc (w : World) (o : Obj) : Up w (w.alloc o) := (Below.refl _ _).alloc (Nat.le_refl _) _
theorem Up.putRow {w w1 : World} (h : Up w w1) {g : Nat} (hg : w.heap.size ≤ g) (off : Nat) (d : Array Nat) : Up w (Sort.putRow fe w1 g off d) := by
  have hb : ∀ k, k ≠ g → (Sort.putRow fe w1 g off d).heap[k]? = w1.heap[k]? := fun k hk => by
    simp only [Sort.putRow, mapBlock, Array.getElem?_modify, if_neg (Ne.symm hk)]
  have h' : RowKit.Below w.heap.size w w1 := h
  exact ⟨(h'.os : w1.os = w.os), (h'.tape : w1.tape = w.tape), (h'.output : w1.output = w.output), by rw [size_putRow]; exact RowKit.Below.size h, fun k hk => by rw [hb k (by omega)]; exact RowKit.Below.block h k hk⟩

/-- The cells of a slice hold these floats. -/
def Reads (w : World) (blk off : Nat) (d : Array Nat) : Prop := ∀ j, j < d.size → w.cell? ⟨blk, off + j, none⟩ = some (fe d[j]!)
theorem Reads.lt {w : World} {blk off : Nat} {d : Array Nat} (h : Reads w blk off d) (hp : 0 < d.size) : blk < w.heap.size := by
  obtain ⟨c, e, fr, hb, _⟩ := cells_of_cell? (h 0 hp)
  exact (Array.getElem?_eq_some_iff.1 hb).1
theorem Reads.up {w w' : World} {blk off : Nat} {d : Array Nat} (h : Reads w blk off d) (hu : Up w w') : Reads w' blk off d := fun j hj => by
  rw [RowKit.Below.cell hu (h.lt (by omega))]; exact h j hj
theorem info23 : (Tryz.prog.info? 22).map (fun i => (i.zero, i.size, i.bytes)) = some (some (.float .f64 0), 1, 8) := by kernel_rfl
/-- A row of one's own: its cells can be written. -/
def Own (b : Nat) (w : World) (v : Value) (d : Array Nat) : Prop := ∃ g cap, v = .slice (some ⟨g, 0, none⟩) d.size cap ∧ b ≤ g ∧ (g < w.heap.size ∧ d.size ≤ cap) ∧ Holds fe w g 0 d
theorem own_of {b : Nat} {w : World} {v : Value} {d : Array Nat} (hp : 0 < d.size) (h : w.ownsRow b 22 1 v d.size (d.toList.map fe)) : Own b w v d := by
  obtain ⟨_, h⟩ := h
  rcases h with ⟨_, h0⟩ | ⟨g, cap, cur, rfl, hg, hc, hle, _, hs, ht⟩
  · omega
  · refine ⟨g, cap, rfl, hg, ⟨(Array.getElem?_eq_some_iff.1 hc).1, hle⟩, fun j hj => ?_⟩
    have e : cur[j]? = some (fe d[j]!) := by
      have := congrArg (fun l => l[j]?) ht
      simp only [List.getElem?_take] at this
      rw [if_pos (by omega)] at this
      rw [← Array.getElem?_toList, this]
      simp [getElem!_pos d j hj, Array.getElem?_eq_getElem hj]
    constructor
    · rw [cell_of_row _ _ _ _ _ _ hc, Nat.zero_add, e]
    · simp [World.frozen?, hc]
theorem reads_news {w : World} {blk off : Nat} {d : Array Nat} (h : Reads w blk off d) : ∀ j u, (d.toList.map fe)[j]? = some u → w.cell? ((⟨blk, off, none⟩ : Addr).add j) = some u := by
  intro j u hj
  rw [List.getElem?_map, Option.map_eq_some_iff] at hj
  obtain ⟨x, hx, rfl⟩ := hj
  rw [Array.getElem?_toList, Array.getElem?_eq_some_iff] at hx
  obtain ⟨hl, hx⟩ := hx
  have := h j hl
  rw [getElem!_pos d j hl, hx] at this
  rw [← this]
  unfold Addr.add
  split
  · rename_i h0; rw [h0]; rfl
  · rfl
theorem one_cells (l : List Nat) : ∀ u ∈ l.map fe, u.oneCell' = true := by
  intro u hu
  obtain ⟨x, _, rfl⟩ := List.mem_map.1 hu
  rfl

theorem eql_nil (a : Option Addr) (l c : Nat) (w : World) : (binOp .eql 47 (.slice a l c) (.slice none 0 0)).run Tryz.prog w = .ok (.bool a.isNone) w := by
  have h := run_equal_slice_nil (P := Tryz.prog) w 47 22 a l c Tryz.underlying47
  simp [binOp, h]
attribute [local go_sem] eql_nil
theorem own_empty (w : World) : (w.alloc (.cells #[] 22)).ownsRow w.heap.size 22 1 (.slice (some ⟨w.heap.size, 0, none⟩) 0 0) 0 [] :=
  ⟨by simp, .inr ⟨w.heap.size, 0, #[], rfl, Nat.le_refl _, heap_alloc_last _ _, Nat.le_refl _, Nat.zero_le _, rfl, rfl⟩⟩
theorem reads_sub {w : World} {blk off : Nat} {d : Array Nat} (h : Reads w blk off d) (a b : Nat) (hb : b ≤ d.size) : Reads w blk (off + a) (d.extract a b) := by
  intro j hj
  have hj' : j < b - a := by simpa [Nat.min_eq_left hb] using hj
  have := h (a + j) (by omega)
  rw [show off + a + j = off + (a + j) by omega, this, getElem!_pos _ j hj, getElem!_pos d (a + j) (by omega)]
  simp
theorem fit_sub {d : Array Nat} (h : Fit d) (a b : Nat) (hb : b ≤ d.size) : Fit (d.extract a b) := by
  intro j hj
  have hj' : j < b - a := by simpa [Nat.min_eq_left hb] using hj
  have := h (a + j) (by omega)
  rw [getElem!_pos d (a + j) (by omega)] at this
  rw [getElem!_pos _ j hj]
  simpa using this
theorem own_reads {b : Nat} {w : World} {v : Value} {d : Array Nat} (h : Own b w v d) : ∃ g cap, v = .slice (some ⟨g, 0, none⟩) d.size cap ∧ b ≤ g ∧ d.size ≤ cap ∧ Reads w g 0 d := by
  obtain ⟨g, cap, hv, hb, hl, hH⟩ := h
  exact ⟨g, cap, hv, hb, hl.2, fun j hj => (hH j hj).1⟩

end Go.Proofs.YtflngnnoibkkoaaGreat.Cf
