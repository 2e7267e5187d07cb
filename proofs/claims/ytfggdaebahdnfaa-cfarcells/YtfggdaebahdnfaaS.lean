/- Rows of floats that are exchanged in place: the exchange of two ranges, and the turn of two neighbours. -/
import Derived.Test.YtfggdaebahdnfaaA
import Derived.Sort.Row
import Derived.Sort.LotA
import Derived.Deep.LoopGhost
import Derived.Deep.QuietTactic
import Derived.BigQuiet
import Derived.BigRegion
import Derived.WalkKit
namespace Go.Proofs.Ytfggdaebahdnfaa
open Go.ChangeShapes Go.WideShapes Go.ChangeAt Go.RowKit Go.Fl Go.Sort
attribute [local go_sem] run_store_float call35 call46 run_neg fold_eq fold_ne fold_lt fold_gt abs_eq

abbrev fe : Nat → Value := Value.float .f64
/-- Two stores and the draw of their order, from a row after n draws. -/
theorem swap_row (w : World) (blk off : Nat) (d : Array Nat) (n i j : Nat) (hi : i < d.size) (hj : j < d.size) :
    ((((putRow fe w blk off d).drewN n).setCell ⟨blk, off + i, none⟩ (fe d[j]!)).setCell ⟨blk, off + j, none⟩ (fe d[i]!)).drew = (putRow fe w blk off (swp d i j)).drewN (n + 1) := by
  rw [← putRow_swp fe w blk off d i j hi hj]
  rfl
/-- The ranges of n places from a and from b, exchanged place by place. -/
def swapR (d : Array Nat) (a b : Nat) : Nat → Array Nat
  | 0 => d
  | n + 1 => swp (swapR d a b n) (a + n) (b + n)
theorem size_swapR (d : Array Nat) (a b n : Nat) : (swapR d a b n).size = d.size := by
  induction n with
  | zero => rfl
  | succ n ih => rw [swapR, size_swp, ih]

set_option maxHeartbeats 1000000 in
theorem t88 (blk off cap a b n : Nat) (d : Array Nat) (f : Value) (w : World) (hH : Holds fe w blk off d) (hab : a + n ≤ b) (hb : b + n ≤ d.size) (hsz : d.size < 4611686018427387904) :
    Calls Try.prog 88 #[.slice (some ⟨blk, off, none⟩) d.size cap, .int .i64 a, .int .i64 b, .int .i64 n, f] w fun e w' => e = .returned (.tuple #[]) ∧ ∃ m, w' = (putRow fe w blk off (swapR d a b n)).drewN m := by
  have HH : Hid (Holds fe w blk off d) := hH
  have HST : Hid (w = (putRow fe w blk off d).drewN 0) := (putRow_self fe w blk off d hH).symm
  clear hH
  go_enter Try.func88, Try.ntmps88
  go_wp2
  go_loopw [10] (fun vi wr => ∃ (i m : Nat), vi = .int .i64 i ∧ i ≤ n ∧ wr = (putRow fe w blk off (swapR d a b i)).drewN m) (fun vi _ => n - (intOf vi).toNat)
  case atStart => exact ⟨0, 0, rfl, by omega, HST.out⟩
  case round =>
    obtain ⟨i, m, rfl, hin, hw⟩ := hrel
    rename World => W1
    by_cases hlt : i < n
    · have hHk : Holds fe W1 blk off (swapR d a b i) := by
        rw [hw]; exact holds_putRow fe w blk off d _ HH.out (size_swapR _ _ _ _)
      have hs := size_swapR d a b i
      obtain ⟨ca, fa⟩ := hHk (a + i) (by omega)
      obtain ⟨cb, fb⟩ := hHk (b + i) (by omega)
      obtain ⟨x, hx⟩ : ∃ x, (swapR d a b i)[a + i]! = x := ⟨_, rfl⟩
      obtain ⟨y, hy⟩ : ∃ y, (swapR d a b i)[b + i]! = y := ⟨_, rfl⟩
      rw [hx] at ca
      rw [hy] at cb
      have HW : Hid (W1 = (putRow fe w blk off (swapR d a b i)).drewN m) := hw
      have HX : Hid _ := hx
      have HY : Hid _ := hy
      clear hw hHk hs hx hy
      obtain ⟨p, hp⟩ : ∃ p, a + i = p := ⟨_, rfl⟩
      obtain ⟨q, hq⟩ : ∃ q, b + i = q := ⟨_, rfl⟩
      have ep : (a : Int) + (i : Int) = (p : Int) := by omega
      have eq : (b : Int) + (i : Int) = (q : Int) := by omega
      have hpq : p ≠ q := by omega
      have hps : p < d.size := by omega
      have hqs : q < d.size := by omega
      rw [hp] at ca fa
      rw [hq] at cb fb
      go_wp2
      go_big_region
      all_goals go_wp2
      go_roundw
      case rel =>
        refine ⟨i + 1, m + 1, by go_num, by omega, ?_⟩
        rw [HW.out, ← HX.out, ← HY.out, ← hp, ← hq]
        have hs := size_swapR d a b i
        exact swap_row w blk off (swapR d a b i) m (a + i) (b + i) (by omega) (by omega)
      case measure => simp [intOf]; omega
    · obtain rfl : i = n := by omega
      go_wp2
      go_end0
      exact ⟨rfl, m, rfl⟩

theorem swapR_get (d : Array Nat) (a b n : Nat) (hab : a + n ≤ b) (hb : b + n ≤ d.size) (x : Nat) :
    (swapR d a b n)[x]! = if a ≤ x ∧ x < a + n then d[x - a + b]! else if b ≤ x ∧ x < b + n then d[x - b + a]! else d[x]! := by
  induction n generalizing x with
  | zero => rw [swapR, if_neg (by omega), if_neg (by omega)]
  | succ n ih =>
    have ih := ih (by omega) (by omega)
    have hs := size_swapR d a b n
    rw [swapR]
    by_cases h1 : x = a + n
    · subst h1
      rw [swp_left _ _ _ (by omega) (by omega), ih, if_neg (by omega), if_neg (by omega), if_pos (by omega)]
      congr 1; omega
    · by_cases h2 : x = b + n
      · subst h2
        rw [swp_right _ _ _ (by omega), ih, if_neg (by omega), if_neg (by omega), if_neg (by omega), if_pos (by omega)]
        congr 1; omega
      · rw [swp_other _ _ _ _ h1 h2, ih]
        repeat' split
        all_goals first | omega | rfl
theorem swapR_perm (d : Array Nat) (a b n lo hi : Nat) (h1 : lo ≤ a) (h2 : a ≤ b) (h3 : b + n ≤ hi) (h4 : hi ≤ d.size) : PermIn lo hi d (swapR d a b n) := by
  induction n with
  | zero => exact permIn_refl _ _ _
  | succ n ih =>
    have hs := size_swapR d a b n
    exact permIn_trans _ _ _ _ _ (ih (by omega)) (swp_permIn _ _ _ _ _ (by omega) (by omega) (by omega) (by omega) (by omega))
/-- The neighbours [a, m) and [m, b) have changed their places. -/
def Rot (a m b : Nat) (d d' : Array Nat) : Prop := d'.size = d.size ∧ ∀ x, d'[x]! = if a ≤ x ∧ x < a + (b - m) then d[x - a + m]! else if a + (b - m) ≤ x ∧ x < b then d[x - (b - m)]! else d[x]!
/-- One step of the turn: the first j of [m - i, m) for [m, m + j). -/
theorem rot_left {m i j : Nat} {d d' : Array Nat} (hi : i ≤ m) (hj : j < i) (hs : m + j ≤ d.size) (h : Rot (m - i + j) m (m + j) (swapR d (m - i) m j) d') : Rot (m - i) m (m + j) d d' := by
  refine ⟨h.1.trans (size_swapR _ _ _ _), fun x => ?_⟩
  rw [h.2 x, swapR_get _ _ _ _ (by omega) hs, swapR_get _ _ _ _ (by omega) hs, swapR_get _ _ _ _ (by omega) hs]
  repeat' split
  all_goals first | omega | rfl | (congr 1; omega)
theorem rot_right {m i j : Nat} {d d' : Array Nat} (hi : i ≤ m) (hj : i < j) (hs : m + j ≤ d.size) (h : Rot (m - i) m (m + (j - i)) (swapR d (m - i) (m + j - i) i) d') : Rot (m - i) m (m + j) d d' := by
  refine ⟨h.1.trans (size_swapR _ _ _ _), fun x => ?_⟩
  rw [h.2 x, swapR_get _ _ _ _ (by omega) (by omega), swapR_get _ _ _ _ (by omega) (by omega), swapR_get _ _ _ _ (by omega) (by omega)]
  repeat' split
  all_goals first | omega | rfl | (congr 1; omega)
theorem rot_same {m i : Nat} {d : Array Nat} (hi : i ≤ m) (hs : m + i ≤ d.size) : Rot (m - i) m (m + i) d (swapR d (m - i) m i) := by
  refine ⟨size_swapR _ _ _ _, fun x => ?_⟩
  rw [swapR_get _ _ _ _ (by omega) (by omega)]
  repeat' split
  all_goals first | omega | rfl | (congr 1; omega)

theorem row_on (w : World) (blk off k m : Nat) (d d' : Array Nat) (h : d'.size = d.size) : (putRow fe ((putRow fe w blk off d).drewN k) blk off d').drewN m = (putRow fe w blk off d').drewN (k + m) := by
  show (((putRow fe (putRow fe w blk off d) blk off d')).drewN k).drewN m = _
  rw [putRow_putRow fe w blk off d d' h, World.drewN_drewN]
/-- The exchange, met in a world that is a row of the walk's. -/
theorem t88r {blk off cap a b n : Nat} {d d0 : Array Nat} {f : Value} {w W : World} {k : Nat} (hW : Hid (W = (putRow fe w blk off d).drewN k)) (hH : Hid (Holds fe w blk off d0)) (hs : d.size = d0.size) (hab : a + n ≤ b) (hb : b + n ≤ d.size) (hsz : d.size < 4611686018427387904) :
    Calls Try.prog 88 #[.slice (some ⟨blk, off, none⟩) d0.size cap, .int .i64 a, .int .i64 b, .int .i64 n, f] W fun e w' => e = .returned (.tuple #[]) ∧ ∃ m, w' = (putRow fe w blk off (swapR d a b n)).drewN m := by
  have h := t88 blk off cap a b n d f W (by rw [hW.out]; exact holds_putRow fe w blk off d0 d hH.out hs) hab hb hsz
  rw [hs] at h
  refine h.mono fun e w' ⟨he, m, hw⟩ => ⟨he, k + m, ?_⟩
  rw [hw, hW.out, row_on _ _ _ _ _ _ _ (size_swapR _ _ _ _)]

set_option maxHeartbeats 1000000 in
theorem t87 (blk off cap a m b : Nat) (d : Array Nat) (f : Value) (w : World) (hH : Holds fe w blk off d) (ham : a < m) (hmb : m < b) (hb : b ≤ d.size) (hsz : d.size < 4611686018427387904) :
    Calls Try.prog 87 #[.slice (some ⟨blk, off, none⟩) d.size cap, .int .i64 a, .int .i64 m, .int .i64 b, f] w fun e w' => e = .returned (.tuple #[]) ∧ ∃ k d', w' = (putRow fe w blk off d').drewN k ∧ Rot a m b d d' ∧ PermIn a b d d' := by
  have HH : Hid (Holds fe w blk off d) := hH
  have HST : Hid (w = (putRow fe w blk off d).drewN 0) := (putRow_self fe w blk off d hH).symm
  clear hH
  go_enter Try.func87, Try.ntmps87
  go_wp2
  go_loopw [10, 11] (fun vi vj wr => ∃ (i j k : Nat) (dk : Array Nat), vi = .int .i64 i ∧ vj = .int .i64 j ∧ 0 < i ∧ i ≤ m - a ∧ 0 < j ∧ j ≤ b - m ∧ dk.size = d.size ∧ wr = (putRow fe w blk off dk).drewN k ∧ Hid (PermIn a b d dk) ∧ Hid (∀ d', Rot (m - i) m (m + j) dk d' → Rot a m b d d')) (fun vi vj _ => (intOf vi).toNat + (intOf vj).toNat)
  case atStart =>
    refine ⟨m - a, b - m, 0, d, by go_num, by go_num, by omega, by omega, by omega, by omega, rfl, HST.out, permIn_refl _ _ _, ?_⟩
    intro d' h
    rw [show m - (m - a) = a by omega, show m + (b - m) = b by omega] at h
    exact h
  case round =>
    obtain ⟨i, j, k, dk, rfl, rfl, hi0, hi, hj0, hj, hs, hw, HP, HR⟩ := hrel
    rename World => W1
    have HW : Hid (W1 = (putRow fe w blk off dk).drewN k) := hw
    clear hw
    obtain ⟨p, hp⟩ : ∃ p, m - i = p := ⟨_, rfl⟩
    obtain ⟨q, hq⟩ : ∃ q, m + j - i = q := ⟨_, rfl⟩
    have e1 : (m : Int) - (i : Int) = (p : Int) := by omega
    rcases Nat.lt_trichotomy i j with hlt | heq | hgt
    · have e2 : (m : Int) + (j : Int) - (i : Int) = (q : Int) := by omega
      go_wp2_with (go_at_call 88; refine (t88r HW HH hs (by omega) (by omega) (by omega)).mono ?_; rintro e w' ⟨rfl, m', rfl⟩)
      subst hp; subst hq
      go_roundw
      case rel =>
        refine ⟨i, j - i, m', _, rfl, by go_num, by omega, by omega, by omega, by omega, (size_swapR _ _ _ _).trans hs, rfl, ?_, ?_⟩
        · exact permIn_trans _ _ _ _ _ HP.out (swapR_perm _ _ _ _ _ _ (by omega) (by omega) (by omega) (by omega))
        · intro d' h
          exact HR.out d' (rot_right (by omega) hlt (by omega) h)
      case measure => simp [intOf]; omega
    · subst heq
      go_wp2_with (go_at_call 88; refine (t88r HW HH hs (by omega) (by omega) (by omega)).mono ?_; rintro e w' ⟨rfl, m', rfl⟩)
      subst hp; clear hq
      go_end0
      exact ⟨rfl, m', _, rfl, HR.out _ (rot_same (by omega) (by omega)), permIn_trans _ _ _ _ _ HP.out (swapR_perm _ _ _ _ _ _ (by omega) (by omega) (by omega) (by omega))⟩
    · go_wp2_with (go_at_call 88; refine (t88r HW HH hs (by omega) (by omega) (by omega)).mono ?_; rintro e w' ⟨rfl, m', rfl⟩)
      subst hp; clear hq
      go_roundw
      case rel =>
        refine ⟨i - j, j, m', _, by go_num, rfl, by omega, by omega, by omega, by omega, (size_swapR _ _ _ _).trans hs, rfl, ?_, ?_⟩
        · exact permIn_trans _ _ _ _ _ HP.out (swapR_perm _ _ _ _ _ _ (by omega) (by omega) (by omega) (by omega))
        · intro d' h
          rw [show m - (i - j) = m - i + j by omega] at h
          exact HR.out d' (rot_left (by omega) hgt (by omega) h)
      case measure => simp [intOf]; omega
end Go.Proofs.Ytfggdaebahdnfaa
