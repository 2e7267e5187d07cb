/- Tables that can be read: allLong, width, tooLarge, finite. -/
import Derived.Test.YthpoipajfkfdeabCa
namespace Go.Proofs.Ythpoipajfkfdeab
open Go.ChangeShapes Go.WideShapes Go.ChangeAt Go.RowKit Go.Fl Ieee
attribute [local go_sem] run_store_float run_store_complex call43 call17 run_neg fold_eq fold_ne fold_lt fold_gt abs_eq

/-- Does F hold of all numbers below n? -/
def allN (F : Nat → Bool) : Nat → Bool
  | 0 => true
  | k + 1 => allN F k && F k
theorem allN_false {F : Nat → Bool} {i : Nat} (hi : F i = false) : ∀ n, i < n → allN F n = false
  | 0, h => by omega
  | n + 1, h => by
    unfold allN
    by_cases e : i = n
    · subst e; rw [hi, Bool.and_false]
    · rw [allN_false hi n (by omega), Bool.false_and]
theorem allN_iff {F : Nat → Bool} : ∀ n, allN F n = true ↔ ∀ i, i < n → F i = true
  | 0 => ⟨fun _ i h => by omega, fun _ => rfl⟩
  | n + 1 => by
    unfold allN
    rw [Bool.and_eq_true, allN_iff n]
    exact ⟨fun ⟨h1, h2⟩ i hi => by by_cases e : i = n; (subst e; exact h2); exact h1 i (by omega), fun h => ⟨fun i hi => h i (by omega), h n (by omega)⟩⟩
/-- A list that can be read; a table that can be. -/
def RowV (w : World) (q : Option Addr) (n : Nat) (f : Nat → Nat × Nat) : Prop := 0 < n → ∃ g k, q = some ⟨g, k, none⟩ ∧ RD w g k n f
def TR (w : World) (p : Option Addr) (n : Nat) (L : Nat → Nat) (f : Nat → Nat → Nat × Nat) : Prop := 0 < n → ∃ b o, p = some ⟨b, o, none⟩ ∧ ∀ i, i < n → ∃ q c, w.cell? ⟨b, o + i, none⟩ = some (.slice q (L i) c) ∧ L i ≤ c ∧ RowV w q (L i) (f i)
theorem RowV.up {w w' : World} {q : Option Addr} {n : Nat} {f : Nat → Nat × Nat} (h : RowV w q n f) (hu : Up w w') : RowV w' q n f := fun hn => by
  obtain ⟨g, k, e, hr⟩ := h hn
  exact ⟨g, k, e, hr.up hu⟩
theorem TR.up {w w' : World} {p : Option Addr} {n : Nat} {L : Nat → Nat} {f : Nat → Nat → Nat × Nat} (h : TR w p n L f) (hu : Up w w') : TR w' p n L f := fun hn => by
  obtain ⟨b, o, e, hr⟩ := h hn
  refine ⟨b, o, e, fun i hi => ?_⟩
  obtain ⟨q, c, h1, h2, h3⟩ := hr i hi
  exact ⟨q, c, cell_up h1 hu, h2, h3.up hu⟩
def longB (L : Nat → Nat) (m n : Nat) : Bool := allN (fun i => decide (L i = m)) n
set_option maxHeartbeats 1000000 in
theorem t12 {w : World} {p : Option Addr} {n c : Nat} {L : Nat → Nat} {f : Nat → Nat → Nat × Nat} (m : Nat) (h : TR w p n L f) (hn : n ≤ 1000000) : Calls Try.prog 12 #[.slice p n c, .int .i64 m] w (BR (longB L m n) w) := by
  have HS : Hid (TR w p n L f) := h
  clear h
  have z0 : (n : Int) ≤ 1000000 := by omega
  go_enter Try.func12, Try.ntmps12
  go_wp2
  go_loopw [6, 9] (fun _ vi wr => ∃ i : Nat, i ≤ n ∧ vi = .int .i64 i ∧ w = wr ∧ Hid (allN (fun i => decide (L i = m)) i = true)) (fun _ vi _ => n - (intOf vi).toNat)
  case atStart => exact ⟨0, by omega, rfl, rfl, rfl⟩
  case round =>
    obtain ⟨i, hi, rfl, hw, HA⟩ := hrel
    subst hw
    by_cases hlt : i < n
    · obtain ⟨b, o, rfl, hr⟩ := HS.out (by omega)
      obtain ⟨q, k, c0, -, -⟩ := hr i hlt
      obtain ⟨x, hx⟩ : ∃ x, L i = x := ⟨_, rfl⟩
      rw [hx] at c0
      have HX : Hid (L i = x) := hx
      have z1 : (i : Int) < (n : Int) := by omega
      clear hr hx
      by_cases e : x = m
      · subst e
        go_wp2
        go_roundw
        case rel => exact ⟨i + 1, by omega, by go_num, by trivial, by show (_ && decide (L i = x)) = true; rw [HA.out, HX.out]; simp⟩
        case measure => simp [intOf]; omega
      · have e1 : ((x : Int) == (m : Int)) = false := by rw [beq_eq_false_iff_ne]; omega
        go_wp2
        go_ret
        exact ⟨by rw [show longB L m n = false from allN_false (i := i) (by show decide (L i = m) = false; rw [HX.out]; exact decide_eq_false e) n hlt]; rfl, rfl⟩
    · obtain rfl : i = n := by omega
      go_wp2
      go_ret
      exact ⟨by rw [show longB L m i = true from HA.out]; rfl, rfl⟩
theorem t21z {w : World} {p : Option Addr} {c : Nat} : Calls Try.prog 21 #[.slice p 0 c] w (IR 0 w) := by
  go_enter Try.func21, Try.ntmps21
  go_wp2
  go_ret
  exact ⟨rfl, rfl⟩
theorem t21p {w : World} {p : Option Addr} {n c : Nat} {L : Nat → Nat} {f : Nat → Nat → Nat × Nat} (h : TR w p n L f) (hn : 0 < n) : Calls Try.prog 21 #[.slice p n c] w (IR (L 0) w) := by
  obtain ⟨b, o, rfl, hr⟩ := h hn
  obtain ⟨q, k, c0, -, -⟩ := hr 0 hn
  rw [Nat.add_zero] at c0
  have e1 : ((n : Int) == 0) = false := by rw [beq_eq_false_iff_ne]; omega
  have e2 : (0 : Int) < (n : Int) := by omega
  have e3 : 0 < n := hn
  clear hr h hn
  go_enter Try.func21, Try.ntmps21
  go_wp2
  go_ret
  exact ⟨rfl, rfl⟩
def widN (n : Nat) (L : Nat → Nat) : Nat := if n = 0 then 0 else L 0
theorem t21 {w : World} {p : Option Addr} {n c : Nat} {L : Nat → Nat} {f : Nat → Nat → Nat × Nat} (h : TR w p n L f) : Calls Try.prog 21 #[.slice p n c] w (IR (widN n L) w) := by
  unfold widN
  by_cases e : n = 0
  · subst e; exact t21z
  · rw [if_neg e]; exact t21p h (by omega)
/-- A table that is not too large, one that is. -/
theorem t18 {w : World} {p : Option Addr} {n c : Nat} {L : Nat → Nat} {f : Nat → Nat → Nat × Nat} (h : TR w p n L f) (hn : n ≤ 8) (hm : widN n L ≤ 100) : Calls Try.prog 18 #[.slice p n c] w (BR false w) := by
  have T : Hid (Calls Try.prog 21 #[.slice p n c] w (IR (widN n L) w)) := t21 h
  obtain ⟨m, hm'⟩ : ∃ m, widN n L = m := ⟨_, rfl⟩
  rw [hm'] at T hm
  clear h hm'
  obtain ⟨k, hk⟩ : ∃ k, n * m = k := ⟨_, rfl⟩
  have hk1 : k ≤ 800 := by rw [← hk]; exact Nat.mul_le_mul hn hm
  have e1 : (n : Int) * (m : Int) = k := by rw [← hk, Int.natCast_mul]
  obtain ⟨l, hl⟩ : ∃ l, k * n = l := ⟨_, rfl⟩
  have hl1 : l ≤ 6400 := by rw [← hl]; exact Nat.mul_le_mul hk1 hn
  have e2 : (k : Int) * (n : Int) = l := by rw [← hl, Int.natCast_mul]
  clear hk hl
  have z1 : ¬ 64 < (n : Int) := by omega
  have z2 : ¬ 16384 < (m : Int) := by omega
  have z3 : ¬ 16777216 < (l : Int) := by omega
  go_enter Try.func18, Try.ntmps18
  go_wp2_with (go_at_call 21; (with_reducible refine T.out.mono ?_); rintro e w' ⟨rfl, hw⟩; subst w')
  go_ret
  refine ⟨?_, rfl⟩
  show Ending.returned (Value.bool (decide _ || decide _ || decide _)) = _
  rw [decide_eq_false (by omega : ¬ 64 < (n : Int)), decide_eq_false (by omega : ¬ 16384 < (m : Int)), decide_eq_false (by omega : ¬ 16777216 < (l : Int))]; rfl
theorem t18l {w : World} {p : Option Addr} {n c : Nat} {L : Nat → Nat} {f : Nat → Nat → Nat × Nat} (h : TR w p n L f) (hn : 64 < n) : Calls Try.prog 18 #[.slice p n c] w (BR true w) := by
  have T : Hid (Calls Try.prog 21 #[.slice p n c] w (IR (widN n L) w)) := t21 h
  obtain ⟨m, hm'⟩ : ∃ m, widN n L = m := ⟨_, rfl⟩
  rw [hm'] at T
  clear h hm'
  have z1 : 64 < (n : Int) := by omega
  go_enter Try.func18, Try.ntmps18
  go_wp2_with (go_at_call 21; (with_reducible refine T.out.mono ?_); rintro e w' ⟨rfl, hw⟩; subst w')
  go_ret
  exact ⟨rfl, rfl⟩
def finC (p : Nat × Nat) : Bool := decide (kindF (ab p.1) (ab p.2) = 0)
def finR (f : Nat → Nat × Nat) (n : Nat) : Bool := allN (fun j => finC (f j)) n
def finT (L : Nat → Nat) (f : Nat → Nat → Nat × Nat) (n : Nat) : Bool := allN (fun i => finR (f i) (L i)) n
set_option maxHeartbeats 2000000 in
theorem t13 {w : World} {p : Option Addr} {n c : Nat} {L : Nat → Nat} {f : Nat → Nat → Nat × Nat} (h : TR w p n L f) (hn : n ≤ 1000000) (hm : ∀ i, i < n → L i ≤ 1000000) : Calls Try.prog 13 #[.slice p n c] w (BR (finT L f n) w) := by
  have HS : Hid (TR w p n L f ∧ ∀ i, i < n → L i ≤ 1000000) := ⟨h, hm⟩
  clear h hm
  have z0 : (n : Int) ≤ 1000000 := by omega
  go_enter Try.func13, Try.ntmps13
  go_wp2
  go_loopw [4, 6, 9, 13, 14, 15] (fun _ _ vi _ _ _ wr => ∃ i : Nat, i ≤ n ∧ vi = .int .i64 i ∧ w = wr ∧ Hid (allN (fun i => finR (f i) (L i)) i = true)) (fun _ _ vi _ _ _ _ => n - (intOf vi).toNat)
  case atStart => exact ⟨0, by omega, rfl, rfl, rfl⟩
  case round =>
    obtain ⟨i, hi, rfl, hw, HA⟩ := hrel
    subst hw
    by_cases hlt : i < n
    · obtain ⟨b, o, rfl, hr⟩ := HS.out.1 (by omega)
      obtain ⟨q, k, c0, -, hrd⟩ := hr i hlt
      obtain ⟨m, hx⟩ : ∃ x, L i = x := ⟨_, rfl⟩
      have hmm := HS.out.2 i hlt
      rw [hx] at c0 hrd hmm
      have HX : Hid (L i = m) := hx
      have HR : Hid (RowV w q m (f i)) := hrd
      have z1 : (i : Int) < (n : Int) := by omega
      have z2 : (m : Int) ≤ 1000000 := by omega
      clear hr hx hrd
      go_wp2
      go_loopw [6, 15] (fun _ vj wr => ∃ j : Nat, j ≤ m ∧ vj = .int .i64 j ∧ w = wr ∧ Hid (allN (fun j => finC (f i j)) j = true)) (fun _ vj _ => m - (intOf vj).toNat)
      case atStart => exact ⟨0, by omega, rfl, rfl, rfl⟩
      case round =>
        obtain ⟨j, hj, rfl, hw, HB⟩ := hrel
        subst hw
        by_cases hjt : j < m
        · obtain ⟨g, k2, rfl, hrd⟩ := HR.out (by omega)
          have c1 := hrd j hjt
          obtain ⟨x, y, hxy⟩ : ∃ x y, f i j = (x, y) := ⟨_, _, rfl⟩
          rw [hxy] at c1
          have c2 : w.cell? ⟨g, k2 + j, none⟩ = some (.complex .f64 x y) := c1
          have HXY : Hid (f i j = (x, y)) := hxy
          have z3 : (j : Int) < (m : Int) := by omega
          clear hrd c1 hxy
          obtain ⟨K, hK⟩ : ∃ K, kindF (ab x) (ab y) = K := ⟨_, rfl⟩
          have HK : Hid (kindF (ab x) (ab y) = K) := hK
          clear hK
          by_cases e : K = 0
          · subst e
            go_wp2_with (go_at_call 26; (with_reducible refine (t26k HK.out _).mono ?_); rintro e w' ⟨rfl, hw⟩; subst w')
            go_roundw
            case rel => exact ⟨j + 1, by omega, by go_num, by trivial, by show (_ && finC (f i j)) = true; rw [HB.out, HXY.out]; unfold finC; rw [HK.out]; rfl⟩
            case measure => simp [intOf]; omega
          · have e1 : (K == 0) = false := beq_false_of_ne e
            go_wp2_with (go_at_call 26; (with_reducible refine (t26k HK.out _).mono ?_); rintro e w' ⟨rfl, hw⟩; subst w')
            go_ret
            refine ⟨?_, rfl⟩
            rw [show finT L f n = false from allN_false (i := i) (by
              show finR (f i) (L i) = false
              rw [HX.out]
              exact allN_false (i := j) (by show finC (f i j) = false; rw [HXY.out]; unfold finC; rw [HK.out]; exact decide_eq_false e) m hjt) n hlt]
            rfl
        · obtain rfl : j = m := by omega
          go_wp2
          go_roundw
          case rel => exact ⟨i + 1, by omega, by go_num, by trivial, by show (_ && finR (f i) (L i)) = true; rw [HA.out, HX.out]; exact HB.out⟩
          case measure => simp [intOf]; omega
    · obtain rfl : i = n := by omega
      go_wp2
      go_ret
      exact ⟨by rw [show finT L f i = true from HA.out]; rfl, rfl⟩
end Go.Proofs.Ythpoipajfkfdeab
