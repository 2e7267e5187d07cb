/- Maps: what their rows hold; which are no tables. -/
import Derived.Test.YtfggdaebahdnfaaIc
import Derived.BigQuiet
namespace Go.Proofs.Ytfggdaebahdnfaa
open Go.ChangeShapes Go.WideShapes Go.ChangeAt Go.RowKit Go.Fl Go.Sort
attribute [local go_sem] run_store_float run_store_func call35 call46 run_neg fold_eq fold_ne fold_lt fold_gt abs_eq

/-- A map whose rows hold these floats. -/
structure MV (w : World) (p : Option Addr) (n cap : Nat) (D : Nat → Array Nat) : Prop where
  cap : n ≤ cap
  rd : 0 < n → ∃ b o, p = some ⟨b, o, none⟩ ∧ ∀ i, i < n → ∃ q c, w.cell? ⟨b, o + i, none⟩ = some (.slice q (D i).size c) ∧ SV w q (D i).size c (D i)
  small : ∀ i, i < n → (D i).size ≤ 1152921504606846976
theorem MV.up {w w' : World} {p : Option Addr} {n cap : Nat} {D : Nat → Array Nat} (h : MV w p n cap D) (hu : Up w w') : MV w' p n cap D :=
  ⟨h.cap, fun hp => by
    obtain ⟨b, o, e, r⟩ := h.rd hp
    refine ⟨b, o, e, fun i hi => ?_⟩
    obtain ⟨q, c, h1, h2⟩ := r i hi
    exact ⟨q, c, cell_up h1 hu, h2.up hu⟩, h.small⟩
/-- How many cells the first rows have. -/
def sumS (D : Nat → Array Nat) : Nat → Nat
  | 0 => 0
  | i + 1 => sumS D i + (D i).size
def longF (D : Nat → Array Nat) : Nat → Bool
  | 0 => false
  | i + 1 => longF D i || decide (16384 < (D i).size)
def raggedF (D : Nat → Array Nat) : Nat → Bool
  | 0 => false
  | i + 1 => raggedF D i || decide ((D i).size ≠ (D 0).size)
def largeF (n : Nat) (D : Nat → Array Nat) : Bool := decide (256 < n) || longF D n || decide (262144 < sumS D n)
/-- The first error of a map's rows. -/
def mapE (n : Nat) (D : Nat → Array Nat) : Int := if largeF n D = true then 3 else if raggedF D n = true then 5 else 0
theorem longF_true {D : Nat → Array Nat} {i n : Nat} (h : i < n) (hl : 16384 < (D i).size) : longF D n = true := by
  induction n with
  | zero => omega
  | succ n ih =>
    unfold longF
    rcases Nat.lt_succ_iff_lt_or_eq.1 h with h | rfl
    · rw [ih h]; rfl
    · rw [decide_eq_true hl, Bool.or_true]
theorem raggedF_true {D : Nat → Array Nat} {i n : Nat} (h : i < n) (hl : (D i).size ≠ (D 0).size) : raggedF D n = true := by
  induction n with
  | zero => omega
  | succ n ih =>
    unfold raggedF
    rcases Nat.lt_succ_iff_lt_or_eq.1 h with h | rfl
    · rw [ih h]; rfl
    · rw [decide_eq_true hl, Bool.or_true]
theorem longF_le {D : Nat → Array Nat} {n : Nat} (h : longF D n = false) {i : Nat} (hi : i < n) : (D i).size ≤ 16384 := by
  rcases Nat.lt_or_ge 16384 (D i).size with q | q
  · rw [longF_true hi q] at h; cases h
  · exact q
theorem sumS_le {D : Nat → Array Nat} {i : Nat} (h : longF D i = false) : sumS D i ≤ 16384 * i := by
  induction i with
  | zero => exact Nat.le_refl _
  | succ i ih =>
    unfold longF at h
    simp only [Bool.or_eq_false_iff, decide_eq_false_iff_not] at h
    have := ih h.1
    unfold sumS
    omega
set_option maxHeartbeats 1000000 in
theorem t55 {w : World} {p : Option Addr} {n cap : Nat} {D : Nat → Array Nat} (h : MV w p n cap D) : Calls Try.prog 55 #[.slice p n cap] w fun e w' => e = .returned (.bool (largeF n D)) ∧ w' = w := by
  have H : Hid (MV w p n cap D) := h
  clear h
  by_cases hn : 256 < n
  · have q : (256 : Int) < (n : Int) := by omega
    go_enter Try.func55, Try.ntmps55
    go_wp2
    go_ret
    refine ⟨?_, rfl⟩
    unfold largeF; rw [decide_eq_true hn]; rfl
  have q : ¬ (256 : Int) < (n : Int) := by omega
  go_enter Try.func55, Try.ntmps55
  go_wp2
  go_loopw [3, 5, 11] (fun vs _ vi wr => ∃ i s : Nat, i ≤ n ∧ vs = .int .i64 s ∧ vi = .int .i64 i ∧ s ≤ 16384 * i ∧ Hid (s = sumS D i ∧ longF D i = false) ∧ wr = w) (fun _ _ vi _ => n - (intOf vi).toNat)
  case atStart => exact ⟨0, 0, by omega, rfl, rfl, by omega, ⟨rfl, rfl⟩, by trivial⟩
  case round =>
    obtain ⟨i, s, hin, rfl, rfl, hs, HS, hw⟩ := hrel
    subst hw
    rename World => w
    by_cases hlt : i < n
    · obtain ⟨b, o, hpe, hr⟩ := H.out.rd (by omega)
      subst hpe
      obtain ⟨q1, c1, k1, k2⟩ := hr i hlt
      obtain ⟨z, hz⟩ : ∃ z, (D i).size = z := ⟨_, rfl⟩
      rw [hz] at k1
      have zs : z ≤ 1152921504606846976 := by rw [← hz]; exact H.out.small i hlt
      have HZ : Hid _ := hz
      clear hr k2 hz
      have hl3 : (i : Int) < (n : Int) := by omega
      by_cases hlong : 16384 < z
      · have hq : (16384 : Int) < (z : Int) := by omega
        go_wp2
        go_ret
        refine ⟨?_, rfl⟩
        have e1 := longF_true (D := D) hlt (by rw [HZ.out]; exact hlong)
        unfold largeF; rw [e1, Bool.or_true]; rfl
      · have hq : ¬ (16384 : Int) < (z : Int) := by omega
        go_wp2
        go_roundw
        case rel =>
          refine ⟨i + 1, s + z, by omega, by go_num, by go_num, by omega, ⟨?_, ?_⟩, by trivial⟩
          · unfold sumS; rw [HZ.out, ← HS.out.1]
          · unfold longF; rw [HS.out.2, decide_eq_false (by rw [HZ.out]; exact hlong)]; rfl
        case measure => simp [intOf]; omega
    · have hie : n = i := by omega
      subst hie
      go_wp2
      go_ret
      refine ⟨?_, rfl⟩
      unfold largeF
      rw [HS.out.2, ← HS.out.1, decide_eq_false hn]
      simp
      omega
theorem t55k {w : World} {p : Option Addr} {n cap : Nat} {D : Nat → Array Nat} {b : Bool} (h : MV w p n cap D) (hb : largeF n D = b) : Calls Try.prog 55 #[.slice p n cap] w fun e w' => e = .returned (.bool b) ∧ w' = w := hb ▸ t55 h
set_option maxHeartbeats 1000000 in
theorem t40 {w : World} {p : Option Addr} {n cap : Nat} {D : Nat → Array Nat} (h : MV w p n cap D) : Calls Try.prog 40 #[.slice p n cap] w fun e w' => e = .returned (.int .i64 (mapE n D)) ∧ w' = w := by
  have H : Hid (MV w p n cap D) := h
  clear h
  obtain ⟨b, hb⟩ : ∃ b, largeF n D = b := ⟨_, rfl⟩
  have HB : Hid _ := hb
  clear hb
  cases b
  rotate_left
  · go_enter Try.func40, Try.ntmps40
    go_wp2_with (go_at_call 55; (with_reducible refine (t55k H.out HB.out).mono ?_); rintro e w' ⟨rfl, hw⟩; subst w')
    go_ret
    refine ⟨?_, rfl⟩
    unfold mapE; rw [if_pos HB.out]; rfl
  have hn : n ≤ 256 := by
    have := HB.out
    unfold largeF at this
    simp only [Bool.or_eq_false_iff, decide_eq_false_iff_not] at this
    omega
  go_enter Try.func40, Try.ntmps40
  go_wp2_with (go_at_call 55; (with_reducible refine (t55k H.out HB.out).mono ?_); rintro e w' ⟨rfl, hw⟩; subst w')
  go_loopw [4, 9] (fun _ vi wr => ∃ i : Nat, i ≤ n ∧ vi = .int .i64 i ∧ Hid (raggedF D i = false) ∧ wr = w) (fun _ vi _ => n - (intOf vi).toNat)
  case atStart => exact ⟨0, by omega, rfl, rfl, by trivial⟩
  case round =>
    obtain ⟨i, hin, rfl, HS, hw⟩ := hrel
    subst hw
    rename World => w
    by_cases hlt : i < n
    · obtain ⟨b, o, hpe, hr⟩ := H.out.rd (by omega)
      subst hpe
      obtain ⟨q1, c1, k1, _⟩ := hr i hlt
      obtain ⟨q0, c0, k0, _⟩ := hr 0 (by omega)
      obtain ⟨z, hz⟩ : ∃ z, (D i).size = z := ⟨_, rfl⟩
      obtain ⟨y, hy⟩ : ∃ y, (D 0).size = y := ⟨_, rfl⟩
      rw [hz] at k1
      rw [hy, Nat.add_zero] at k0
      have HZ : Hid _ := hz
      have HY : Hid _ := hy
      clear hr hz hy
      have hl3 : (i : Int) < (n : Int) := by omega
      have hl4 : (0 : Int) < (n : Int) := by omega
      by_cases he : z = y
      · have hb : ((z : Int) == (y : Int)) = true := by rw [beq_iff_eq]; omega
        go_wp2
        go_roundw
        case rel =>
          refine ⟨i + 1, by omega, by go_num, ?_, by trivial⟩
          show raggedF D (i + 1) = false
          unfold raggedF; rw [HS.out, decide_eq_false (by rw [HZ.out, HY.out]; simpa using he)]; rfl
        case measure => simp [intOf]; omega
      · have hb : ((z : Int) == (y : Int)) = false := by rw [beq_eq_false_iff_ne]; omega
        go_wp2
        go_ret
        refine ⟨?_, rfl⟩
        unfold mapE; rw [if_neg (by rw [HB.out]; decide), if_pos (raggedF_true hlt (by rw [HZ.out, HY.out]; exact he))]; rfl
    · have hie : n = i := by omega
      subst hie
      go_wp2
      go_ret
      refine ⟨?_, rfl⟩
      unfold mapE; rw [if_neg (by rw [HB.out]; decide), if_neg (by rw [HS.out]; decide)]; rfl
end Go.Proofs.Ytfggdaebahdnfaa
