/- fine; Total. -/
import Derived.Test.YtdajgnchgealhaaWa
namespace Go.Proofs.Ytdajgnchgealhaa
open Go.ChangeShapes Go.WideShapes Go.ChangeAt Go.RowKit
attribute [local go_sem] isSome_set

/-- A table that may be, with at most so many rows and columns. -/
structure Fin2 (N : Nat) (R : Nat → Nat) (T : Nat → Nat → Int) (a c : Nat) : Prop where
  n : N ≤ a
  r : ∀ i, i < N → R i = R 0 ∧ R i ≤ c
  t : ∀ i j, i < N → j < R i → T i j ≤ 1099511627776
theorem Fin2.good {N : Nat} {R : Nat → Nat} {T : Nat → Nat → Int} {a c : Nat} (h : Fin2 N R T a c) (ha : a ≤ 256) (hc : c ≤ 256) : Good N R T := ⟨by have := h.n; omega, fun i hi => ⟨by have := (h.r i hi).2; omega, (h.r i hi).1⟩, h.t⟩
def FineR (w : World) (N : Nat) (R : Nat → Nat) (T : Nat → Nat → Int) (a c : Nat) (e : Ending) (w' : World) : Prop := ∃ bb, e = .returned (.bool bb) ∧ Hid (bb = true ↔ Fin2 N R T a c) ∧ ∃ k, w' = w.drewN k
set_option maxRecDepth 20000 in
set_option maxHeartbeats 1000000 in
theorem t19 {w : World} {p : Option Addr} {N cap a c : Nat} {R : Nat → Nat} {T : Nat → Nat → Int} (h : TV w p N R T) (hc : c ≤ 256) (ha : a ≤ 256) : Calls Try.prog 19 #[.slice p N cap, .int .i64 a, .int .i64 c] w (FineR w N R T a c) := by
  have HT : Hid (TV w p N R T) := h
  clear h
  by_cases hN : a < N
  · have HD : Hid (false = true ↔ Fin2 N R T a c) := ⟨fun e => absurd e (by decide), fun e => by have := e.n; omega⟩
    have hN' : (a : Int) < N := by omega
    go_enter Try.func19, Try.ntmps19
    go_wp2_with fail
    go_ret
    exact ⟨false, rfl, HD, 0, rfl⟩
  · have hN' : (N : Int) ≤ a := by omega
    go_enter Try.func19, Try.ntmps19
    go_wp2_with fail
    go_loopw [16] (fun v wr => ∃ (i k : Nat), i ≤ N ∧ v = .int .i64 i ∧ wr = w.drewN k ∧ Hid (∀ i', i' < i → (R i' = R 0 ∧ R i' ≤ c) ∧ ∀ j, j < R i' → T i' j ≤ 1099511627776)) (fun v _ => N - (intOf v).toNat)
    case atStart => exact ⟨0, 0, by omega, rfl, rfl, fun i' h => by omega⟩
    case round =>
      obtain ⟨i, k, hi, rfl, hw, HI⟩ := hrel
      subst hw
      by_cases hlt : i < N
      · obtain ⟨b, o, q, cq, rfl, c0, c1⟩ := HT.out i hlt
        obtain ⟨b2, o2, q2, cq2, ep, c2, -⟩ := HT.out 0 (by omega)
        simp only [Option.some.injEq, Addr.mk.injEq, and_true] at ep
        obtain ⟨rfl, rfl⟩ := ep
        rw [Nat.add_zero] at c2
        have HC1 : Hid (IRo w q (R i) (T i)) := c1
        have hi' : (i : Int) < N := by omega
        have hi0 : (0 : Int) < N := by omega
        clear c1
        by_cases he : R i = R 0
        · have hb : ((R i : Int) != (R 0 : Int)) = false := by rw [he]; simp
          by_cases hcc : c < R i
          · have HD : Hid (false = true ↔ Fin2 N R T a c) := ⟨fun e => absurd e (by decide), fun e => by have := (e.r i hlt).2; omega⟩
            have hcc' : (c : Int) < R i := by omega
            generalize R i = ri at *
            generalize R 0 = r0 at *
            clear he
            go_wp2_with fail
            go_quiet (fail)
            go_wp2_with fail
            go_ret
            exact ⟨false, rfl, HD, _, by first | rfl | exact World.drewN_drewN _ _ _⟩
          · have hcc' : decide ((c : Int) < (R i : Int)) = false := decide_eq_false (by omega)
            have hcc2 : decide (c < R i) = false := decide_eq_false (by omega)
            have HRI : Hid (R i = R 0 ∧ R i ≤ c) := ⟨he, by omega⟩
            have hri : R i ≤ 256 := by omega
            generalize hrr : R i = ri at *
            generalize R 0 = r0 at *
            clear he
            go_wp2_with fail
            go_quiet (fail)
            go_wp2_with fail
            go_loopw [43] (fun v wx => ∃ (j k : Nat), j ≤ ri ∧ v = .int .i64 j ∧ wx = w.drewN k ∧ Hid (∀ j', j' < j → T i j' ≤ 1099511627776)) (fun v _ => ri - (intOf v).toNat)
            case atStart => exact ⟨0, _, by omega, rfl, by first | rfl | exact World.drewN_drewN _ _ _, fun j' h => by omega⟩
            case round =>
              obtain ⟨j, k2, hj, rfl, hw, HJ⟩ := hrel
              subst hw
              by_cases hlj : j < ri
              · obtain ⟨b', o', rfl, t1⟩ := HC1.out j (by omega)
                have hj' : (j : Int) < ri := by omega
                by_cases ht : T i j ≤ 1099511627776
                · have HJ2 : Hid (∀ j', j' < j + 1 → T i j' ≤ 1099511627776) := fun j' h => by
                    by_cases e : j' = j
                    · subst e; exact ht
                    · exact HJ.out j' (by omega)
                  generalize T i j = tij at *
                  go_wp2_with fail
                  go_roundw
                  case rel => exact ⟨j + 1, _, by omega, by go_num, by first | rfl | trivial, HJ2⟩
                  case measure => simp [intOf]; omega
                · have HD : Hid (false = true ↔ Fin2 N R T a c) := ⟨fun e => absurd e (by decide), fun e => absurd (e.t i j hlt (by omega)) ht⟩
                  have ht' : (1099511627776 : Int) < T i j := by omega
                  generalize T i j = tij at *
                  go_wp2_with fail
                  go_ret
                  exact ⟨false, rfl, HD, _, rfl⟩
              · obtain hje : j = ri := by omega
                have HI2 : Hid (∀ i', i' < i + 1 → (R i' = r0 ∧ R i' ≤ c) ∧ ∀ j, j < R i' → T i' j ≤ 1099511627776) := fun i' h => by
                  by_cases e : i' = i
                  · subst e; rw [hrr]; exact ⟨HRI.out, fun j' h' => HJ.out j' (by omega)⟩
                  · exact HI.out i' (by omega)
                have hj' : ¬ (j : Int) < ri := by omega
                clear hje
                go_wp2_with fail
                go_roundw
                case rel => exact ⟨i + 1, _, by omega, by go_num, by first | rfl | trivial, HI2⟩
                case measure => simp [intOf]; omega
        · have HD : Hid (false = true ↔ Fin2 N R T a c) := ⟨fun e => absurd e (by decide), fun e => absurd (e.r i hlt).1 he⟩
          have hb : ((R i : Int) != (R 0 : Int)) = true := by simp; omega
          generalize R i = ri at *
          generalize R 0 = r0 at *
          clear he
          go_wp2_with fail
          go_quiet (fail)
          go_wp2_with fail
          go_ret
          exact ⟨false, rfl, HD, _, by first | rfl | exact World.drewN_drewN _ _ _⟩
      · obtain rfl : i = N := by omega
        have HD : Hid (Fin2 i R T a c) := ⟨by omega, fun i' h => (HI.out i' h).1, fun i' j h1 h2 => (HI.out i' h1).2 j h2⟩
        go_wp2_with fail
        go_ret
        exact ⟨true, rfl, ⟨fun _ => HD.out, fun _ => rfl⟩, _, rfl⟩
end Go.Proofs.Ytdajgnchgealhaa
