/- Least; Total; same. -/
import Derived.Test.YtdajgnchgealhaaBm
namespace Go.Proofs.Ytdajgnchgealhaa
open Go.ChangeShapes Go.WideShapes Go.ChangeAt Go.RowKit
attribute [local go_sem] isSome_set

/-- A table that is refused. -/
theorem t15e {w : World} {p : Option Addr} {N cap : Nat} {R : Nat → Nat} {T : Nat → Nat → Int} {z : Int} (h : TV w p N R T) (hN : N < 4611686018427387904) (hR : ∀ i, i < N → R i < 4611686018427387904) (hz : ∀ z', Chk N R T z' → z' = z) (hne : z ≠ 0) : Calls Try.prog 15 #[.slice p N cap] w fun e w' => e = .returned (.tuple #[.slice none 0 0, .int .i64 0, .int .i64 0, .int .i64 z]) ∧ w' = w := by
  have C24 : Hid (Calls Try.prog 24 #[.slice p N cap] w fun e w' => e = .returned (.int .i64 z) ∧ w' = w) := by
    refine (t24 h hN hR).mono ?_
    rintro e w' ⟨z', h1, h2, h3⟩
    have := hz z' h2.out
    subst this
    exact ⟨h1, h3⟩
  have hb : (z != 0) = true := by simp [hne]
  clear h hN hR hz hne
  go_enter Try.func15, Try.ntmps15
  go_wp2_with (first | (go_at_call 24; (with_reducible refine C24.out.mono ?_); rintro e w' ⟨rfl, hw'⟩; subst w'))
  (try simp only [Exit.inBlock, Exit.then])
  refine bodyPost_ret (results_tmp4 rfl _ _ _) rfl ?_
  exact ⟨rfl, rfl⟩
/-- What Least leaves. -/
def LeastR (w : World) (N : Nat) (R : Nat → Nat) (T : Nat → Nat → Int) (e : Ending) (w' : World) : Prop := ∃ (g : Nat) (f : Nat → Int), Hid (Best N R T f) ∧ ((Hid (cnt N f = N) ∧ e = .returned (.tuple #[.slice (some ⟨g, 0, none⟩) N N, .int .i64 (tot N T f), .int .i64 0]) ∧ Hid (Row w w' g N f)) ∨ (Hid (cnt N f < N) ∧ e = .returned (.tuple #[.slice none 0 0, .int .i64 0, .int .i64 170]) ∧ Hid (Up w w')))
theorem t11 {w : World} {p : Option Addr} {N cap : Nat} {R : Nat → Nat} {T : Nat → Nat → Int} (h : TV w p N R T) (hg : Good N R T) : Calls Try.prog 11 #[.slice p N cap] w (LeastR w N R T) := by
  have C15 : Hid (Calls Try.prog 15 #[.slice p N cap] w (MostR w N R T)) := t15 h hg
  clear h hg
  go_enter Try.func11, Try.ntmps11
  go_wp2_with (first | (go_at_call 15; (with_reducible refine C15.out.mono ?_); rintro e w' ⟨g, f, rfl, HB, HR⟩; revert HB HR))
  intro HB HR
  have hcl := cnt_le f N
  generalize hC : cnt N f = c at *
  generalize hT : tot N T f = t at *
  by_cases hc : c < N
  · go_wp2_with fail
    (try simp only [Exit.inBlock, Exit.then])
    go_ret3
    exact ⟨g, f, HB, Or.inr ⟨by show _ < _; omega, rfl, HR.out.up⟩⟩
  · go_wp2_with fail
    (try simp only [Exit.inBlock, Exit.then])
    go_ret3
    exact ⟨g, f, HB, Or.inl ⟨by show _ = _; omega, by rw [hT]; rfl, HR⟩⟩
theorem t11e {w : World} {p : Option Addr} {N cap : Nat} {R : Nat → Nat} {T : Nat → Nat → Int} {z : Int} (h : TV w p N R T) (hN : N < 4611686018427387904) (hR : ∀ i, i < N → R i < 4611686018427387904) (hz : ∀ z', Chk N R T z' → z' = z) (hne : z ≠ 0) : Calls Try.prog 11 #[.slice p N cap] w fun e w' => e = .returned (.tuple #[.slice none 0 0, .int .i64 0, .int .i64 z]) ∧ w' = w := by
  have C15 : Hid (Calls Try.prog 15 #[.slice p N cap] w fun e w' => e = .returned (.tuple #[.slice none 0 0, .int .i64 0, .int .i64 0, .int .i64 z]) ∧ w' = w) := t15e h hN hR hz hne
  have hb : (z == 0) = false := beq_false_of_ne hne
  have hb2 : (z != 0) = true := by simp [hne]
  clear h hN hR hz hne
  go_enter Try.func11, Try.ntmps11
  go_wp2_with (first | (go_at_call 15; (with_reducible refine C15.out.mono ?_); rintro e w' ⟨rfl, hw'⟩; subst w'))
  (try simp only [Exit.inBlock, Exit.then])
  go_ret3
  exact ⟨rfl, rfl⟩
/-- Two lists of numbers. -/
def sameB (n m : Nat) (f g : Nat → Int) : Bool := decide (n = m) && (List.range n).all fun i => f i == g i
theorem sameB_iff {n m : Nat} {f g : Nat → Int} : sameB n m f g = true ↔ n = m ∧ ∀ i, i < n → f i = g i := by
  unfold sameB
  simp [List.all_eq_true]
set_option maxRecDepth 20000 in
theorem t13 {w : World} {p q : Option Addr} {n m cp cq : Nat} {f g : Nat → Int} (hp : IRo w p n f) (hq : IRo w q m g) (hn : n < 4611686018427387904) : Calls Try.prog 13 #[.slice p n cp, .slice q m cq] w fun e w' => e = .returned (.bool (sameB n m f g)) ∧ ∃ k, w' = w.drewN k := by
  have HP : Hid (IRo w p n f) := hp
  have HQ : Hid (IRo w q m g) := hq
  clear hp hq
  generalize hA : sameB n m f g = A
  have HA : Hid (A = true ↔ n = m ∧ ∀ i, i < n → f i = g i) := by rw [← hA]; exact sameB_iff
  clear hA
  by_cases hnm : n = m
  · subst hnm
    have hb : ((n : Int) != (n : Int)) = false := by simp
    go_enter Try.func13, Try.ntmps13
    go_wp2_with fail
    go_loopw [13] (fun v wr => ∃ (i k : Nat), i ≤ n ∧ v = .int .i64 i ∧ wr = w.drewN k ∧ Hid (∀ i', i' < i → f i' = g i')) (fun v _ => n - (intOf v).toNat)
    case atStart => exact ⟨0, 0, by omega, rfl, rfl, fun i' h => by omega⟩
    case round =>
      obtain ⟨i, k, hi, rfl, hw, HI⟩ := hrel
      subst hw
      by_cases hlt : i < n
      · obtain ⟨b1, o1, rfl, c1⟩ := HP.out i hlt
        obtain ⟨b2, o2, rfl, c2⟩ := HQ.out i hlt
        have hi' : (i : Int) < n := by omega
        by_cases he : f i = g i
        · have HI2 : Hid (∀ i', i' < i + 1 → f i' = g i') := fun i' h => by
            by_cases e : i' = i
            · subst e; exact he
            · exact HI.out i' (by omega)
          have hb2 : (f i != g i) = false := by simp [he]
          generalize f i = x at *
          generalize g i = y at *
          clear he
          go_wp2_with fail
          go_quiet (fail)
          go_wp2_with fail
          go_roundw
          case rel => exact ⟨i + 1, _, by omega, by go_num, rfl, HI2⟩
          case measure => simp [intOf]; omega
        · have HD : Hid (A = false) := by
            cases A with
            | false => rfl
            | true => exact absurd ((HA.out.1 rfl).2 i hlt) he
          have hb2 : (f i != g i) = true := by simp [he]
          generalize f i = x at *
          generalize g i = y at *
          clear he
          go_wp2_with fail
          go_quiet (fail)
          go_wp2_with fail
          go_ret
          exact ⟨by rw [HD.out]; rfl, _, by first | rfl | exact World.drewN_drewN _ _ _⟩
      · obtain rfl : i = n := by omega
        have HD : Hid (A = true) := HA.out.2 ⟨by first | rfl | trivial, HI.out⟩
        go_wp2_with fail
        go_ret
        exact ⟨by rw [HD.out]; rfl, _, rfl⟩
  · have HD : Hid (A = false) := by
      cases A with
      | false => rfl
      | true => exact absurd (HA.out.1 rfl).1 hnm
    have hb : ((n : Int) != (m : Int)) = true := by simp; omega
    clear hnm
    go_enter Try.func13, Try.ntmps13
    go_wp2_with fail
    go_ret
    exact ⟨by rw [HD.out]; rfl, 0, rfl⟩
end Go.Proofs.Ytdajgnchgealhaa
