/- check. -/
import Derived.Test.YtdajgnchgealhaaBj
namespace Go.Proofs.Ytdajgnchgealhaa
open Go.ChangeShapes Go.WideShapes Go.ChangeAt Go.RowKit
attribute [local go_sem] isSome_set

/-- What check tells. -/
def Chk (N : Nat) (R : Nat → Nat) (T : Nat → Nat → Int) (z : Int) : Prop :=
  (z = 3 ∧ (256 < N ∨ ∃ i, i < N ∧ 256 < R i)) ∨ (z = 5 ∧ N ≤ 256 ∧ (∀ i, i < N → R i ≤ 256) ∧ ∃ i, i < N ∧ R i ≠ R 0) ∨
  (z = 2 ∧ N ≤ 256 ∧ (∀ i, i < N → R i ≤ 256 ∧ R i = R 0) ∧ ∃ i j, i < N ∧ j < R i ∧ 1099511627776 < T i j) ∨ (z = 0 ∧ Good N R T)
set_option maxRecDepth 20000 in
set_option maxHeartbeats 1000000 in
theorem t24 {w : World} {p : Option Addr} {N cap : Nat} {R : Nat → Nat} {T : Nat → Nat → Int} (h : TV w p N R T) (hN : N < 4611686018427387904) (hR : ∀ i, i < N → R i < 4611686018427387904) : Calls Try.prog 24 #[.slice p N cap] w fun e w' => ∃ z, e = .returned (.int .i64 z) ∧ Hid (Chk N R T z) ∧ w' = w := by
  have HT : Hid (TV w p N R T) := h
  have HR : Hid (∀ i, i < N → R i < 4611686018427387904) := hR
  clear h hR
  go_enter Try.func24, Try.ntmps24
  go_wp2_with fail
  go_loopw [3, 17] (fun v3 v17 wr => ∃ (i : Nat) (lb : Bool), i ≤ N ∧ v3 = .bool lb ∧ v17 = .int .i64 i ∧ wr = w ∧ Hid (lb = true ↔ (256 < N ∨ ∃ i', i' < i ∧ 256 < R i'))) (fun _ v17 _ => N - (intOf v17).toNat)
  case atStart => exact ⟨0, decide (256 < N), by omega, by first | rfl | (congr 1; simp; omega), rfl, rfl, by
    show _ ↔ _
    rw [decide_eq_true_eq]
    exact ⟨fun e => Or.inl e, fun e => e.elim id (fun ⟨i', h1, _⟩ => by omega)⟩⟩
  case round =>
    obtain ⟨i, lb, hi, rfl, rfl, hw, HB⟩ := hrel
    subst hw
    rename World => w
    by_cases hlt : i < N
    · obtain ⟨b, o, q, cq, rfl, c0, -⟩ := HT.out i hlt
      have hi' : (i : Int) < N := by omega
      have HNB : Hid (∀ lb' : Bool, lb' = (lb || decide (256 < R i)) → (lb' = true ↔ (256 < N ∨ ∃ i', i' < i + 1 ∧ 256 < R i'))) := fun lb' e => by
        subst e
        rw [Bool.or_eq_true, decide_eq_true_eq]
        constructor
        · rintro (e | e)
          · rcases HB.out.1 e with e | ⟨i', h1, h2⟩
            · exact Or.inl e
            · exact Or.inr ⟨i', by omega, h2⟩
          · exact Or.inr ⟨i, by omega, e⟩
        · rintro (e | ⟨i', h1, h2⟩)
          · exact Or.inl (HB.out.2 (Or.inl e))
          · by_cases e : i' = i
            · subst e; exact Or.inr h2
            · exact Or.inl (HB.out.2 (Or.inr ⟨i', by omega, h2⟩))
      generalize hr : R i = ri at *
      clear hr
      cases lb with
      | true =>
        go_wp2_with fail
        go_roundw
        case rel => exact ⟨i + 1, true, by omega, rfl, by go_num, by first | rfl | trivial, HNB.out _ (by simp)⟩
        case measure => simp [intOf]; omega
      | false =>
        go_wp2_with fail
        go_roundw
        case rel => exact ⟨i + 1, decide (256 < ri), by omega, by first | rfl | (congr 1; simp; omega), by go_num, by first | rfl | trivial, HNB.out _ (by simp)⟩
        case measure => simp [intOf]; omega
    · obtain rfl : i = N := by omega
      cases lb with
      | true =>
        have HD : Hid (Chk i R T 3) := Or.inl ⟨rfl, HB.out.1 rfl⟩
        go_wp2_with fail
        go_ret
        exact ⟨3, rfl, HD, rfl⟩
      | false =>
        have HA : Hid (i ≤ 256 ∧ ∀ i', i' < i → R i' ≤ 256) := by
          have hno : ¬ (256 < i ∨ ∃ i', i' < i ∧ 256 < R i') := fun e => absurd (HB.out.2 e) (by decide)
          exact ⟨by omega, fun i' h1 => Classical.byContradiction fun h2 => hno (Or.inr ⟨i', h1, by omega⟩)⟩
        clear HB
        go_wp2_with fail
        go_loopw [31] (fun v31 wr => ∃ (k : Nat), k ≤ i ∧ v31 = .int .i64 k ∧ wr = w ∧ Hid (∀ i', i' < k → R i' = R 0)) (fun v31 _ => i - (intOf v31).toNat)
        case atStart => exact ⟨0, by omega, rfl, rfl, fun i' h1 => by omega⟩
        case round =>
          obtain ⟨k, hk, rfl, hw, HK⟩ := hrel
          subst hw
          rename World => w
          by_cases hlk : k < i
          · obtain ⟨b, o, q, cq, rfl, c0, -⟩ := HT.out k hlk
            obtain ⟨b2, o2, q2, cq2, ep, c2, -⟩ := HT.out 0 (by omega)
            simp only [Option.some.injEq, Addr.mk.injEq, and_true] at ep
            obtain ⟨rfl, rfl⟩ := ep
            rw [Nat.add_zero] at c2
            have hk' : (k : Int) < i := by omega
            have hk0 : (0 : Int) < i := by omega
            by_cases he : R k = R 0
            · have HK2 : Hid (∀ i', i' < k + 1 → R i' = R 0) := fun i' h1 => by
                by_cases e : i' = k
                · subst e; exact he
                · exact HK.out i' (by omega)
              have hb : ((R k : Int) != (R 0 : Int)) = false := by rw [he]; simp
              generalize R k = rk at *
              generalize R 0 = r0 at *
              clear he
              go_wp2_with fail
              go_roundw
              case rel => exact ⟨k + 1, by omega, by go_num, by first | rfl | trivial, HK2⟩
              case measure => simp [intOf]; omega
            · have HD : Hid (Chk i R T 5) := Or.inr (Or.inl ⟨rfl, HA.out.1, HA.out.2, k, hlk, he⟩)
              have hb : ((R k : Int) != (R 0 : Int)) = true := by simp; omega
              generalize R k = rk at *
              generalize R 0 = r0 at *
              clear he
              go_wp2_with fail
              go_ret
              exact ⟨5, rfl, HD, rfl⟩
          · obtain rfl : k = i := by omega
            go_wp2_with fail
            go_loopw [45] (fun v45 wr => ∃ (a : Nat), a ≤ k ∧ v45 = .int .i64 a ∧ wr = w ∧ Hid (∀ i' j', i' < a → j' < R i' → T i' j' ≤ 1099511627776)) (fun v45 _ => k - (intOf v45).toNat)
            case atStart => exact ⟨0, by omega, rfl, rfl, fun i' j' h1 => by omega⟩
            case round =>
              obtain ⟨a, ha, rfl, hw, HAA⟩ := hrel
              subst hw
              rename World => w
              by_cases hla : a < k
              · obtain ⟨b, o, q, cq, rfl, c0, c1⟩ := HT.out a hla
                have ha' : (a : Int) < k := by omega
                have hra := HR.out a hla
                have HC1 : Hid (IRo w q (R a) (T a)) := c1
                clear c1
                go_wp2_with fail
                go_loopw [51] (fun v51 wr => ∃ (c : Nat), c ≤ R a ∧ v51 = .int .i64 c ∧ wr = w ∧ Hid (∀ j', j' < c → T a j' ≤ 1099511627776)) (fun v51 _ => R a - (intOf v51).toNat)
                case atStart => exact ⟨0, by omega, rfl, rfl, fun j' h1 => by omega⟩
                case round =>
                  obtain ⟨c, hc, rfl, hw, HCC⟩ := hrel
                  subst hw
                  rename World => w
                  by_cases hlc : c < R a
                  · obtain ⟨b', o', rfl, t1⟩ := HC1.out c hlc
                    have hc' : (c : Int) < R a := by omega
                    by_cases ht : T a c ≤ 1099511627776
                    · have HC2 : Hid (∀ j', j' < c + 1 → T a j' ≤ 1099511627776) := fun j' h1 => by
                        by_cases e : j' = c
                        · subst e; exact ht
                        · exact HCC.out j' (by omega)
                      generalize T a c = tac at *
                      go_wp2_with fail
                      go_roundw
                      case rel => exact ⟨c + 1, by omega, by go_num, by first | rfl | trivial, HC2⟩
                      case measure => simp [intOf]; omega
                    · have HD : Hid (Chk k R T 2) := Or.inr (Or.inr (Or.inl ⟨rfl, HA.out.1, fun i' h1 => ⟨HA.out.2 i' h1, HK.out i' h1⟩, a, c, hla, hlc, by omega⟩))
                      have ht' : (1099511627776 : Int) < T a c := by omega
                      generalize T a c = tac at *
                      go_wp2_with fail
                      go_ret
                      exact ⟨2, rfl, HD, rfl⟩
                  · obtain hce : c = R a := by omega
                    have HA2 : Hid (∀ i' j', i' < a + 1 → j' < R i' → T i' j' ≤ 1099511627776) := fun i' j' h1 h2 => by
                      by_cases e : i' = a
                      · subst e; exact HCC.out j' (by omega)
                      · exact HAA.out i' j' (by omega) h2
                    have hc' : ¬ (c : Int) < R a := by omega
                    generalize R a = ra at *
                    clear hce
                    go_wp2_with fail
                    go_roundw
                    case rel => exact ⟨a + 1, by omega, by go_num, by first | rfl | trivial, HA2⟩
                    case measure => simp [intOf]; omega
              · obtain rfl : a = k := by omega
                have HD : Hid (Chk a R T 0) := Or.inr (Or.inr (Or.inr ⟨rfl, HA.out.1, fun i' h1 => ⟨HA.out.2 i' h1, HK.out i' h1⟩, fun i' j' h1 h2 => HAA.out i' j' h1 h2⟩))
                go_wp2_with fail
                go_ret
                exact ⟨0, rfl, HD, rfl⟩
end Go.Proofs.Ytdajgnchgealhaa
