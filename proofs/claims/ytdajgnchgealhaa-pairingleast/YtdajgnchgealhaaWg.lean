/- The law's ahead. -/
import Derived.Test.YtdajgnchgealhaaMi
import Derived.Test.YtdajgnchgealhaaWc
namespace Go.Proofs.Ytdajgnchgealhaa
open Go.ChangeShapes Go.WideShapes Go.ChangeAt Go.RowKit
attribute [local go_sem] isSome_set

theorem ahd_at {N i : Nat} {a b : Nat → Int} (h1 : ∀ i', i' < i → a i' = b i') (h2 : a i ≠ b i) (h3 : lq (a i) (b i)) : Ahd N a b := fun k hk he => by
  rcases (show k < i ∨ k = i ∨ i < k by omega) with e | e | e
  · rw [h1 k e]; exact lq.refl _
  · subst e; exact h3
  · exact absurd (he i e).symm h2
theorem lq_total (a b : Int) : lq a b ∨ lq b a := by
  unfold lq
  by_cases h1 : a = -1
  · exact Or.inr (Or.inl h1)
  · by_cases h2 : b = -1
    · exact Or.inl (Or.inl h2)
    · rcases (show a ≤ b ∨ b ≤ a by omega) with h | h
      · exact Or.inl (Or.inr ⟨h1, h⟩)
      · exact Or.inr (Or.inr ⟨h2, h⟩)
theorem tot_ahd {N : Nat} {f g : Nat → Int} (h : ¬ Ahd N g f) : Ahd N f g := by
  have hex : ∃ i, i < N ∧ (∀ i', i' < i → f i' = g i') ∧ ¬ lq (g i) (f i) := Classical.byContradiction fun hno => h fun i hi he => Classical.byContradiction fun hl => hno ⟨i, hi, he, hl⟩
  obtain ⟨i, hi, he, hl⟩ := hex
  exact ahd_at he (fun e => hl (by rw [e]; exact lq.refl _)) ((lq_total _ _).resolve_right hl)
def AhR (w : World) (N : Nat) (a b : Nat → Int) (e : Ending) (w' : World) : Prop := ∃ z : Bool, e = .returned (.bool z) ∧ Hid ((z = true → Ahd N a b ∧ ¬ Ahd N b a) ∧ (z = false → Ahd N b a)) ∧ ∃ k, w' = w.drewN k
set_option maxRecDepth 20000 in
theorem t39 {w : World} {p q : Option Addr} {N cp cq : Nat} {f g : Nat → Int} (hp : IRo w p N f) (hq : IRo w q N g) (hn : N < 4611686018427387904) : Calls Try.prog 39 #[.slice p N cp, .slice q N cq] w (AhR w N f g) := by
  have HP : Hid (IRo w p N f) := hp
  have HQ : Hid (IRo w q N g) := hq
  clear hp hq
  go_enter Try.func39, Try.ntmps39
  go_wp2_with fail
  go_loopw [8] (fun v wr => ∃ (i k : Nat), i ≤ N ∧ v = .int .i64 i ∧ wr = w.drewN k ∧ Hid (∀ i', i' < i → f i' = g i')) (fun v _ => N - (intOf v).toNat)
  case atStart => exact ⟨0, 0, by omega, rfl, rfl, fun i' h => by omega⟩
  case round =>
    obtain ⟨i, k, hi, rfl, hw, HI⟩ := hrel
    subst hw
    by_cases hlt : i < N
    · obtain ⟨b1, o1, rfl, c1⟩ := HP.out i hlt
      obtain ⟨b2, o2, rfl, c2⟩ := HQ.out i hlt
      have hi' : (i : Int) < N := by omega
      by_cases he : f i = g i
      · have HI2 : Hid (∀ i', i' < i + 1 → f i' = g i') := fun i' h => by
          by_cases e : i' = i
          · subst e; exact he
          · exact HI.out i' (by omega)
        have hb2 : (f i != g i) = false := by simp [he]
        generalize f i = x at *
        generalize g i = y at *
        clear he
        go_wp2_with fail
        go_quiet (fail)
        go_wp2_with fail
        go_roundw
        case rel => exact ⟨i + 1, _, by omega, by go_num, rfl, HI2⟩
        case measure => simp [intOf]; omega
      · have hb2 : (f i != g i) = true := by simp [he]
        have HA : Hid (lq (f i) (g i) → Ahd N f g ∧ ¬ Ahd N g f) := fun h => ⟨ahd_at HI.out he h, fun k => he ((ahd_at HI.out he h : Ahd N f g).anti k i hlt)⟩
        have HB : Hid (lq (g i) (f i) → Ahd N g f) := fun h => ahd_at (fun i' h' => (HI.out i' h').symm) (fun e => he e.symm) h
        generalize f i = x at *
        generalize g i = y at *
        have HE : Hid (x ≠ y) := he
        clear he
        by_cases h1 : y = -1
        · have HZ : Hid (Ahd N f g ∧ ¬ Ahd N g f) := HA.out (Or.inl h1)
          have hyb : (y == -1) = true := by simp [h1]
          clear h1
          go_wp2_with fail
          go_quiet (fail)
          go_wp2_with fail
          go_quiet (fail)
          go_wp2_with fail
          go_ret
          exact ⟨true, rfl, ⟨fun _ => HZ.out, fun e => absurd e (by decide)⟩, _, by first | rfl | exact World.drewN_drewN _ _ _ | (rw [World.drewN_drewN, World.drewN_drewN])⟩
        · have hyb : (y == -1) = false := beq_false_of_ne h1
          by_cases h2 : x = -1
          · have HZ : Hid (Ahd N g f) := HB.out (Or.inl h2)
            have hxb : (x != -1) = false := by simp [h2]
            clear h1 h2
            go_wp2_with fail
            go_quiet (fail)
            go_wp2_with fail
            go_quiet (fail)
            go_wp2_with fail
            go_ret
            exact ⟨false, rfl, ⟨fun e => absurd e (by decide), fun _ => HZ.out⟩, _, by first | rfl | exact World.drewN_drewN _ _ _ | (rw [World.drewN_drewN, World.drewN_drewN])⟩
          · have hxb : (x != -1) = true := by simp [h2]
            by_cases h3 : x < y
            · have HZ : Hid (Ahd N f g ∧ ¬ Ahd N g f) := HA.out (Or.inr ⟨h2, by omega⟩)
              clear h1 h2
              go_wp2_with fail
              go_quiet (fail)
              go_wp2_with fail
              go_quiet (fail)
              go_wp2_with fail
              go_ret
              exact ⟨true, rfl, ⟨fun _ => HZ.out, fun e => absurd e (by decide)⟩, _, by first | rfl | exact World.drewN_drewN _ _ _ | (rw [World.drewN_drewN, World.drewN_drewN])⟩
            · have HZ : Hid (Ahd N g f) := HB.out (Or.inr ⟨h1, by omega⟩)
              have h3' : decide (x < y) = false := decide_eq_false h3
              clear h1 h2
              go_wp2_with fail
              go_quiet (fail)
              go_wp2_with fail
              go_quiet (fail)
              go_wp2_with fail
              go_ret
              exact ⟨false, rfl, ⟨fun e => absurd e (by decide), fun _ => HZ.out⟩, _, by first | rfl | exact World.drewN_drewN _ _ _ | (rw [World.drewN_drewN, World.drewN_drewN])⟩
    · obtain rfl : i = N := by omega
      have HZ : Hid (Ahd i g f) := (Ahd.refl i f).congr HI.out (fun _ _ => rfl)
      go_wp2_with fail
      go_ret
      exact ⟨false, rfl, ⟨fun e => absurd e (by decide), fun _ => HZ.out⟩, _, rfl⟩
/-- What it tells is fixed. -/
theorem t39f (N : Nat) (f g : Nat → Int) (hn : N < 4611686018427387904) : ∃ z : Bool, ((z = true → Ahd N f g) ∧ (z = false → Ahd N g f)) ∧ ∀ (w : World) (p q : Option Addr) (cp cq : Nat), IRo w p N f → IRo w q N g → Calls Try.prog 39 #[.slice p N cp, .slice q N cq] w fun e w' => e = .returned (.bool z) ∧ ∃ k, w' = w.drewN k := by
  by_cases h : Ahd N g f
  · refine ⟨false, ⟨fun e => absurd e (by decide), fun _ => h⟩, fun w p q cp cq hp hq => (t39 hp hq hn).mono ?_⟩
    rintro e w' ⟨z, rfl, HZ, k, hk⟩
    cases z with
    | false => exact ⟨rfl, k, hk⟩
    | true => exact absurd h (HZ.out.1 rfl).2
  · refine ⟨true, ⟨fun _ => tot_ahd h, fun e => absurd e (by decide)⟩, fun w p q cp cq hp hq => (t39 hp hq hn).mono ?_⟩
    rintro e w' ⟨z, rfl, HZ, k, hk⟩
    cases z with
    | true => exact ⟨rfl, k, hk⟩
    | false => exact absurd (HZ.out.2 rfl) h
end Go.Proofs.Ytdajgnchgealhaa
