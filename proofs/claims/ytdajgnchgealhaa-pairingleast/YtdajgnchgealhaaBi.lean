/- ahead. -/
import Derived.Test.YtdajgnchgealhaaMf
import Derived.Test.YtdajgnchgealhaaBh
namespace Go.Proofs.Ytdajgnchgealhaa
open Go.ChangeShapes Go.WideShapes Go.ChangeAt Go.RowKit
attribute [local go_sem] isSome_set

theorem wiP_same {s s' : Sq} (h : s'.c = s.c ∧ s'.u = s.u ∧ s'.v = s.v) (k j : Nat) : wiP s' k j = wiP s k j := by
  unfold wiP borneB
  rw [h.1, h.2.1, h.2.2]
theorem Small.same {n : Nat} {s s' : Sq} (h : Small n s) (e : s'.c = s.c ∧ s'.u = s.u ∧ s'.v = s.v) : Small n s' := by
  refine ⟨?_, ?_, ?_⟩
  · rw [e.1]; exact h.c
  · rw [e.2.1]; exact h.u
  · rw [e.2.2]; exact h.v
/-- What the loop of ahead knows. -/
structure Goes (n k held f0 : Nat) (s s1 : Sq) (z : Int) : Prop where
  at' : z = -1 ∨ ∃ j : Nat, z = j ∧ j < n ∧ wiP s k j ∧ f0 ≤ j
  no : ∀ j : Nat, j < n → wiP s k j → (z = -1 ∨ (j : Int) < z) → j ≠ held ∧ ∀ x : Nat, s.o j = x → s1.f x = -1
theorem Goes.next {n k held f0 j x : Nat} {s s1 : Sq} {z : Int} (h : Goes n k held f0 s s1 j) (hf : f0 ≤ j) (hne : j ≠ held) (hx : s.o j = x) (hfx : s1.f x = -1) (hw : WishR s1 n k (j + 1) z) (hs : s1.c = s.c ∧ s1.u = s.u ∧ s1.v = s.v) : Goes n k held f0 s s1 z := by
  have hold : ∀ j' : Nat, j' < n → wiP s k j' → j' ≤ j → j' ≠ held ∧ ∀ x : Nat, s.o j' = x → s1.f x = -1 := fun j' h1 h2 h3 => by
    by_cases e : j' = j
    · subst e
      refine ⟨hne, fun x' hx' => ?_⟩
      have : x' = x := by omega
      subst this
      exact hfx
    · exact h.no j' h1 h2 (Or.inr (by omega))
  rcases hw with ⟨rfl, hno⟩ | ⟨j2, rfl, h1, h2, h3, h4⟩
  · refine ⟨Or.inl rfl, fun j' h1 h2 _ => ?_⟩
    by_cases e : j' ≤ j
    · exact hold j' h1 h2 e
    · exact absurd (by rw [wiP_same hs]; exact h2) (hno j' (by omega) h1)
  · refine ⟨Or.inr ⟨j2, rfl, h2, by rw [← wiP_same hs]; exact h3, by omega⟩, fun j' g1 g2 g3 => ?_⟩
    by_cases e : j' ≤ j
    · exact hold j' g1 g2 e
    · exact absurd (by rw [wiP_same hs]; exact g2) (h4 j' (by omega) (by omega))
set_option maxRecDepth 20000 in
set_option maxHeartbeats 1000000 in
theorem t27 {w : World} {L : Lay} {b n k : Nat} {s : Sq} (h : SQ w L n s) (hL : L.Ok b n) (h2 : Two n k s) (hk : k < n) (hbw : b ≤ w.heap.size) (hn : n ≤ 256) : Calls Try.prog 27 #[.pointer (some ⟨L.bs, 0, none⟩), .int .i64 k] w fun e w' => ∃ s', e = .returned (.tuple #[]) ∧ Hid (SQ w' L n s') ∧ Hid (Two n (k + 1) s' ∧ s'.c = s.c) ∧ Hid (Kq L b w w') := by
  have HS : Hid (SQ w L n s) := h
  have HL : Hid (L.Ok b n) := hL
  have HT : Hid (Two n k s) := h2
  obtain ⟨held, hh, hmk, -⟩ := h2.per.m k hk
  have HMK : Hid (s.m k = held) := hmk
  have h3 := h.s3
  have e0 := h.cm k hk
  rw [hmk] at e0
  have hk' : (k : Int) < n := by omega
  have C36 : Hid (Calls Try.prog 36 #[.pointer (some ⟨L.bs, 0, none⟩), .int .i64 k, .int .i64 0] w fun e w' => ∃ z, e = .returned (.int .i64 z) ∧ Hid (WishR s n k 0 z) ∧ ∃ q, w' = w.drewN q) := t36 (a := 0) h h2.sm hk (Nat.zero_le _) hn
  clear h hL h2 hmk
  go_enter Try.func27, Try.ntmps27
  go_wp2_with (first | (go_at_call 36; (with_reducible refine C36.out.mono ?_); rintro e w1 ⟨z, rfl, HW, q, hq⟩; subst hq; revert HW))
  intro HW
  rcases HW.out with ⟨rfl, hno⟩ | ⟨f0, rfl, -, hf0, hwf, hlo⟩
  · have HT2 : Hid (Two n (k + 1) s) := HT.out.stay hk HMK.out ⟨rfl, rfl, rfl, rfl, rfl⟩ (fun τ hτ _ j hj hc => absurd (hτ.wi hk hj hc) (hno j (Nat.zero_le _) (by rw [← hj]; exact hτ.lt k hk)))
    clear hno HW
    go_wp2_with fail
    (try simp only [Exit.inBlock, Exit.then])
    refine bodyPost_ret (results_none rfl _ _ _) rfl ?_
    exact ⟨s, rfl, HS.out.drewN _, ⟨HT2.out, rfl⟩, Kq.drewN (Kq.refl _ _ _) _⟩
  · have HLO : Hid (∀ j, 0 ≤ j → j < f0 → ¬ wiP s k j) := hlo
    have HWF : Hid (wiP s k f0) := hwf
    clear hlo hwf HW
    by_cases hfh : f0 = held
    · subst hfh
      have HT2 : Hid (Two n (k + 1) s) := HT.out.stay hk HMK.out ⟨rfl, rfl, rfl, rfl, rfl⟩ (fun τ hτ _ j hj hc => ⟨HWF.out.1, Classical.byContradiction fun hlt => HLO.out j (Nat.zero_le _) (by omega) (hτ.wi hk hj hc)⟩)
      have hb1 : ((f0 : Int) == (f0 : Int)) = true := by simp
      go_wp2_with fail
      (try simp only [Exit.inBlock, Exit.then])
      refine bodyPost_ret (results_none rfl _ _ _) rfl ?_
      exact ⟨s, rfl, HS.out.drewN _, ⟨HT2.out, rfl⟩, Kq.drewN (Kq.refl _ _ _) _⟩
    · have hb1 : ((f0 : Int) == (held : Int)) = false := beq_false_of_ne (by omega)
      have C37 : Hid (Calls Try.prog 37 #[.pointer (some ⟨L.bs, 0, none⟩), .int .i64 k, .int .i64 f0] (w.drewN q) fun e w' => ∃ s', e = .returned (.tuple #[]) ∧ Hid (SQ w' L n s') ∧ Hid (Srch n k f0 held s s') ∧ Hid (Kq L b (w.drewN q) w')) := t37 (HS.out.drewN q) HL.out HT.out.per HT.out.sm HMK.out hk hh hbw hn
      have HFH : Hid (f0 ≠ held) := hfh
      clear hfh
      go_wp2_with (first | (go_at_call 37; (with_reducible refine C37.out.mono ?_); rintro e w2 ⟨s1, rfl, HS1, HR, HX⟩))
      have HX1 : Hid (Kq L b w w2) := Kq.trans (Kq.drewN (Kq.refl _ _ _) q) HX.out
      have HG0 : Hid (Goes n k held f0 s s1 f0) := ⟨Or.inr ⟨f0, rfl, hf0, HWF.out, Nat.le_refl _⟩, fun j h1 h2 h3 => absurd h2 (HLO.out j (Nat.zero_le _) (by omega))⟩
      have HSM : Hid (Small n s1) := HT.out.sm.same ⟨HR.out.same.1, HR.out.same.2.1, HR.out.same.2.2.1⟩
      clear C37 C36 h3 e0 HX
      go_loopw [6] (fun v6 wx => ∃ (z : Int) (r : Nat), v6 = .int .i64 z ∧ wx = w2.drewN r ∧ Hid (Goes n k held f0 s s1 z)) (fun v6 _ => if intOf v6 < 0 then 0 else n + 1 - (intOf v6).toNat)
      case atStart => exact ⟨f0, 0, rfl, rfl, HG0⟩
      case round =>
        clear HG0
        obtain ⟨z, r, rfl, hw, HG⟩ := hrel
        subst hw
        -- nothing was found: the row stays
        have HST : Hid ((∀ j : Nat, j < n → wiP s k j → j ≠ held → (s.c k held = 281474976710657 ∨ j < held) → ∀ x : Nat, s.o j = x → s1.f x = -1) → (wiP s k held ∨ s.c k held = 281474976710657) → (∀ x : Nat, s.o f0 = x → s1.f x = -1) → Two n (k + 1) s1) := fun hall hor hf1 => by
          refine HT.out.stay hk HMK.out HR.out.same (fun τ hτ ht j hj hc => ?_)
          have hw := hτ.wi hk hj hc
          have hjn : j < n := by rw [← hj]; exact hτ.lt k hk
          obtain ⟨x0, x1, x2, x3⟩ := HT.out.per.o f0 hf0
          obtain ⟨x, y1, y2, y3⟩ := HT.out.per.o j hjn
          by_cases hjh : j = held
          · subst hjh; exact ⟨hc, Nat.le_refl _⟩
          · have hmust := HR.out.no HT.out.per HMK.out hk hf0 x2 (hf1 x0 x2) hτ ht hj y2 hjh
            have hcc : s.c k held ≠ 281474976710657 := fun e => hmust (hall j hjn hw hjh (Or.inl e) x y2)
            refine ⟨hcc, Classical.byContradiction fun hlt => ?_⟩
            exact hmust (hall j hjn hw hjh (Or.inr (by omega)) x y2)
        rcases HG.out.at' with rfl | ⟨j, rfl, hj, hwj, hfj⟩
        · have HT2 : Hid (Two n (k + 1) s1) := HST.out (fun j h1 h2 _ _ => (HG.out.no j h1 h2 (Or.inl rfl)).2) (Classical.byContradiction fun hne => by
              have hc : s.c k held ≠ 281474976710657 := fun e => hne (Or.inr e)
              have hb : borneB s k held = true := by
                unfold borneB
                simp [HT.out.ti k held hk hh HMK.out]
              exact hne (Or.inl ⟨hc, hb⟩)) (HG.out.no f0 hf0 HWF.out (Or.inl rfl)).2
          clear HST
          go_wp2_with fail
          go_end0
          exact ⟨s1, rfl, HS1.out.drewN _, ⟨HT2.out, HR.out.same.1⟩, Kq.drewN HX1.out _⟩
        · by_cases hjh : j = held
          · subst hjh
            have hb2 : ((j : Int) != (j : Int)) = false := by simp
            have HT2 : Hid (Two n (k + 1) s1) := HST.out (fun j' h1 h2 h3 h4 => by
              rcases h4 with h4 | h4
              · exact absurd h4 hwj.1
              · exact (HG.out.no j' h1 h2 (Or.inr (by omega))).2) (Or.inl hwj) (HG.out.no f0 hf0 HWF.out (Or.inr (by have := HFH.out; omega))).2
            clear HST hwj
            go_wp2_with fail
            go_end0
            exact ⟨s1, rfl, HS1.out.drewN _, ⟨HT2.out, HR.out.same.1⟩, Kq.drewN HX1.out _⟩
          · have hb2 : ((j : Int) != (held : Int)) = true := by simp; omega
            clear HST
            obtain ⟨x, hx, hox, hmx⟩ := HT.out.per.o j hj
            have h7 := HS1.out.s7
            have h4 := HS1.out.s4
            have e1 := HS1.out.co j hj
            rw [HR.out.same.2.2.2.2, hox] at e1
            have e2 := HS1.out.cf x hx
            have hx' : (x : Int) < n := by omega
            have hj' : (j : Int) < n := by omega
            have HWJ : Hid (wiP s k j) := hwj
            have HJH : Hid (j ≠ held) := hjh
            have HOX : Hid (s.o j = x) := hox
            clear hwj hjh hox
            obtain ⟨ρ, hfr⟩ := HR.out.fr
            by_cases hfx : s1.f x = -1
            · have C36 : Hid (∀ q, Calls Try.prog 36 #[.pointer (some ⟨L.bs, 0, none⟩), .int .i64 k, .int .i64 ((j : Int) + 1)] (w2.drewN q) fun e w' => ∃ z, e = .returned (.int .i64 z) ∧ Hid (WishR s1 n k (j + 1) z) ∧ ∃ q', w' = (w2.drewN q).drewN q') := fun q => by
                have := t36 (a := j + 1) (HS1.out.drewN q) HSM.out hk (by omega) hn
                rw [show ((j + 1 : Nat) : Int) = (j : Int) + 1 from by omega] at this
                exact this
              have HFX : Hid (s1.f x = -1) := hfx
              rw [hfx] at e2
              clear hfx hfr
              go_wp2_with fail
              go_quiet (fail)
              go_wp2_with (first | (go_at_call 36; (with_reducible refine (C36.out _).mono ?_); rintro e w3 ⟨z, rfl, HW3, q3, hq3⟩; subst hq3; revert HW3))
              intro HW3
              have HG2 : Hid (Goes n k held f0 s s1 z) := HG.out.next hfj HJH.out HOX.out HFX.out HW3.out ⟨HR.out.same.1, HR.out.same.2.1, HR.out.same.2.2.1⟩
              have HM : Hid (z = -1 ∨ (j : Int) < z) := by
                rcases HW3.out with ⟨h1, _⟩ | ⟨j2, h1, h2, _⟩
                · exact Or.inl h1
                · exact Or.inr (by omega)
              clear HW3
              go_wp2_with fail
              go_roundw
              case rel => exact ⟨z, _, rfl, rfl, HG2⟩
              case measure =>
                simp only [intOf]
                show (if z < 0 then 0 else n + 1 - z.toNat) < (if (j : Int) < 0 then 0 else n + 1 - (j : Int).toNat)
                rw [if_neg (show ¬ (j : Int) < 0 by omega)]
                rcases HM.out with h1 | h1
                · rw [if_pos (show z < 0 by omega)]; omega
                · rw [if_neg (show ¬ z < 0 by omega)]; omega
            · obtain ⟨y, hy⟩ : ∃ y : Nat, s1.f x = y := by
                rcases hfr x hx with e | ⟨_, y, _, e, _⟩
                · exact absurd e hfx
                · exact ⟨y, e⟩
              have hsp : Per n s1 := by
                obtain ⟨-, -, -, g4, g5⟩ := HR.out.same
                exact ⟨by rw [g4, g5]; exact HT.out.per.m, by rw [g4, g5]; exact HT.out.per.o⟩
              have C38 : Hid (∀ q, Calls Try.prog 38 #[.pointer (some ⟨L.bs, 0, none⟩), .int .i64 k, .int .i64 j] (w2.drewN q) fun e w' => ∃ s', e = .returned (.tuple #[]) ∧ Hid (SQ w' L n s') ∧ Hid (Moved n k j s1 s') ∧ Hid (Kq L b (w2.drewN q) w')) := fun q => t38 (HS1.out.drewN q) HL.out hsp (hfr.self HR.out.same) (by rw [HR.out.same.2.2.2.1]; exact HMK.out) hk hh hj HJH.out (by rw [HR.out.same.2.2.2.2]; exact HOX.out) hfx
              have HMV : Hid (∀ s2, Moved n k j s1 s2 → Two n (k + 1) s2 ∧ s2.c = s.c) := fun s2 hm => HT.out.moved hk hj HR.out.same hfr hm HWJ.out (fun τ hτ ht j' hj' hc => Classical.byContradiction fun hlt => by
                have hw := hτ.wi hk hj' hc
                have hjn : j' < n := by rw [← hj']; exact hτ.lt k hk
                have hf0j : f0 ≤ j' := Classical.byContradiction fun hl => HLO.out j' (Nat.zero_le _) (by omega) hw
                obtain ⟨x0, x1, x2, x3⟩ := HT.out.per.o f0 hf0
                obtain ⟨x', y1, y2, y3⟩ := HT.out.per.o j' hjn
                have hno := HG.out.no j' hjn hw (Or.inr (by omega))
                have hmust := HR.out.no HT.out.per HMK.out hk hf0 x2 ((HG.out.no f0 hf0 HWF.out (Or.inr (by omega))).2 x0 x2) hτ ht hj' y2 hno.1
                exact hmust (hno.2 x' y2))
              rw [hy] at e2
              have hy0 : (0 : Int) ≤ y := by omega
              clear hfx hfr hy hsp
              go_wp2_with fail
              go_quiet (fail)
              go_wp2_with (first | (go_at_call 38; (with_reducible refine (C38.out _).mono ?_); rintro e w3 ⟨s2, rfl, HS2, HM2, HX2⟩))
              (try simp only [Exit.inBlock, Exit.then])
              refine bodyPost_ret (results_none rfl _ _ _) rfl ?_
              exact ⟨s2, rfl, HS2, HMV.out s2 HM2.out, Kq.trans (Kq.drewN HX1.out _) HX2.out⟩
end Go.Proofs.Ytdajgnchgealhaa
