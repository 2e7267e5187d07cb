/- Total. -/
import Derived.Test.YtdajgnchgealhaaWb
namespace Go.Proofs.Ytdajgnchgealhaa
open Go.ChangeShapes Go.WideShapes Go.ChangeAt Go.RowKit
attribute [local go_sem] isSome_set

/-- What Total leaves where there are as many mates as rows. -/
def TotR (w : World) (N : Nat) (R : Nat → Nat) (T : Nat → Nat → Int) (f : Nat → Int) (e : Ending) (w' : World) : Prop := ((Hid (IsP N R T f) ∧ e = .returned (.tuple #[.int .i64 (tot N T f), .int .i64 0])) ∨ (Hid (¬ IsP N R T f) ∧ e = .returned (.tuple #[.int .i64 0, .int .i64 170]))) ∧ Hid (Up w w')
/-- While Total goes on. -/
structure TK (w wr : World) (R : Nat → Nat) (T : Nat → Nat → Int) (f : Nat → Int) (g i : Nat) : Prop where
  lo : w.heap.size ≤ g
  p : IsP i R T f
  tk : ∀ k, k < 256 → ∃ b : Bool, wr.cell? ⟨g, k, none⟩ = some (.bool b) ∧ (b = true ↔ ∃ i', i' < i ∧ f i' = (k : Nat))
  fz : ∀ k, wr.frozen? ⟨g, k, none⟩ = false
  up : Up w wr
theorem TK.skip {w wr : World} {R : Nat → Nat} {T : Nat → Nat → Int} {f : Nat → Int} {g i : Nat} (h : TK w wr R T f g i) (hf : f i = -1) : TK w wr R T f g (i + 1) := by
  refine ⟨h.lo, ⟨fun i' hi' => ?_, fun a b ha hb he hne => ?_⟩, fun k hk => ?_, h.fz, h.up⟩
  · by_cases e : i' = i
    · subst e; exact Or.inl hf
    · exact h.p.at' i' (by omega)
  · have h1 : a ≠ i := fun e => hne (by rw [e]; exact hf)
    have h2 : b ≠ i := fun e => hne (by rw [he, e]; exact hf)
    exact h.p.inj a b (by omega) (by omega) he hne
  · obtain ⟨b, h1, h2⟩ := h.tk k hk
    refine ⟨b, h1, h2.trans ⟨fun ⟨i', h3, h4⟩ => ⟨i', by omega, h4⟩, fun ⟨i', h3, h4⟩ => ?_⟩⟩
    by_cases e : i' = i
    · rw [e, hf] at h4; omega
    · exact ⟨i', by omega, h4⟩
theorem TK.take {w wr : World} {R : Nat → Nat} {T : Nat → Nat → Int} {f : Nat → Int} {g i j : Nat} (h : TK w wr R T f g i) (hf : f i = j) (hj : j < R i) (hT : 0 ≤ T i j) (hj2 : j < 256) (hno : ¬ ∃ i', i' < i ∧ f i' = (j : Nat)) : TK w (wr.setCell ⟨g, j, none⟩ (.bool true)) R T f g (i + 1) := by
  refine ⟨h.lo, ⟨fun i' hi' => ?_, fun a b ha hb he hne => ?_⟩, fun k hk => ?_, fun k => by rw [World.frozen?_setCell]; exact h.fz k, Below.setCell h.up h.lo _⟩
  · by_cases e : i' = i
    · subst e; exact Or.inr ⟨j, hf, hj, hT⟩
    · exact h.p.at' i' (by omega)
  · by_cases h1 : a = i
    · by_cases h2 : b = i
      · omega
      · exact absurd ⟨b, by omega, by rw [← he, h1, hf]⟩ hno
    · by_cases h2 : b = i
      · exact absurd ⟨a, by omega, by rw [he, h2, hf]⟩ hno
      · exact h.p.inj a b (by omega) (by omega) he hne
  · obtain ⟨b, h1, h2⟩ := h.tk k hk
    by_cases e : k = j
    · subst e
      refine ⟨true, World.cell?_setCell_same _ _ _ h1, fun _ => ⟨i, by omega, hf⟩, fun _ => rfl⟩
    · refine ⟨b, cell_other h1 (Or.inr e), h2.trans ⟨fun ⟨i', h3, h4⟩ => ⟨i', by omega, h4⟩, fun ⟨i', h3, h4⟩ => ?_⟩⟩
      by_cases e2 : i' = i
      · rw [e2, hf] at h4; omega
      · exact ⟨i', by omega, h4⟩
set_option maxRecDepth 20000 in
theorem zero56 : ∃ Z : Array Value, (∀ w, (zeroValue 56).run Try.prog w = .ok (.agg Z) w) ∧ ∀ k, k < 256 → Z[k]? = some (.bool false) :=
  ⟨Array.replicate 256 (.bool false), fun w => by kernel_rfl, fun k hk => by rw [Array.getElem?_replicate, if_pos hk]⟩
set_option maxRecDepth 20000 in
set_option maxHeartbeats 1000000 in
theorem t17 {w : World} {p q : Option Addr} {N cap cq : Nat} {R : Nat → Nat} {T : Nat → Nat → Int} {f : Nat → Int} (h : TV w p N R T) (hq : IRo w q N f) (hg : Good N R T) : Calls Try.prog 17 #[.slice p N cap, .slice q N cq] w (TotR w N R T f) := by
  have HT : Hid (TV w p N R T) := h
  have HQ : Hid (IRo w q N f) := hq
  have HG : Hid (Good N R T) := hg
  have hN := hg.n
  have C24 : Hid (Calls Try.prog 24 #[.slice p N cap] w fun e w' => e = .returned (.int .i64 0) ∧ w' = w) := by
    refine (t24 h (by omega) (fun i hi => by have := (hg.r i hi).1; omega)).mono ?_
    rintro e w' ⟨z, h1, h2, h3⟩
    have := h2.out.good hg
    subst this
    exact ⟨h1, h3⟩
  have hb : ((N : Int) != (N : Int)) = false := by simp
  obtain ⟨Z, zv, hz⟩ := zero56
  have HZ : Hid (∀ k, k < 256 → Z[k]? = some (.bool false)) := hz
  clear h hq hg hz
  go_enter Try.func17, Try.ntmps17
  go_wp2_with (first | (go_at_call 24; (with_reducible refine C24.out.mono ?_); rintro e w' ⟨rfl, hw'⟩; subst w'))
  have HK0 : Hid (TK w (w.alloc (.cells Z 56)) R T f w.heap.size 0) := by
    refine ⟨Nat.le_refl _, ⟨fun i hi => by omega, fun a b ha => by omega⟩, fun k hk => ⟨false, ?_, fun e => absurd e (by decide), fun ⟨i', h, _⟩ => by omega⟩, fun k => World.frozen?_alloc_at _ _ _ _ rfl, Up.alloc _ _⟩
    rw [World.cell?_alloc_at _ _ _ _ rfl]; exact HZ.out k hk
  generalize w.alloc (.cells Z 56) = W1 at *
  generalize w.heap.size = g at *
  clear zv HZ
  go_loopw [7, 23] (fun v7 v23 wr => ∃ i : Nat, i ≤ N ∧ v7 = .int .i64 (tot i T f) ∧ v23 = .int .i64 i ∧ Hid (TK w wr R T f g i)) (fun _ v23 _ => N - (intOf v23).toNat)
  case atStart => exact ⟨0, by omega, rfl, rfl, HK0⟩
  case round =>
    clear HK0
    obtain ⟨i, hi, rfl, rfl, HK⟩ := hrel
    rename World => wr
    by_cases hlt : i < N
    · obtain ⟨bq, oq, rfl, cq0⟩ := (HQ.out.up HK.out.up) i hlt
      obtain ⟨b, o, qq, cqq, rfl, c0, c1⟩ := (HT.out.up HK.out.up) i hlt
      have hi' : (i : Int) < N := by omega
      have HTN : Hid (tot (i + 1) T f = tot i T f + if f i = -1 then 0 else T i (f i).toNat) := rfl
      have htb := tot_le (f := f) i (fun x y hx => HG.out.t x y (by omega)) HK.out.p.at'
      by_cases hf : f i = -1
      · have HK2 : Hid (TK w wr R T f g (i + 1)) := HK.out.skip hf
        have HT2 : Hid (tot (i + 1) T f = tot i T f) := by show _ = _; rw [HTN.out, if_pos hf]; omega
        rw [hf] at cq0
        generalize tot i T f = ti at *
        clear hf HTN
        go_wp2_with fail
        go_roundw
        case rel => exact ⟨i + 1, by omega, by rw [HT2.out], by go_num, HK2⟩
        case measure => simp [intOf]; omega
      · have hfb : (f i == -1) = false := beq_false_of_ne hf
        -- what a pairing would be
        by_cases hval : ∃ j : Nat, f i = j ∧ j < R i ∧ 0 ≤ T i j
        · obtain ⟨j, hfj, hjR, hT⟩ := hval
          have hR := (HG.out.r i hlt).1
          have hTb := HG.out.t i j hlt hjR
          obtain ⟨b', o', rfl, t1⟩ := c1 j hjR
          obtain ⟨tb, tc, tiff⟩ := HK.out.tk j (by omega)
          have fz := HK.out.fz j
          have hj1 : ¬ (j : Int) < 0 := by omega
          have hj2 : (j : Int) < R i := by omega
          have hj3 : (j : Int) < 256 := by omega
          have hT2 : decide (T i j < 0) = false := decide_eq_false (by omega)
          have HFJ : Hid (f i = j) := hfj
          rw [hfj] at cq0 hfb
          cases tb with
          | true =>
            have HD : Hid (¬ IsP N R T f) := fun hp => by
              obtain ⟨i', h1, h2⟩ := tiff.1 rfl
              have := hp.inj i' i (by omega) hlt (by rw [h2, HFJ.out]) (by rw [h2]; omega)
              omega
            generalize tot i T f = ti at *
            generalize T i j = tij at *
            generalize R i = ri at *
            clear hf hfj HTN c1 tiff
            go_wp2_with fail
            (try simp only [Exit.inBlock, Exit.then])
            go_ret2
            exact ⟨Or.inr ⟨HD, rfl⟩, HK.out.up⟩
          | false =>
            have hno : ¬ ∃ i', i' < i ∧ f i' = (j : Nat) := fun e => absurd (tiff.2 e) (by decide)
            have HK2 : Hid (TK w (wr.setCell ⟨g, j, none⟩ (.bool true)) R T f g (i + 1)) := HK.out.take hfj hjR hT (by omega) hno
            have HT2 : Hid (tot (i + 1) T f = tot i T f + T i j) := by show _ = _; rw [HTN.out, if_neg hf, hfj, Int.toNat_natCast]
            obtain ⟨_, _, _, _, ep, g0, g1⟩ := (HT.out.up HK2.out.up) i hlt
            obtain ⟨_, _, eq2, g2⟩ := g1 j hjR
            simp only [Option.some.injEq, Addr.mk.injEq, and_true] at ep
            obtain ⟨rfl, rfl⟩ := ep
            subst eq2
            generalize tot i T f = ti at *
            generalize T i j = tij at *
            generalize R i = ri at *
            clear hf hfj HTN c1 tiff hno g1
            go_wp2_with fail
            go_roundw
            case rel => exact ⟨i + 1, by omega, by rw [HT2.out], by go_num, HK2⟩
            case measure => simp [intOf]; omega
        · have HD : Hid (¬ IsP N R T f) := fun hp => by
            rcases hp.at' i hlt with e | e
            · exact hf e
            · exact hval e
          generalize hfi : f i = fi at *
          by_cases h1 : fi < 0
          · generalize tot i T f = ti at *
            clear hf hval HTN c1
            go_wp2_with fail
            (try simp only [Exit.inBlock, Exit.then])
            go_ret2
            exact ⟨Or.inr ⟨HD, rfl⟩, HK.out.up⟩
          · obtain ⟨j, rfl⟩ : ∃ j : Nat, fi = j := ⟨fi.toNat, by omega⟩
            by_cases h2 : j < R i
            · have h3 : T i j < 0 := Classical.byContradiction fun e => hval ⟨j, rfl, h2, by omega⟩
              obtain ⟨b', o', rfl, t1⟩ := c1 j h2
              have h2' : (j : Int) < R i := by omega
              have h3' : decide (T i j < 0) = true := decide_eq_true h3
              generalize tot i T f = ti at *
              generalize T i j = tij at *
              generalize R i = ri at *
              clear hf hval HTN c1
              go_wp2_with fail
              (try simp only [Exit.inBlock, Exit.then])
              go_ret2
              exact ⟨Or.inr ⟨HD, rfl⟩, HK.out.up⟩
            · have h2' : (R i : Int) ≤ j := by omega
              generalize tot i T f = ti at *
              generalize R i = ri at *
              clear hf hval HTN c1
              go_wp2_with fail
              (try simp only [Exit.inBlock, Exit.then])
              go_ret2
              exact ⟨Or.inr ⟨HD, rfl⟩, HK.out.up⟩
    · obtain rfl : i = N := by omega
      go_wp2_with fail
      (try simp only [Exit.inBlock, Exit.then])
      go_ret2
      exact ⟨Or.inl ⟨HK.out.p, rfl⟩, HK.out.up⟩
end Go.Proofs.Ytdajgnchgealhaa
