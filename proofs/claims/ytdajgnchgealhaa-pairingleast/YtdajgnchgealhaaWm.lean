/- PairingLeast. -/
import Derived.Test.YtdajgnchgealhaaWl
namespace Go.Proofs.Ytdajgnchgealhaa
open Go.ChangeShapes Go.WideShapes Go.ChangeAt Go.RowKit
attribute [local go_sem] isSome_set

/-- What best tells, held against the best pairing f. -/
structure BU (w' : World) (N : Nat) (T : Nat → Nat → Int) (wh : Bool) (f : Nat → Int) (s : Nat) (fd : Bool) (x4 x5 : Int) (q : Option Addr) (l c : Nat) : Prop where
  c3 : w'.cell? ⟨s, 3, none⟩ = some (.bool fd)
  c4 : w'.cell? ⟨s, 4, none⟩ = some (.int .i64 x4)
  c5 : w'.cell? ⟨s, 5, none⟩ = some (.int .i64 x5)
  c6 : w'.cell? ⟨s, 6, none⟩ = some (.slice q l c)
  t1 : wh = true → cnt N f = N → fd = true ∧ x5 = tot N T f ∧ l = N ∧ IRo w' q N f
  t2 : wh = true → cnt N f < N → fd = false
  t3 : wh = false → x4 = cnt N f ∧ x5 = tot N T f ∧ l = N ∧ IRo w' q N f
theorem t20u {w : World} {p : Option Addr} {cap N : Nat} {R : Nat → Nat} {T : Nat → Nat → Int} {wh : Bool} {f : Nat → Int} (hT : TV w p N R T) (hf : Fin2 N R T 5 5) (hb : Best N R T f) : Calls Try.prog 20 #[.slice p N cap, .bool wh] w fun e w' => ∃ (s : Nat) (fd : Bool) (x4 x5 : Int) (q : Option Addr) (l c : Nat), e = .returned (.pointer (some ⟨s, 0, none⟩)) ∧ Hid (BU w' N T wh f s fd x4 x5 q l c) ∧ Hid (Up w w') := by
  have hg := hf.good (by omega) (by omega)
  by_cases hN : 0 < N
  · refine (t20 (M := R 0) hT hg hN hf.n (hf.r 0 hN).2 (fun i hi => (hf.r i hi).1)).mono ?_
    rintro e w' ⟨L, us, mt, fd, g, rfl, HB, HA⟩
    obtain ⟨x4, a4, b4⟩ := HB.out.c4
    obtain ⟨x5, a5, b5⟩ := HB.out.c5
    obtain ⟨q, l, c, a6, b6⟩ := HB.out.c6
    refine ⟨L.s, fd, x4, x5, q, l, c, rfl, ⟨HB.out.c3, a4, a5, a6, fun hw hc => ?_, fun hw hc => ?_, fun hw => ?_⟩, HB.out.up⟩
    · subst hw
      obtain ⟨e1, e2⟩ := (HA.out.whole hb).1 hc
      obtain ⟨gq, rfl, h1, _, _, _, h2⟩ := b6 e1
      refine ⟨e1, by rw [b5 e1]; exact tot_congr e2, h1, fun i hi => ⟨gq, 0, rfl, ?_⟩⟩
      rw [Nat.zero_add, h2 i hi, e2 i hi]
    · subst hw
      exact (HA.out.whole hb).2 hc
    · subst hw
      obtain ⟨e1, e2⟩ := HA.out.best
      have e3 := e2.uniq hb
      obtain ⟨gq, rfl, h1, _, _, _, h2⟩ := b6 e1
      refine ⟨by rw [b4 e1]; exact cnt_congr e3, by rw [b5 e1]; exact tot_congr e3, h1, fun i hi => ⟨gq, 0, rfl, ?_⟩⟩
      rw [Nat.zero_add, h2 i hi, e3 i hi]
  · obtain rfl : N = 0 := by omega
    refine t20z.mono ?_
    rintro e w' ⟨s, rfl, HA⟩
    obtain ⟨h1, h2, h3, h4, h5⟩ := HA.out
    refine ⟨s, true, 0, 0, none, 0, 0, rfl, ⟨h2, h3, h4, h5, fun _ _ => ⟨rfl, rfl, rfl, fun i hi => by omega⟩, fun _ hc => ?_, fun _ => ⟨rfl, rfl, rfl, fun i hi => by omega⟩⟩, h1⟩
    have : (0 : Int) < 0 := hc
    omega
set_option maxRecDepth 20000 in
set_option maxHeartbeats 4000000 in
theorem t4 {w : World} {p : Option Addr} {N cap : Nat} {R : Nat → Nat} {T : Nat → Nat → Int} (h : TV w p N R T) : Calls Try.prog 4 #[.slice p N cap] w fun e w' => e = .returned (.bool true) ∧ Hid (Up w w') := by
  have HT : Hid (TV w p N R T) := h
  have C19 : Hid (∀ W, Hid (Up w W) → Calls Try.prog 19 #[.slice p N cap, .int .i64 5, .int .i64 5] W (FineR W N R T 5 5)) := fun W hu => t19 (a := 5) (c := 5) (h.up hu.out) (by omega) (by omega)
  clear h
  go_enter Try.func4, Try.ntmps4
  go_wp2_with (first | (go_at_call 9; (with_reducible refine (t9 _).mono ?_); rintro e w1 ⟨rfl, HU1⟩) | (go_at_call 19; (with_reducible refine (C19.out w1 HU1).mono ?_); rintro e w2 ⟨bb, rfl, HB, k, hk⟩; subst hk; revert HB))
  intro HB
  cases bb with
  | false =>
    clear HB
    go_wp2_with (first | (go_at_call 9; (with_reducible refine (t9 _).mono ?_); rintro e w3 ⟨rfl, HU3⟩))
    go_ret
    exact ⟨rfl, HU1.out.trans ((Up.drewN _ _).trans HU3.out)⟩
  | true =>
    have HFI : Hid (Fin2 N R T 5 5) := HB.out.1 rfl
    have HG : Hid (Good N R T) := HFI.out.good (by omega) (by omega)
    have hN := HFI.out.n
    have HU2 : Hid (Up w (w1.drewN k)) := HU1.out.trans (Up.drewN _ _)
    clear HB
    have C11 : Hid (∀ W, Hid (Up w W) → Calls Try.prog 11 #[.slice p N cap] W (LeastR W N R T)) := fun W hu => t11 (HT.out.up hu.out) HG.out
    have C15 : Hid (∀ W, Hid (Up w W) → Calls Try.prog 15 #[.slice p N cap] W (MostR W N R T)) := fun W hu => t15 (HT.out.up hu.out) HG.out
    have C20 : Hid (∀ W f wh, Hid (Up w W) → Hid (Best N R T f) → Calls Try.prog 20 #[.slice p N cap, .bool wh] W fun e w' => ∃ (s : Nat) (fd : Bool) (x4 x5 : Int) (q : Option Addr) (l c : Nat), e = .returned (.pointer (some ⟨s, 0, none⟩)) ∧ Hid (BU w' N T wh f s fd x4 x5 q l c) ∧ Hid (Up W w')) := fun W f wh hu hb => t20u (HT.out.up hu.out) HFI.out hb.out
    have C13 : Hid (∀ (W W1 : World) (g : Nat) (q : Option Addr) (c : Nat) (f1 f2 : Nat → Int), IRo W1 (some ⟨g, 0, none⟩) N f1 → Up W1 W → IRo W q N f2 → (∀ i, i < N → f1 i = f2 i) → Calls Try.prog 13 #[.slice (some ⟨g, 0, none⟩) N N, .slice q N c] W fun e w' => e = .returned (.bool true) ∧ Hid (Up W w')) := fun W W1 g q c f1 f2 h1 hu h2 he => by
      refine (t13 (cp := N) (cq := c) (h1.up hu) h2 (by omega)).mono ?_
      rintro e w' ⟨rfl, k, rfl⟩
      have e4 : sameB N N f1 f2 = true := sameB_iff.2 ⟨rfl, he⟩
      exact ⟨by rw [e4], Up.drewN _ _⟩
    go_wp2_with fail
    refine (C11.out _ HU2).mono ?_
    rintro e w3 ⟨g1, f1, HB1, ⟨HC1, rfl, HR1⟩ | ⟨HC1, rfl, HU3⟩⟩
    · have HU3 : Hid (Up w w3) := HU2.out.trans HR1.out.up
      obtain ⟨t1, ht1⟩ : ∃ t, tot N T f1 = t := ⟨_, rfl⟩
      have HT1 : Hid (tot N T f1 = t1) := ht1
      rw [ht1]
      clear ht1
      go_wp2_with fail
      refine (C20.out _ f1 _ HU3 HB1).mono ?_
      rintro e w4 ⟨s4, fd4, p4, x4, q4, l4, c4, rfl, HBU, HU4⟩
      obtain ⟨e1, e2, e3, e4⟩ := HBU.out.t1 rfl HC1.out
      have hx : x4 = t1 := by rw [e2]; exact HT1.out
      have k3 := HBU.out.c3
      have k5 := HBU.out.c5
      have k6 := HBU.out.c6
      rw [e1] at k3
      rw [hx] at k5
      rw [e3] at k6
      have HU5 : Hid (Up w w4) := HU3.out.trans HU4.out
      have HS : Hid (Calls Try.prog 13 #[.slice (some ⟨g1, 0, none⟩) N N, .slice q4 N c4] w4 fun e w' => e = .returned (.bool true) ∧ Hid (Up w4 w')) := C13.out _ _ _ _ _ _ _ HR1.out.iro HU4.out e4 (fun _ _ => rfl)
      have htt : (t1 != t1) = false := by simp
      clear e1 e2 e3 e4 hx
      go_wp2_with fail
      (with_reducible refine HS.out.mono ?_)
      rintro e w5 ⟨rfl, HU6⟩
      have HU7 : Hid (Up w w5) := HU5.out.trans HU6.out
      clear k3 k5 k6
      go_wp2_with fail
      refine (C15.out _ HU7).mono ?_
      rintro e w8 ⟨g8, f8, rfl, HB8, HR8⟩
      have HU8 : Hid (Up w w8) := HU7.out.trans HR8.out.up
      obtain ⟨t8, ht8⟩ : ∃ t, tot N T f8 = t := ⟨_, rfl⟩
      obtain ⟨n8, hn8⟩ : ∃ n, cnt N f8 = n := ⟨_, rfl⟩
      have HT8 : Hid (tot N T f8 = t8 ∧ cnt N f8 = n8) := ⟨ht8, hn8⟩
      rw [ht8, hn8]
      clear ht8 hn8
      go_wp2_with fail
      refine (C20.out _ f8 _ HU8 HB8).mono ?_
      rintro e w9 ⟨s9, fd9, p9, x9, q9, l9, c9, rfl, HBV, HU9⟩
      obtain ⟨e1, e2, e3, e4⟩ := HBV.out.t3 rfl
      have j4 := HBV.out.c4
      have j5 := HBV.out.c5
      have j6 := HBV.out.c6
      rw [e1, HT8.out.2] at j4
      rw [e2, HT8.out.1] at j5
      rw [e3] at j6
      have HS8 : Hid (Calls Try.prog 13 #[.slice (some ⟨g8, 0, none⟩) N N, .slice q9 N c9] w9 fun e w' => e = .returned (.bool true) ∧ Hid (Up w9 w')) := C13.out _ _ _ _ _ _ _ HR8.out.iro HU9.out e4 (fun _ _ => rfl)
      have h88 : (n8 == n8) = true := by simp
      have h89 : (t8 == t8) = true := by simp
      clear e1 e2 e3 e4
      go_wp2_with fail
      (with_reducible refine HS8.out.mono ?_)
      rintro e w10 ⟨rfl, HU10⟩
      go_wp2_with fail
      go_ret
      exact ⟨rfl, HU8.out.trans (HU9.out.trans HU10.out)⟩
    · have HU3' : Hid (Up w w3) := HU2.out.trans HU3.out
      go_wp2_with fail
      refine (C20.out _ f1 _ HU3' HB1).mono ?_
      rintro e w5 ⟨s4, fd4, p4, x4, q4, l4, c4, rfl, HBU, HU4⟩
      have e1 := HBU.out.t2 rfl HC1.out
      have k3 := HBU.out.c3
      rw [e1] at k3
      have HU7 : Hid (Up w w5) := HU3'.out.trans HU4.out
      clear e1
      go_wp2_with fail
      refine (C15.out _ HU7).mono ?_
      rintro e w8 ⟨g8, f8, rfl, HB8, HR8⟩
      have HU8 : Hid (Up w w8) := HU7.out.trans HR8.out.up
      obtain ⟨t8, ht8⟩ : ∃ t, tot N T f8 = t := ⟨_, rfl⟩
      obtain ⟨n8, hn8⟩ : ∃ n, cnt N f8 = n := ⟨_, rfl⟩
      have HT8 : Hid (tot N T f8 = t8 ∧ cnt N f8 = n8) := ⟨ht8, hn8⟩
      rw [ht8, hn8]
      clear ht8 hn8
      go_wp2_with fail
      refine (C20.out _ f8 _ HU8 HB8).mono ?_
      rintro e w9 ⟨s9, fd9, p9, x9, q9, l9, c9, rfl, HBV, HU9⟩
      obtain ⟨e1, e2, e3, e4⟩ := HBV.out.t3 rfl
      have j4 := HBV.out.c4
      have j5 := HBV.out.c5
      have j6 := HBV.out.c6
      rw [e1, HT8.out.2] at j4
      rw [e2, HT8.out.1] at j5
      rw [e3] at j6
      have HS8 : Hid (Calls Try.prog 13 #[.slice (some ⟨g8, 0, none⟩) N N, .slice q9 N c9] w9 fun e w' => e = .returned (.bool true) ∧ Hid (Up w9 w')) := C13.out _ _ _ _ _ _ _ HR8.out.iro HU9.out e4 (fun _ _ => rfl)
      have h88 : (n8 == n8) = true := by simp
      have h89 : (t8 == t8) = true := by simp
      clear e1 e2 e3 e4
      go_wp2_with fail
      (with_reducible refine HS8.out.mono ?_)
      rintro e w10 ⟨rfl, HU10⟩
      go_wp2_with fail
      go_ret
      exact ⟨rfl, HU8.out.trans (HU9.out.trans HU10.out)⟩
end Go.Proofs.Ytdajgnchgealhaa
