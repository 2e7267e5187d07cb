/- The law's try, all of it. -/
import Derived.Test.YtdajgnchgealhaaWi
namespace Go.Proofs.Ytdajgnchgealhaa
open Go.ChangeShapes Go.WideShapes Go.ChangeAt Go.RowKit
attribute [local go_sem] isSome_set

theorem Adv.mono {N : Nat} {R : Nat → Nat} {T : Nat → Nat → Int} {wh fd fd' : Bool} {f f' : Nat → Int} {P S : (Nat → Int) → Prop} (h : Adv N R T wh P fd fd' f f') (hs : ∀ g, Cand N R T wh g → S g → P g) : Adv N R T wh S fd fd' f f' := ⟨h.c, fun g hg hS => h.all g hg (hs g hg hS), h.old⟩
/-- Those that go on from the first i rows, with a column below j for the row i. -/
def GoJ (i j : Nat) (mt g : Nat → Int) : Prop := (∀ i', i' < i → g i' = mt i') ∧ ∃ k : Nat, k < j ∧ g i = k
theorem upd_lt {mt : Nat → Int} {i : Nat} {x : Int} {i' : Nat} (h : i' < i) : upd mt i x i' = mt i' := upd_ne _ _ (by omega)
theorem cnt_next {mt : Nat → Int} {i : Nat} {x : Int} {mt0 : Nat → Int} (he : ∀ i', i' < i → mt i' = mt0 i') : cnt (i + 1) (upd mt i x) = cnt i mt0 + if x = -1 then 0 else 1 := by
  show cnt i (upd mt i x) + (if upd mt i x i = -1 then (0 : Int) else 1) = _
  rw [upd_at, cnt_congr (N := i) (a := upd mt i x) (b := mt0) (fun i' h => by rw [upd_lt h]; exact he i' h)]
theorem tot_next {mt : Nat → Int} {i : Nat} {x : Int} {T : Nat → Nat → Int} {mt0 : Nat → Int} (he : ∀ i', i' < i → mt i' = mt0 i') : tot (i + 1) T (upd mt i x) = tot i T mt0 + if x = -1 then 0 else T i x.toNat := by
  show tot i T (upd mt i x) + (if upd mt i x i = -1 then (0 : Int) else T i (upd mt i x i).toNat) = _
  rw [upd_at, tot_congr (N := i) (a := upd mt i x) (b := mt0) (fun i' h => by rw [upd_lt h]; exact he i' h)]
set_option maxRecDepth 20000 in
set_option maxHeartbeats 2000000 in
theorem t29step {w0 : World} {p : Option Addr} {cap N M : Nat} {R : Nat → Nat} {T : Nat → Nat → Int} {wh : Bool} {L : BL} (hT : TV w0 p N R T) (hg : Good N R T) (hN5 : N ≤ 5) (hM5 : M ≤ 5) (hR : ∀ i, i < N → R i = M) {i : Nat} (hiN : i < N) (IH : Hid (∀ (w : World) (us : Nat → Bool) (mt : Nat → Int) (fd : Bool) (f : Nat → Int), BS w0 w p cap N M T L us mt fd f → PF N M R T wh (i + 1) us mt → (fd = true → Cand N R T wh f) → Calls Try.prog 29 #[.pointer (some ⟨L.s, 0, none⟩), .int .i64 ((i + 1 : Nat) : Int), .int .i64 (cnt (i + 1) mt), .int .i64 (tot (i + 1) T mt), .bool wh] w (TryR w0 p cap N M R T wh L (i + 1) us mt fd f))) {w : World} {us : Nat → Bool} {mt : Nat → Int} {fd : Bool} {f : Nat → Int} (h : BS w0 w p cap N M T L us mt fd f) (hp : PF N M R T wh i us mt) (hc : fd = true → Cand N R T wh f) : Calls Try.prog 29 #[.pointer (some ⟨L.s, 0, none⟩), .int .i64 i, .int .i64 (cnt i mt), .int .i64 (tot i T mt), .bool wh] w (TryR w0 p cap N M R T wh L i us mt fd f) := by
  have hi' : (i : Int) < N := by omega
  have hne : ((i : Int) == (N : Int)) = false := beq_false_of_ne (by omega)
  have HT : Hid (TV w0 p N R T) := hT
  have HG : Hid (Good N R T) := hg
  have HB : Hid (BS w0 w p cap N M T L us mt fd f) := h
  have HP : Hid (PF N M R T wh i us mt) := hp
  have HC : Hid (fd = true → Cand N R T wh f) := hc
  have HR : Hid (R i = M) := hR i hiN
  have c0 := h.c0
  obtain ⟨b, o, qq, cq, rfl, r0, -⟩ := (hT.up h.up) i hiN
  rw [hR i hiN] at r0
  have hcb := cnt_le mt i
  have htb := tot_le (f := mt) i (fun x y hx => hg.t x y (by omega)) hp.p.at'
  have HCE : Hid (cnt i mt = cnt i mt ∧ tot i T mt = tot i T mt) := ⟨rfl, rfl⟩
  obtain ⟨P, hP⟩ : ∃ P, cnt i mt = P := ⟨_, rfl⟩
  obtain ⟨Q, hQ⟩ : ∃ Q, tot i T mt = Q := ⟨_, rfl⟩
  have HPE : Hid (cnt i mt = P ∧ tot i T mt = Q) := ⟨hP, hQ⟩
  rw [hP] at hcb
  rw [hQ] at htb
  rw [hP, hQ]
  have HROW : Hid (∀ W, Up w0 W → W.cell? ⟨b, o + i, none⟩ = some (.slice qq M cq) ∧ IRo W qq M (T i)) := fun W hu => by
    obtain ⟨b2, o2, q2, c2, ep2, r2, r3⟩ := hT i hiN
    simp only [Option.some.injEq, Addr.mk.injEq, and_true] at ep2
    obtain ⟨rfl, rfl⟩ := ep2
    rw [hR i hiN] at r2 r3
    have e2 := cell_up r2 h.up
    rw [r0] at e2
    simp only [Option.some.injEq, Value.slice.injEq, true_and] at e2
    obtain ⟨rfl, rfl⟩ := e2
    exact ⟨cell_up r2 hu, r3.up hu⟩
  clear h hp hc hT hg hR hP hQ HCE
  go_enter Try.func29, Try.ntmps29
  go_wp2_with fail
  go_loopw [95] (fun v95 wr => ∃ (j : Nat) (mj : Nat → Int) (fj : Bool) (ff : Nat → Int), j ≤ M ∧ v95 = .int .i64 j ∧ Hid (BS w0 wr (some ⟨b, o, none⟩) cap N M T L us mj fj ff) ∧ Hid ((∀ i', i' < i → mj i' = mt i') ∧ Adv N R T wh (GoJ i j mt) fd fj f ff)) (fun v95 _ => M - (intOf v95).toNat)
  case atStart => exact ⟨0, mt, fd, f, by omega, rfl, HB, fun _ _ => rfl, (Adv.start HC.out).mono (fun g _ hg => by obtain ⟨_, k, hk, _⟩ := hg; omega)⟩
  case round =>
    clear r0 c0
    obtain ⟨j, mj, fj, ff, hj, rfl, HB1, HA1⟩ := hrel
    rename World => wr
    by_cases hlt : j < M
    · obtain ⟨r0, r1⟩ := HROW.out _ HB1.out.up
      obtain ⟨b', o', rfl, t1⟩ := r1 j hlt
      have c0 := HB1.out.c0
      have c1 := HB1.out.c1
      have c2 := HB1.out.c2
      have cu := HB1.out.u j hlt
      have cm := HB1.out.m i hiN
      have hj' : (j : Int) < M := by omega
      have HP1 : Hid (PF N M R T wh i us mj) := HP.out.same HA1.out.1
      by_cases hTj : T i j < 0
      · have hTd : decide (0 ≤ T i j) = false := decide_eq_false (by omega)
        have HA2 : Hid ((∀ i', i' < i → mj i' = mt i') ∧ Adv N R T wh (GoJ i (j + 1) mt) fd fj f ff) := ⟨HA1.out.1, HA1.out.2.mono (fun g hg hS => by
          obtain ⟨h1, k2, h2, h3⟩ := hS
          refine ⟨h1, k2, ?_, h3⟩
          by_cases e : k2 = j
          · subst e
            rcases hg.p.at' i hiN with e2 | ⟨x, e2, _, e3⟩
            · omega
            · have : x = k2 := by omega
              subst this
              omega
          · omega)⟩
        generalize T i j = tij at *
        clear r1 hTj
        go_wp2_with fail
        go_roundw
        case rel => exact ⟨j + 1, mj, fj, ff, by omega, by go_num, HB1, HA2⟩
        case measure => simp [intOf]; omega
      · have hTd : decide (0 ≤ T i j) = true := decide_eq_true (by omega)
        cases huj : us j with
        | true =>
          rw [huj] at cu
          have HA2 : Hid ((∀ i', i' < i → mj i' = mt i') ∧ Adv N R T wh (GoJ i (j + 1) mt) fd fj f ff) := ⟨HA1.out.1, HA1.out.2.mono (fun g hg hS => by
            obtain ⟨h1, k2, h2, h3⟩ := hS
            refine ⟨h1, k2, ?_, h3⟩
            by_cases e : k2 = j
            · subst e
              obtain ⟨i', h4, h5⟩ := (HP.out.u k2 hlt).1 huj
              have := hg.p.inj i' i (by omega) hiN (by rw [h1 i' h4, h5, h3]) (by rw [h1 i' h4, h5]; omega)
              omega
            · omega)⟩
          generalize T i j = tij at *
          clear r1 hTj huj
          go_wp2_with fail
          go_roundw
          case rel => exact ⟨j + 1, mj, fj, ff, by omega, by go_num, HB1, HA2⟩
          case measure => simp [intOf]; omega
        | false =>
          rw [huj] at cu
          have hRi := HR.out
          have hTb := HG.out.t i j hiN (by omega)
          have fu := (HB1.out.fz j).2.1
          have fm := (HB1.out.fz i).2.2
          obtain ⟨n1, n2, n3⟩ := HB1.out.ne
          have n1' : ¬ L.u = L.s := fun e => n1 e.symm
          have n2' : ¬ L.m = L.s := fun e => n2 e.symm
          have n3' : ¬ L.m = L.u := fun e => n3 e.symm
          have HB2 : Hid (BS w0 ((wr.setCell ⟨L.u, j, none⟩ (.bool true)).setCell ⟨L.m, i, none⟩ (.int .i64 j)) (some ⟨b, o, none⟩) cap N M T L (updB us j true) (upd mj i j) fj ff) := (HB1.out.setu hlt true).setm hiN j
          have HPN : Hid (PF N M R T wh (i + 1) (updB us j true) (upd mj i j)) := HP1.out.mate (by omega) (by omega) hRi huj
          have C29 : Hid (Calls Try.prog 29 #[.pointer (some ⟨L.s, 0, none⟩), .int .i64 ((i : Int) + 1), .int .i64 (P + 1), .int .i64 (Q + T i j), .bool wh] ((wr.setCell ⟨L.u, j, none⟩ (.bool true)).setCell ⟨L.m, i, none⟩ (.int .i64 j)) (TryR w0 (some ⟨b, o, none⟩) cap N M R T wh L (i + 1) (updB us j true) (upd mj i j) fj ff)) := by
            have := IH.out _ _ _ _ _ HB2.out HPN.out HA1.out.2.c
            rw [cnt_next HA1.out.1, tot_next HA1.out.1, if_neg (show ¬ (j : Int) = -1 by omega), if_neg (show ¬ (j : Int) = -1 by omega), Int.toNat_natCast, HPE.out.1, HPE.out.2, show ((i + 1 : Nat) : Int) = (i : Int) + 1 from by omega] at this
            exact this
          obtain ⟨r0', r1'⟩ := HROW.out _ HB2.out.up
          obtain ⟨_, _, ex, t2⟩ := r1' j hlt
          simp only [Option.some.injEq, Addr.mk.injEq, and_true] at ex
          obtain ⟨rfl, rfl⟩ := ex
          have d0 := HB2.out.c0
          have HUJ : Hid (us j = false) := huj
          have hQb : -9223372036854775808 ≤ Q + T i j ∧ Q + T i j ≤ 9223372036854775807 := by omega
          generalize T i j = tij at *
          clear r1 r1' huj hTj
          go_wp2_with fail
          (with_reducible refine C29.out.mono ?_)
          rintro e w2 ⟨m2, f2, ff2, rfl, HB3, HA3⟩
          have g0 := HB3.out.c0
          have g1 := HB3.out.c1
          have gu := HB3.out.u j hlt
          have gf := (HB3.out.fz j).2.1
          have HB4 : Hid (BS w0 (w2.setCell ⟨L.u, j, none⟩ (.bool false)) (some ⟨b, o, none⟩) cap N M T L us m2 f2 ff2) := by
            have := HB3.out.setu hlt false
            rw [updB_back HUJ.out] at this
            exact this
          have HA4 : Hid ((∀ i', i' < i → m2 i' = mt i') ∧ Adv N R T wh (GoJ i (j + 1) mt) fd f2 f ff2) := by
            refine ⟨fun i' hi' => by rw [HA3.out.1 i' (by omega), upd_lt hi']; exact HA1.out.1 i' hi', HA1.out.2.and HA3.out.2 (fun g hg hS => ?_)⟩
            obtain ⟨h1, k2, h2, h3⟩ := hS
            by_cases e : k2 = j
            · subst e
              refine Or.inr (fun i' hi' => ?_)
              by_cases e2 : i' = i
              · subst e2; rw [upd_at]; exact h3
              · rw [upd_ne _ _ e2, HA1.out.1 i' (by omega)]; exact h1 i' (by omega)
            · exact Or.inl ⟨h1, k2, by omega, h3⟩
          generalize updB us j true j = ub at *
          go_wp2_with fail
          go_roundw
          case rel => exact ⟨j + 1, m2, f2, ff2, by omega, by go_num, HB4, HA4⟩
          case measure => simp [intOf]; omega
    · obtain rfl : j = M := by omega
      cases wh with
      | true =>
        have HA2 : Hid ((∀ i', i' < i → mj i' = mt i') ∧ Adv N R T true (fun g => ∀ i', i' < i → g i' = mt i') fd fj f ff) := ⟨HA1.out.1, HA1.out.2.mono (fun g hg hS => ⟨hS, by
          rcases hg.p.at' i hiN with e | ⟨x, e, hx, _⟩
          · exact absurd e (hg.f rfl i hiN)
          · exact ⟨x, by have := HR.out; omega, e⟩⟩)⟩
        go_wp2_with fail
        go_end0
        exact ⟨mj, fj, ff, rfl, HB1, HA2⟩
      | false =>
        have c2 := HB1.out.c2
        have cm := HB1.out.m i hiN
        have fm := (HB1.out.fz i).2.2
        have HP1 : Hid (PF N j R T false i us mj) := HP.out.same HA1.out.1
        have HB2 : Hid (BS w0 (wr.setCell ⟨L.m, i, none⟩ (.int .i64 (-1))) (some ⟨b, o, none⟩) cap N j T L us (upd mj i (-1)) fj ff) := HB1.out.setm hiN (-1)
        have C29 : Hid (Calls Try.prog 29 #[.pointer (some ⟨L.s, 0, none⟩), .int .i64 ((i : Int) + 1), .int .i64 P, .int .i64 Q, .bool false] (wr.setCell ⟨L.m, i, none⟩ (.int .i64 (-1))) (TryR w0 (some ⟨b, o, none⟩) cap N j R T false L (i + 1) us (upd mj i (-1)) fj ff)) := by
          have := IH.out _ _ _ _ _ HB2.out HP1.out.none HA1.out.2.c
          rw [cnt_next HA1.out.1, tot_next HA1.out.1, if_pos rfl, if_pos rfl, Int.add_zero, Int.add_zero, HPE.out.1, HPE.out.2, show ((i + 1 : Nat) : Int) = (i : Int) + 1 from by omega] at this
          exact this
        go_wp2_with fail
        (with_reducible refine C29.out.mono ?_)
        rintro e w2 ⟨m2, f2, ff2, rfl, HB3, HA3⟩
        have HA4 : Hid ((∀ i', i' < i → m2 i' = mt i') ∧ Adv N R T false (fun g => ∀ i', i' < i → g i' = mt i') fd f2 f ff2) := by
          refine ⟨fun i' hi' => by rw [HA3.out.1 i' (by omega), upd_lt hi']; exact HA1.out.1 i' hi', HA1.out.2.and HA3.out.2 (fun g hg hS => ?_)⟩
          rcases hg.p.at' i hiN with e | ⟨x, e, hx, _⟩
          · refine Or.inr (fun i' hi' => ?_)
            by_cases e2 : i' = i
            · subst e2; rw [upd_at]; exact e
            · rw [upd_ne _ _ e2, HA1.out.1 i' (by omega)]; exact hS i' (by omega)
          · exact Or.inl ⟨hS, x, by have := HR.out; omega, e⟩
        go_wp2_with fail
        go_end0
        exact ⟨m2, f2, ff2, rfl, HB3, HA4⟩
theorem t29 {w0 : World} {p : Option Addr} {cap N M : Nat} {R : Nat → Nat} {T : Nat → Nat → Int} {wh : Bool} {L : BL} (hT : TV w0 p N R T) (hg : Good N R T) (hN : 0 < N) (hN5 : N ≤ 5) (hM5 : M ≤ 5) (hR : ∀ i, i < N → R i = M) (k : Nat) : ∀ (i : Nat), N - i = k → i ≤ N → ∀ (w : World) (us : Nat → Bool) (mt : Nat → Int) (fd : Bool) (f : Nat → Int), BS w0 w p cap N M T L us mt fd f → PF N M R T wh i us mt → (fd = true → Cand N R T wh f) → Calls Try.prog 29 #[.pointer (some ⟨L.s, 0, none⟩), .int .i64 i, .int .i64 (cnt i mt), .int .i64 (tot i T mt), .bool wh] w (TryR w0 p cap N M R T wh L i us mt fd f) := by
  induction k with
  | zero =>
    intro i hk hi w us mt fd f h hp hc
    obtain rfl : i = N := by omega
    exact t29leaf h hN hN5 hp hc
  | succ k ih =>
    intro i hk hi w us mt fd f h hp hc
    exact t29step hT hg hN5 hM5 hR (by omega) (fun w us mt fd f h1 h2 h3 => ih (i + 1) (by omega) (by omega) w us mt fd f h1 h2 h3) h hp hc
end Go.Proofs.Ytdajgnchgealhaa
