/- nearest. -/
import Derived.Test.YtdajgnchgealhaaMa
import Derived.Deep.RegionHeld3
import Derived.Deep.Upon
namespace Go.Proofs.Ytdajgnchgealhaa
open Go.ChangeShapes Go.WideShapes Go.ChangeAt Go.RowKit

theorem isSome_set {w : World} {a b : Addr} {v : Value} (h : (w.cell? b).isSome = true) : ((w.setCell a v).cell? b).isSome = true := by
  obtain ⟨u, hu⟩ := Option.isSome_iff_exists.1 h
  by_cases e : a = b
  · subst e; rw [World.cell?_setCell_same' _ _ _ h]; rfl
  · rw [World.cell?_setCell_other _ _ _ _ e, hu]; rfl
attribute [local go_sem] isSome_set
theorem SQ.eqv {w : World} {L : Lay} {n : Nat} {s s' : Sq} (h : SQ w L n s) (e : s = s') : SQ w L n s' := e ▸ h
set_option maxRecDepth 20000 in
set_option maxHeartbeats 1000000 in
theorem t33 {w : World} {L : Lay} {b n row d : Nat} {s : Sq} (h : SQ w L n s) (hL : L.Ok b n) (hb : Small n s) (ho : Ord n s) (hrow : row < n) (hd : d < n) (hn : n ≤ 256) : Calls Try.prog 33 #[.pointer (some ⟨L.bs, 0, none⟩), .int .i64 row, .slice (some ⟨L.bp, L.od + d, none⟩) (n - d) (n - d)] w fun e w' => ∃ s', e = .returned (.tuple #[]) ∧ Hid (SQ w' L n s') ∧ Hid (Near n s s' row d n) ∧ Hid (Kq L b w w') := by
  have HS : Hid (SQ w L n s) := h
  have HL : Hid (L.Ok b n) := hL
  have HB : Hid (Small n s) := hb
  have HO : Hid (Ord n s) := ho
  have hrow' : (row : Int) < n := by omega
  generalize hN : n - d = N
  clear h hL hb ho
  go_enter Try.func33, Try.ntmps33
  go_wp2_with fail
  go_loopw [12] (fun v12 wr => ∃ (k : Nat) (s' : Sq), k ≤ N ∧ v12 = .int .i64 k ∧ Hid (SQ wr L n s') ∧ Hid (Near n s s' row d (d + k)) ∧ Hid (Kq L b w wr)) (fun v12 _ => N - (intOf v12).toNat)
  case atStart => exact ⟨0, s, by omega, rfl, HS, Near.start HO.out row d, Kq.refl _ _ _⟩
  case round =>
    obtain ⟨k, s', hk, rfl, HS', HN, HW⟩ := hrel
    rename World => wr
    by_cases hlt : k < N
    · obtain ⟨j, hj, hdj⟩ := HO.out.at' (d + k) (by omega)
      have hdj' : s'.d (d + k) = j := by rw [HN.out.hi (d + k) (Nat.le_refl _) (by omega), hdj]
      obtain ⟨j0, hj0, hd0⟩ := (HN.out.ord HO.out (by omega)).at' d hd
      have HNX := fun s2 => HN.out.next (s2 := s2) HO.out (by omega) (by omega) hdj hd0
      have e5 := HS'.out.cd (d + k) (by omega)
      rw [hdj', ← Nat.add_assoc] at e5
      have h0 := HS'.out.s0
      have h1 := HS'.out.s1
      have h2 := HS'.out.s2
      have h6 := HS'.out.s6
      have ht := HS'.out.ct row hrow
      have hc := HS'.out.cc row j hrow hj
      have hu := HS'.out.cu row hrow
      have hv := HS'.out.cv j hj
      have hq := HS'.out.cq j hj
      have hj' : (j : Int) < n := by omega
      have hj0' : (j0 : Int) < n := by omega
      have hk' : (k : Int) < N := by omega
      have hbc := HB.out.c row j hrow hj
      have hbu := HB.out.u row hrow
      have hbv := HB.out.v j hj
      have HX : Hid (slk s' row j = s'.c row j - s'.u row - s'.v j) := rfl
      rw [← HN.out.same.1] at hbc
      rw [← HN.out.same.2.1] at hbu
      rw [← HN.out.same.2.2.1] at hbv
      obtain ⟨q, hqe⟩ : ∃ q, s'.q j = q := ⟨_, rfl⟩
      have HQ : Hid (s'.q j = q) := hqe
      rw [hqe] at hq
      clear hqe
      generalize s'.c row j = z at *
      generalize s'.u row = y at *
      generalize s'.v j = x at *
      have h7 := HS'.out.s7
      have hfj := HS'.out.cf j hj
      have fz1 := HS'.out.fc (L.oq + j)
      have fz2 := HS'.out.fp (L.of + j)
      have hne : ¬ L.bc = L.bp := HL.out.ap.2.2.2.2.2
      have hne2 : ¬ L.bs = L.bc := HL.out.ap.2.1
      have hne3 : ¬ L.bs = L.bp := HL.out.ap.2.2.1
      generalize s'.f j = f0 at *
      go_wp2_with fail
      go_quiet (fail)
      by_cases hz : z - y - x < q
      · go_wp2_with fail
        go_region
        have HS2 : Hid (SQ (((wr.drewN (nq + 1)).setCell ⟨L.bc, L.oq + j, none⟩ (.int .i64 (z - y - x))).setCell ⟨L.bp, L.of + j, none⟩ (.int .i64 row)) L n (nearV s' row j)) := by
          have e : nearV s' row j = { s' with q := upd s'.q j (z - y - x), f := upd s'.f j row } := by
            unfold nearV
            rw [HX.out, if_pos (by rw [HQ.out]; exact hz)]
          show SQ _ _ _ _
          rw [e]
          exact ((HS'.out.drewN (nq + 1)).setq HL.out hj (z - y - x)).setf HL.out hj row
        have HW2 : Hid (Kq L b w (((wr.drewN (nq + 1)).setCell ⟨L.bc, L.oq + j, none⟩ (.int .i64 (z - y - x))).setCell ⟨L.bp, L.of + j, none⟩ (.int .i64 row))) := Kq.setCell (Kq.setCell (Kq.drewN HW.out _) HL.out.st.2.2.1 (Or.inl rfl) _) HL.out.st.2.2.2 (Or.inr rfl) _
        generalize ((wr.drewN (nq + 1)).setCell ⟨L.bc, L.oq + j, none⟩ (.int .i64 (z - y - x))).setCell ⟨L.bp, L.of + j, none⟩ (.int .i64 row) = W at *
        clear HQ h0 h1 h2 h6 ht hc hu hv hq h7 hfj fz1 fz2 e5 HX
        have HDD := (nearV_d s' row j).1
        generalize nearV s' row j = s1 at *
        generalize nq = nq0 at *

        have HN2 := HNX
        have HD1 : Hid (s1.d = s'.d) := HDD
        have h6 := HS2.out.s6
        have h4 := HS2.out.s4
        have g1 := HS2.out.cq j hj
        have g2 := HS2.out.cq j0 hj0
        have g3 := HS2.out.co j hj
        have g4 := HS2.out.co j0 hj0
        have e5 := HS2.out.cd (d + k) (by omega)
        rw [HD1.out, hdj', ← Nat.add_assoc] at e5
        have e6 := HS2.out.cd d hd
        rw [HD1.out, hd0] at e6
        have fz1 := HS2.out.fp (L.od + d)
        have fz2 := HS2.out.fp (L.od + d + k)
        have hN0 : (0 : Int) < N := by omega
        have HNS : Hid (∀ s2, s2 = s1 ∧ s1.q j0 ≤ s1.q j ∨ s2 = { s1 with d := upd (upd s'.d d ↑j) (d + k) ↑j0 } ∧ s1.q j ≤ s1.q j0 → Near n s s2 row d (d + k + 1)) := HNX
        have HK : Hid (k = 0 → s1.q j = s1.q j0 ∧ s1.o j = s1.o j0) := fun e => by
          have e1 : (j : Int) = j0 := by rw [← hdj', ← hd0, e]; rfl
          have e2 : j = j0 := by omega
          rw [e2]; exact ⟨rfl, rfl⟩
        clear HNX HN2 HDD hdj hdj' hd0
        generalize hq1 : s1.q j = q1 at *
        generalize hq0 : s1.q j0 = q0 at *
        generalize ho1 : s1.o j = o1 at *
        generalize ho0 : s1.o j0 = o0 at *
        have swap : ∀ W', SQ W' L n s1 → Kq L b w W' → q1 ≤ q0 → ∃ s2, SQ ((W'.setCell ⟨L.bp, L.od + d, none⟩ (.int .i64 j)).setCell ⟨L.bp, L.od + d + k, none⟩ (.int .i64 j0)) L n s2 ∧ Near n s s2 row d (d + k + 1) ∧ Kq L b w ((W'.setCell ⟨L.bp, L.od + d, none⟩ (.int .i64 j)).setCell ⟨L.bp, L.od + d + k, none⟩ (.int .i64 j0)) := fun W' hS hW hq => by
          refine ⟨_, ?_, HNS.out _ (Or.inr ⟨rfl, hq⟩), Kq.setCell (Kq.setCell hW HL.out.st.2.2.2 (Or.inr rfl) _) HL.out.st.2.2.2 (Or.inr rfl) _⟩
          have := (hS.setd HL.out hd j).setd HL.out (j := d + k) (by omega) j0
          rw [← Nat.add_assoc, HD1.out] at this
          exact this
        have SWAP : Hid (∀ W', SQ W' L n s1 → Kq L b w W' → q1 ≤ q0 → ∃ s2, SQ ((W'.setCell ⟨L.bp, L.od + d, none⟩ (.int .i64 j)).setCell ⟨L.bp, L.od + d + k, none⟩ (.int .i64 j0)) L n s2 ∧ Near n s s2 row d (d + k + 1) ∧ Kq L b w ((W'.setCell ⟨L.bp, L.od + d, none⟩ (.int .i64 j)).setCell ⟨L.bp, L.od + d + k, none⟩ (.int .i64 j0))) := swap
        clear swap hq1 hq0 ho1 ho0
        rcases (show q1 < q0 ∨ q1 = q0 ∨ q0 < q1 by omega) with hq | hq | hq
        · have HQ2 : Hid (q1 ≤ q0) := by show _ ≤ _; omega
          have hk0 : ¬ k = 0 := fun e => by have := (HK.out e).1; omega
          try go_wp2_with fail
          go_quiet (fail)
          go_wp2_with fail
          obtain ⟨s2, S1, S2, S3⟩ := SWAP.out _ (HS2.out.drewN nq) (Kq.drewN HW2.out nq) HQ2.out
          have S1' : Hid (SQ _ L n s2) := S1
          have S2' : Hid (Near n s s2 row d (d + k + 1)) := S2
          have S3' : Hid (Kq L b w _) := S3
          clear S1 S2 S3
          go_roundw
          case rel => exact ⟨k + 1, s2, by omega, by go_num, S1'.out, S2'.out, S3'.out⟩
          case measure => simp [intOf]; omega
        · subst hq
          have hqq : (q1 == q1) = true := by simp
          by_cases hoo : o1 < o0
          · have hk0 : ¬ k = 0 := fun e => by have := (HK.out e).2; omega
            try go_wp2_with fail
            go_quiet (fail)
            go_wp2_with fail
            obtain ⟨s2, S1, S2, S3⟩ := SWAP.out _ (HS2.out.drewN nq) (Kq.drewN HW2.out nq) (Int.le_refl _)
            have S1' : Hid (SQ _ L n s2) := S1
            have S2' : Hid (Near n s s2 row d (d + k + 1)) := S2
            have S3' : Hid (Kq L b w _) := S3
            clear S1 S2 S3
            go_roundw
            case rel => exact ⟨k + 1, s2, by omega, by go_num, S1'.out, S2'.out, S3'.out⟩
            case measure => simp [intOf]; omega
          · have S2' : Hid (Near n s s1 row d (d + k + 1)) := HNS.out _ (Or.inl ⟨rfl, Int.le_refl _⟩)
            have hod : decide (o1 < o0) = false := decide_eq_false hoo
            try go_wp2_with fail
            go_quiet (fail)
            go_wp2_with fail
            go_roundw
            case rel => exact ⟨k + 1, s1, by omega, by go_num, HS2.out.drewN _, S2'.out, Kq.drewN HW2.out _⟩
            case measure => simp [intOf]; omega
        · have S2' : Hid (Near n s s1 row d (d + k + 1)) := HNS.out _ (Or.inl ⟨rfl, by omega⟩)
          have hqq : (q1 == q0) = false := beq_false_of_ne (by omega)
          have hqd : decide (q1 < q0) = false := decide_eq_false (by omega)
          try go_wp2_with fail
          go_quiet (fail)
          go_wp2_with fail
          go_roundw
          case rel => exact ⟨k + 1, s1, by omega, by go_num, HS2.out.drewN _, S2'.out, Kq.drewN HW2.out _⟩
          case measure => simp [intOf]; omega
      · have HS2 : Hid (SQ (wr.drewN nq) L n (nearV s' row j)) := by
          have e : nearV s' row j = s' := by
            unfold nearV
            rw [HX.out, if_neg (by rw [HQ.out]; exact hz)]
          show SQ _ _ _ _
          rw [e]
          exact HS'.out.drewN nq
        have HW2 : Hid (Kq L b w (wr.drewN nq)) := Kq.drewN HW.out _
        have e6 := HS'.out.cd d hd
        rw [hd0] at e6
        have hN0 : (0 : Int) < N := by omega
        go_wp2_with fail
        clear e6 hN0
        generalize wr.drewN nq = W at *
        clear HQ h0 h1 h2 h6 ht hc hu hv hq h7 hfj fz1 fz2 e5 HX
        have HDD := (nearV_d s' row j).1
        generalize nearV s' row j = s1 at *
        generalize nq = nq0 at *

        have HN2 := HNX
        have HD1 : Hid (s1.d = s'.d) := HDD
        have h6 := HS2.out.s6
        have h4 := HS2.out.s4
        have g1 := HS2.out.cq j hj
        have g2 := HS2.out.cq j0 hj0
        have g3 := HS2.out.co j hj
        have g4 := HS2.out.co j0 hj0
        have e5 := HS2.out.cd (d + k) (by omega)
        rw [HD1.out, hdj', ← Nat.add_assoc] at e5
        have e6 := HS2.out.cd d hd
        rw [HD1.out, hd0] at e6
        have fz1 := HS2.out.fp (L.od + d)
        have fz2 := HS2.out.fp (L.od + d + k)
        have hN0 : (0 : Int) < N := by omega
        have HNS : Hid (∀ s2, s2 = s1 ∧ s1.q j0 ≤ s1.q j ∨ s2 = { s1 with d := upd (upd s'.d d ↑j) (d + k) ↑j0 } ∧ s1.q j ≤ s1.q j0 → Near n s s2 row d (d + k + 1)) := HNX
        have HK : Hid (k = 0 → s1.q j = s1.q j0 ∧ s1.o j = s1.o j0) := fun e => by
          have e1 : (j : Int) = j0 := by rw [← hdj', ← hd0, e]; rfl
          have e2 : j = j0 := by omega
          rw [e2]; exact ⟨rfl, rfl⟩
        clear HNX HN2 HDD hdj hdj' hd0
        generalize hq1 : s1.q j = q1 at *
        generalize hq0 : s1.q j0 = q0 at *
        generalize ho1 : s1.o j = o1 at *
        generalize ho0 : s1.o j0 = o0 at *
        have swap : ∀ W', SQ W' L n s1 → Kq L b w W' → q1 ≤ q0 → ∃ s2, SQ ((W'.setCell ⟨L.bp, L.od + d, none⟩ (.int .i64 j)).setCell ⟨L.bp, L.od + d + k, none⟩ (.int .i64 j0)) L n s2 ∧ Near n s s2 row d (d + k + 1) ∧ Kq L b w ((W'.setCell ⟨L.bp, L.od + d, none⟩ (.int .i64 j)).setCell ⟨L.bp, L.od + d + k, none⟩ (.int .i64 j0)) := fun W' hS hW hq => by
          refine ⟨_, ?_, HNS.out _ (Or.inr ⟨rfl, hq⟩), Kq.setCell (Kq.setCell hW HL.out.st.2.2.2 (Or.inr rfl) _) HL.out.st.2.2.2 (Or.inr rfl) _⟩
          have := (hS.setd HL.out hd j).setd HL.out (j := d + k) (by omega) j0
          rw [← Nat.add_assoc, HD1.out] at this
          exact this
        have SWAP : Hid (∀ W', SQ W' L n s1 → Kq L b w W' → q1 ≤ q0 → ∃ s2, SQ ((W'.setCell ⟨L.bp, L.od + d, none⟩ (.int .i64 j)).setCell ⟨L.bp, L.od + d + k, none⟩ (.int .i64 j0)) L n s2 ∧ Near n s s2 row d (d + k + 1) ∧ Kq L b w ((W'.setCell ⟨L.bp, L.od + d, none⟩ (.int .i64 j)).setCell ⟨L.bp, L.od + d + k, none⟩ (.int .i64 j0))) := swap
        clear swap hq1 hq0 ho1 ho0
        rcases (show q1 < q0 ∨ q1 = q0 ∨ q0 < q1 by omega) with hq | hq | hq
        · have HQ2 : Hid (q1 ≤ q0) := by show _ ≤ _; omega
          have hk0 : ¬ k = 0 := fun e => by have := (HK.out e).1; omega
          try go_wp2_with fail
          go_quiet (fail)
          go_wp2_with fail
          obtain ⟨s2, S1, S2, S3⟩ := SWAP.out _ (HS2.out.drewN nq) (Kq.drewN HW2.out nq) HQ2.out
          have S1' : Hid (SQ _ L n s2) := S1
          have S2' : Hid (Near n s s2 row d (d + k + 1)) := S2
          have S3' : Hid (Kq L b w _) := S3
          clear S1 S2 S3
          go_roundw
          case rel => exact ⟨k + 1, s2, by omega, by go_num, S1'.out, S2'.out, S3'.out⟩
          case measure => simp [intOf]; omega
        · subst hq
          have hqq : (q1 == q1) = true := by simp
          by_cases hoo : o1 < o0
          · have hk0 : ¬ k = 0 := fun e => by have := (HK.out e).2; omega
            try go_wp2_with fail
            go_quiet (fail)
            go_wp2_with fail
            obtain ⟨s2, S1, S2, S3⟩ := SWAP.out _ (HS2.out.drewN nq) (Kq.drewN HW2.out nq) (Int.le_refl _)
            have S1' : Hid (SQ _ L n s2) := S1
            have S2' : Hid (Near n s s2 row d (d + k + 1)) := S2
            have S3' : Hid (Kq L b w _) := S3
            clear S1 S2 S3
            go_roundw
            case rel => exact ⟨k + 1, s2, by omega, by go_num, S1'.out, S2'.out, S3'.out⟩
            case measure => simp [intOf]; omega
          · have S2' : Hid (Near n s s1 row d (d + k + 1)) := HNS.out _ (Or.inl ⟨rfl, Int.le_refl _⟩)
            have hod : decide (o1 < o0) = false := decide_eq_false hoo
            try go_wp2_with fail
            go_quiet (fail)
            go_wp2_with fail
            go_roundw
            case rel => exact ⟨k + 1, s1, by omega, by go_num, HS2.out.drewN _, S2'.out, Kq.drewN HW2.out _⟩
            case measure => simp [intOf]; omega
        · have S2' : Hid (Near n s s1 row d (d + k + 1)) := HNS.out _ (Or.inl ⟨rfl, by omega⟩)
          have hqq : (q1 == q0) = false := beq_false_of_ne (by omega)
          have hqd : decide (q1 < q0) = false := decide_eq_false (by omega)
          try go_wp2_with fail
          go_quiet (fail)
          go_wp2_with fail
          go_roundw
          case rel => exact ⟨k + 1, s1, by omega, by go_num, HS2.out.drewN _, S2'.out, Kq.drewN HW2.out _⟩
          case measure => simp [intOf]; omega
    · obtain rfl : k = N := by omega
      have HN2 : Hid (Near n s s' row d n) := by
        have e : d + k = n := by omega
        have := HN.out
        rw [e] at this
        exact this
      go_wp2_with fail
      go_end0
      exact ⟨s', rfl, HS', HN2, HW⟩
end Go.Proofs.Ytdajgnchgealhaa
