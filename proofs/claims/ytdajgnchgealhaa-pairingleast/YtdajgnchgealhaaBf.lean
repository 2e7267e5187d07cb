/- pair. -/
import Derived.Test.YtdajgnchgealhaaMd
import Derived.Test.YtdajgnchgealhaaBe
namespace Go.Proofs.Ytdajgnchgealhaa
open Go.ChangeShapes Go.WideShapes Go.ChangeAt Go.RowKit
attribute [local go_sem] isSome_set

/-- Nothing is changed but 'over'. -/
structure SetQ (s s' : Sq) (k : Nat) : Prop where
  same : s'.c = s.c ∧ s'.u = s.u ∧ s'.v = s.v ∧ s'.m = s.m ∧ s'.o = s.o ∧ s'.d = s.d
  q : ∀ j, j < k → s'.q j = 9223372036854775807
theorem SetQ.next {s s' : Sq} {k : Nat} (h : SetQ s s' k) : SetQ s { s' with q := upd s'.q k 9223372036854775807 } (k + 1) := by
  refine ⟨h.same, fun j hj => ?_⟩
  show upd s'.q k _ j = _
  by_cases e : j = k
  · subst e; exact upd_at _ _ _
  · rw [upd_ne _ _ e]; exact h.q j (by omega)
theorem SetQ.head {n k : Nat} {s s' : Sq} (h : SetQ s s' n) (hi : Inv n k s) (hk : k < n) : Head n k 0 k s' := by
  obtain ⟨e1, e2, e3, e4, e5, e6⟩ := h.same
  refine ⟨⟨⟨?_, ?_⟩, ?_, ?_, ?_, ?_, ?_, ?_, ⟨?_, ?_⟩, ⟨?_, ?_, ?_⟩⟩, by omega, ⟨fun a j ha => by omega, fun a b j j' ha => by omega⟩, fun a j ha => by omega, hk, Or.inl ⟨rfl, rfl⟩, fun a j h1 h2 h3 => Or.inl ⟨rfl, h.q j ?_⟩⟩
  · rw [e4, e5]; exact hi.mt.m
  · rw [e4, e5]; exact hi.mt.o
  · rw [e1, e2, e3]; exact hi.fe
  · unfold Ti; rw [e1, e2, e3, e4]; exact hi.ti
  · rw [e2]; exact hi.u0
  · rw [e3]; exact hi.v0
  · rw [e3, e5]; exact hi.vf
  · rw [e4]; exact hi.un
  · rw [e6]; exact hi.od.at'
  · rw [e6]; exact hi.od.inj
  · rw [e1]; exact hi.sm.c
  · rw [e2]; exact hi.sm.u
  · rw [e3]; exact hi.sm.v
  · rw [e6] at h3
    obtain ⟨j', h4, h5⟩ := hi.od.at' a h2
    omega
set_option maxRecDepth 20000 in
set_option maxHeartbeats 1000000 in
theorem t26 {w : World} {L : Lay} {b n k : Nat} {s : Sq} (h : SQ w L n s) (hL : L.Ok b n) (hi : Inv n k s) (hk : k < n) (hn : n ≤ 256) : Calls Try.prog 26 #[.pointer (some ⟨L.bs, 0, none⟩), .int .i64 k] w fun e w' => ∃ s', e = .returned (.tuple #[]) ∧ Hid (SQ w' L n s') ∧ Hid (Inv n (k + 1) s' ∧ s'.c = s.c) ∧ Hid (Kq L b w w') := by
  have HS : Hid (SQ w L n s) := h
  have HL : Hid (L.Ok b n) := hL
  have HI : Hid (Inv n k s) := hi
  have h6 := h.s6
  clear h hL hi
  go_enter Try.func26, Try.ntmps26
  go_wp2_with fail
  go_loopw [15] (fun v wr => ∃ (i : Nat) (s' : Sq), i ≤ n ∧ v = .int .i64 i ∧ Hid (SQ wr L n s') ∧ Hid (SetQ s s' i) ∧ Hid (Kq L b w wr)) (fun v _ => n - (intOf v).toNat)
  case atStart => exact ⟨0, s, by omega, rfl, HS, ⟨⟨rfl, rfl, rfl, rfl, rfl, rfl⟩, fun j hj => by omega⟩, Kq.refl _ _ _⟩
  case round =>
    obtain ⟨i, s', hi, rfl, HS', HN, HX⟩ := hrel
    rename World => wr
    clear h6
    by_cases hlt : i < n
    · have h6 := HS'.out.s6
      have e1 := HS'.out.cq i hlt
      have fz1 := HS'.out.fc (L.oq + i)
      have hi' : (i : Int) < n := by omega
      generalize s'.q i = q0 at *
      go_wp2_with fail
      have HS2 : Hid (SQ (wr.setCell ⟨L.bc, L.oq + i, none⟩ (.int .i64 9223372036854775807)) L n { s' with q := upd s'.q i 9223372036854775807 }) := HS'.out.setq HL.out hlt _
      have HX2 : Hid (Kq L b w (wr.setCell ⟨L.bc, L.oq + i, none⟩ (.int .i64 9223372036854775807))) := Kq.setCell HX.out HL.out.st.2.2.1 (Or.inl rfl) _
      go_roundw
      case rel => exact ⟨i + 1, _, by omega, by go_num, HS2.out, HN.out.next, HX2.out⟩
      case measure => simp [intOf]; omega
    · obtain rfl : i = n := by omega
      have h5 := HS'.out.s5
      have HH : Hid (Head i k 0 k s' ∧ s'.c = s.c) := ⟨HN.out.head HI.out hk, HN.out.same.1⟩
      go_wp2_with fail
      go_loopw [6, 7] (fun v6 v7 wx => ∃ (row d : Nat) (s2 : Sq), d ≤ i ∧ v6 = .int .i64 row ∧ v7 = .int .i64 d ∧ Hid (SQ wx L i s2) ∧ Hid (Head i k d row s2 ∧ s2.c = s.c) ∧ Hid (Kq L b w wx)) (fun _ v7 _ => i - (intOf v7).toNat)
      case atStart => exact ⟨k, 0, s', by omega, rfl, rfl, HS', HH, HX⟩
      case round =>
        clear HS' HN HX HH h5
        obtain ⟨row, d, s1, hd', rfl, rfl, HS', HH, HX⟩ := hrel
        rename World => wx
        have hd : d < i := HH.out.1.lt hk
        have hrn := HH.out.1.rn
        have h5 := HS'.out.s5
        have hd1 : (d : Int) ≤ i := by omega
        have C33 : Hid (∀ k, Calls Try.prog 33 #[.pointer (some ⟨L.bs, 0, none⟩), .int .i64 row, .slice (some ⟨L.bp, L.od + d, none⟩) (i - d) (i - d)] (wx.drewN k) fun e w' => ∃ s', e = .returned (.tuple #[]) ∧ Hid (SQ w' L i s') ∧ Hid (Near i s1 s' row d i) ∧ Hid (Kq L b (wx.drewN k) w')) := fun k => t33 (HS'.out.drewN k) HL.out HH.out.1.inv.sm HH.out.1.inv.od hrn hd hn
        go_wp2_with fail
        go_quiet (fail)
        go_wp2_with (first | (go_at_call 33; (with_reducible refine (C33.out _).mono ?_); rintro e w3 ⟨s2, rfl, HS2, HN2, HX2⟩))
        clear C33
        have HM : Hid (Mid i k d s2) := HH.out.1.mid HN2.out hk
        have HC2 : Hid (s2.c = s.c) := HN2.out.same.1.trans HH.out.2
        have HX3 : Hid (Kq L b w w3) := Kq.trans (Kq.drewN HX.out _) HX2.out
        obtain ⟨j0, hj0, hdj0⟩ := HM.out.inv.od.at' d hd
        obtain ⟨x, hx⟩ : ∃ x, s2.q j0 = x := ⟨_, rfl⟩
        have hxb : 0 ≤ x ∧ x ≤ 1000000000000000 := by
          obtain ⟨r, r1, r2, r3, r4⟩ := HM.out.r1 d j0 (Nat.le_refl _) hd hdj0
          have := HM.out.inv.slk0 r1 hj0
          omega
        have C34 := t34 HS2.out HL.out HM.out.inv.sm HM.out.inv.od HM.out.own hk hd hj0 hdj0 hx hxb (fun a j h1 h2 h3 => by
          have hj : j < i := by
            obtain ⟨j', h4, h5⟩ := HM.out.inv.od.at' a h2
            omega
          obtain ⟨r, r1, r2, r3, r4⟩ := HM.out.r1 a j h1 h2 h3
          have h6 := HM.out.inv.slk0 r1 hj
          have h7 := HM.out.least a j j0 h1 h2 h3 hdj0
          omega) hn
        refine C34.mono ?_
        rintro e w4 ⟨s3, rfl, HS3, HB3, HX4⟩
        clear C34
        obtain ⟨n1, n2, n3⟩ := HM.out.bear (by rw [hx]; exact HB3.out) hdj0 hd hk
        have HI3 : Hid (Inv i k s3) := n1
        have HT3 : Hid (Tree i s3 k d) := n2
        have HN3 : Hid (∀ row : Nat, row < i → s3.o j0 = row → Head i k (d + 1) row s3) := n3
        have HC3 : Hid (s3.c = s.c) := HB3.out.same.1.trans HC2.out
        have HX5 : Hid (Kq L b w w4) := Kq.trans HX3.out HX4.out
        have hdj3 : s3.d d = j0 := by rw [HB3.out.same.2.2.2.1]; exact hdj0
        have HD3 : Hid (s3.d d = j0) := hdj3
        clear n1 n2 n3 HB3 HM HS2 HN2 HX2 HX3 HX4 HH HX HS' h5 hx hxb hdj0
        have h4 := HS3.out.s4
        have e0 := HS3.out.cd d hd
        rw [hdj3] at e0
        have e1 := HS3.out.co j0 hj0
        have hj0' : (j0 : Int) < i := by omega
        have hN0 : (0 : Int) < (i - d : Nat) := by omega
        have hN1 : 0 < i - d := by omega
        clear hdj3
        rcases HI3.out.mt.o j0 hj0 with ho | ⟨r, hr, ho, -⟩
        · have C35 : Hid (∀ q, Calls Try.prog 35 #[.pointer (some ⟨L.bs, 0, none⟩), .int .i64 k, .int .i64 j0] (w4.drewN q) fun e w' => ∃ s', e = .returned (.tuple #[]) ∧ Hid (SQ w' L i s') ∧ Hid (Handed i k s3 s') ∧ Hid (Kq L b (w4.drewN q) w')) := fun q => t35 (HS3.out.drewN q) HL.out HI3.out.od HT3.out (Hand.start HI3.out.mt HI3.out.ti HD3.out ho) ((HI3.out.un k hk).2 (Nat.le_refl _)) hk hd hj0
          rw [ho] at e1
          clear ho
          generalize hNN : i - d = N at *
          go_wp2_with fail
          go_quiet (fail)
          go_wp2_with (first | (go_at_call 35; (with_reducible refine (C35.out _).mono ?_); rintro e w5 ⟨s4, rfl, HS4, HD4, HX6⟩))
          (try simp only [Exit.inBlock, Exit.then])
          refine bodyPost_ret (results_none rfl _ _ _) rfl ?_
          exact ⟨s4, rfl, HS4, ⟨HD4.out.inv HI3.out, HD4.out.same.1.trans HC3.out⟩, Kq.trans (Kq.drewN HX5.out _) HX6.out⟩
        · have HH2 : Hid (Head i k (d + 1) r s3 ∧ s3.c = s.c) := ⟨HN3.out r hr ho, HC3.out⟩
          rw [ho] at e1
          clear ho
          generalize hNN : i - d = N at *
          go_wp2_with fail
          go_quiet (fail)
          go_wp2_with fail
          go_roundw
          case rel => exact ⟨r, d + 1, s3, by omega, rfl, by go_num, HS3.out.drewN _, HH2, Kq.drewN HX5.out _⟩
          case measure => simp [intOf]; omega
end Go.Proofs.Ytdajgnchgealhaa
