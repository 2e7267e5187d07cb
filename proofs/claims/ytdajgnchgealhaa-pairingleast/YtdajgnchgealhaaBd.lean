/- bear. -/
import Derived.Test.YtdajgnchgealhaaMb
import Derived.Test.YtdajgnchgealhaaBc
namespace Go.Proofs.Ytdajgnchgealhaa
open Go.ChangeShapes Go.WideShapes Go.ChangeAt Go.RowKit
attribute [local go_sem] isSome_set

set_option maxRecDepth 20000 in
set_option maxHeartbeats 1000000 in
theorem t34 {w : World} {L : Lay} {b n first d j0 : Nat} {s : Sq} {x : Int} (h : SQ w L n s) (hL : L.Ok b n) (hb : Small n s) (ho : Ord n s) (hw : Own n s first d) (hf : first < n) (hd : d < n) (hj0 : j0 < n) (h0 : s.d d = j0) (hx : s.q j0 = x) (hx1 : 0 ≤ x ∧ x ≤ 1000000000000000) (hq : ∀ a j : Nat, d ≤ a → a < n → s.d a = j → x ≤ s.q j ∧ s.q j ≤ 1000000000000000) (hn : n ≤ 256) : Calls Try.prog 34 #[.pointer (some ⟨L.bs, 0, none⟩), .int .i64 first, .slice (some ⟨L.bp, L.od, none⟩) d d, .slice (some ⟨L.bp, L.od + d, none⟩) (n - d) (n - d)] w fun e w' => ∃ s', e = .returned (.tuple #[]) ∧ Hid (SQ w' L n s') ∧ Hid (Bear n s s' first d x d n) ∧ Hid (Kq L b w w') := by
  have HS : Hid (SQ w L n s) := h
  have HL : Hid (L.Ok b n) := hL
  have HB : Hid (Small n s) := hb
  have HO : Hid (Ord n s) := ho
  have HW : Hid (Own n s first d) := hw
  have HQ : Hid (∀ a j : Nat, d ≤ a → a < n → s.d a = j → x ≤ s.q j ∧ s.q j ≤ 1000000000000000) := hq
  have hf' : (first : Int) < n := by omega
  have hj0' : (j0 : Int) < n := by omega
  have h6 := h.s6
  have h1 := h.s1
  have e0 := h.cd d hd
  rw [h0] at e0
  have e1 := h.cq j0 hj0
  rw [hx] at e1
  have e2 := h.cu first hf
  have b2 := hb.u first hf
  have fz1 := h.fc (L.ou + first)
  have hN0 : (0 : Int) < (n - d : Nat) := by omega
  generalize hN : n - d = N at *
  generalize hu0 : s.u first = u0 at *
  clear h hL hb ho hw h0 hx hq
  go_enter Try.func34, Try.ntmps34
  go_wp2_with fail
  go_quiet (fail)
  go_wp2_with fail
  have HS1 : Hid (SQ ((w.drewN nq).setCell ⟨L.bc, L.ou + first, none⟩ (.int .i64 (u0 + x))) L n { s with u := upd s.u first (s.u first + x) }) := by
    have e := (HS.out.drewN nq).setu HL.out hf (u0 + x)
    rw [← hu0] at e ⊢
    exact e
  have HW1 : Hid (Kq L b w ((w.drewN nq).setCell ⟨L.bc, L.ou + first, none⟩ (.int .i64 (u0 + x)))) := Kq.setCell (Kq.drewN (Kq.refl _ _ _) nq) HL.out.st.2.2.1 (Or.inl rfl) _
  have HE1 : Hid (Bear n s { s with u := upd s.u first (s.u first + x) } first d x 0 d) := Bear.start n s first d x
  generalize (w.drewN nq).setCell ⟨L.bc, L.ou + first, none⟩ (.int .i64 (u0 + x)) = W1 at *
  generalize ({ s with u := upd s.u first (s.u first + x) } : Sq) = s1 at *
  clear h6 h1 e0 e1 e2 fz1 b2 hu0
  generalize nq = nq0 at *
  go_loopw [34] (fun v wr => ∃ (k : Nat) (s' : Sq), k ≤ d ∧ v = .int .i64 k ∧ Hid (SQ wr L n s') ∧ Hid (Bear n s s' first d x k d) ∧ Hid (Kq L b w wr)) (fun v _ => d - (intOf v).toNat)
  case atStart => exact ⟨0, s1, by omega, rfl, HS1, HE1, HW1⟩
  case round =>
    obtain ⟨k, s', hk, rfl, HS', HN, HX⟩ := hrel
    rename World => wr
    by_cases hlt : k < d
    · obtain ⟨j, hj, hdj⟩ := HO.out.at' k (by omega)
      obtain ⟨i, hi, hoi, -⟩ := HW.out.at' k j hlt hdj
      obtain ⟨n1, n2, n3⟩ := HN.out.next HO.out HW.out hlt (by omega) hdj hoi
      have HNX : Hid (Bear n s { s' with u := upd s'.u i (s.u i + x), v := upd s'.v j (s.v j - x) } first d x (k + 1) d) := n3
      have e0 := HS'.out.cd k (by omega)
      rw [HN.out.same.2.2.2.1, hdj] at e0
      have h1 := HS'.out.s1
      have h2 := HS'.out.s2
      have h4 := HS'.out.s4
      have e1 := HS'.out.co j hj
      rw [HN.out.same.2.2.1, hoi] at e1
      have e2 := HS'.out.cu i hi
      rw [n1] at e2
      have e3 := HS'.out.cv j hj
      rw [n2] at e3
      have b2 := HB.out.u i hi
      have b3 := HB.out.v j hj
      have fz1 := HS'.out.fc (L.ou + i)
      have fz2 := HS'.out.fc (L.ov + j)
      have hne2 : ¬ L.bs = L.bc := HL.out.ap.2.1
      have hne4 : ¬ L.ou + i = L.ov + j := by have := HL.out.o1; omega
      have hi' : (i : Int) < n := by omega
      have hj' : (j : Int) < n := by omega
      have hk' : (k : Int) < d := by omega
      generalize s.u i = ui at *
      generalize s.v j = vj at *
      clear n1 n2 n3 hoi hdj
      go_wp2_with fail
      go_region
      go_wp2_with fail
      have HS2 : Hid (SQ (((wr.drewN 1).setCell ⟨L.bc, L.ou + i, none⟩ (.int .i64 (ui + x))).setCell ⟨L.bc, L.ov + j, none⟩ (.int .i64 (vj - x))) L n { s' with u := upd s'.u i (ui + x), v := upd s'.v j (vj - x) }) := ((HS'.out.drewN 1).setu HL.out hi _).setv HL.out hj _
      have HX2 : Hid (Kq L b w (((wr.drewN 1).setCell ⟨L.bc, L.ou + i, none⟩ (.int .i64 (ui + x))).setCell ⟨L.bc, L.ov + j, none⟩ (.int .i64 (vj - x)))) := Kq.setCell (Kq.setCell (Kq.drewN HX.out _) HL.out.st.2.2.1 (Or.inl rfl) _) HL.out.st.2.2.1 (Or.inl rfl) _
      go_roundw
      case rel => exact ⟨k + 1, _, by omega, by go_num, HS2.out, HNX.out, HX2.out⟩
      case measure => simp [intOf]; omega
    · obtain rfl : k = d := by omega
      clear HS1 HE1 HW1
      go_wp2_with fail
      go_loopw [67] (fun v wx => ∃ (a : Nat) (s2 : Sq), a ≤ N ∧ v = .int .i64 a ∧ Hid (SQ wx L n s2) ∧ Hid (Bear n s s2 first k x k (k + a)) ∧ Hid (Kq L b w wx)) (fun v _ => N - (intOf v).toNat)
      case atStart => exact ⟨0, s', by omega, rfl, HS', HN.out, HX⟩
      case round =>
        clear HS' HN HX
        obtain ⟨a, s2, ha, rfl, HS', HN, HX⟩ := hrel
        rename World => wx
        by_cases hlt : a < N
        · obtain ⟨j, hj, hdj⟩ := HO.out.at' (k + a) (by omega)
          obtain ⟨n1, n3⟩ := HN.out.over HO.out (by omega) (by omega) hdj
          have HNX : Hid (Bear n s { s2 with q := upd s2.q j (s.q j - x) } first k x k (k + a + 1)) := n3
          have e0 := HS'.out.cd (k + a) (by omega)
          rw [HN.out.same.2.2.2.1, hdj, ← Nat.add_assoc] at e0
          have h6 := HS'.out.s6
          have e1 := HS'.out.cq j hj
          rw [n1] at e1
          have b1 := HQ.out (k + a) j (by omega) (by omega) hdj
          have fz1 := HS'.out.fc (L.oq + j)
          have hj' : (j : Int) < n := by omega
          have ha' : (a : Int) < N := by omega
          generalize s.q j = qj at *
          clear n1 n3 hdj
          go_wp2_with fail
          have HS2 : Hid (SQ (wx.setCell ⟨L.bc, L.oq + j, none⟩ (.int .i64 (qj - x))) L n { s2 with q := upd s2.q j (qj - x) }) := HS'.out.setq HL.out hj _
          have HX2 : Hid (Kq L b w (wx.setCell ⟨L.bc, L.oq + j, none⟩ (.int .i64 (qj - x)))) := Kq.setCell HX.out HL.out.st.2.2.1 (Or.inl rfl) _
          go_roundw
          case rel => exact ⟨a + 1, _, by omega, by go_num, HS2.out, HNX.out, HX2.out⟩
          case measure => simp [intOf]; omega
        · obtain rfl : a = N := by omega
          have HN2 : Hid (Bear n s s2 first k x k n) := by
            have e : k + a = n := by omega
            have := HN.out
            rw [e] at this
            exact this
          go_wp2_with fail
          go_end0
          exact ⟨s2, rfl, HS', HN2, HX⟩
end Go.Proofs.Ytdajgnchgealhaa
