/- hand. -/
import Derived.Test.YtdajgnchgealhaaMc
import Derived.Test.YtdajgnchgealhaaBd
namespace Go.Proofs.Ytdajgnchgealhaa
open Go.ChangeShapes Go.WideShapes Go.ChangeAt Go.RowKit
attribute [local go_sem] isSome_set

set_option maxRecDepth 20000 in
set_option maxHeartbeats 1000000 in
theorem t35 {w : World} {L : Lay} {b n k d jc : Nat} {s : Sq} (h : SQ w L n s) (hL : L.Ok b n) (ho : Ord n s) (ht : Tree n s k d) (hs : Hand n k s s d jc) (hk : s.m k = -1) (hkn : k < n) (hd : d < n) (hjc : jc < n) : Calls Try.prog 35 #[.pointer (some ⟨L.bs, 0, none⟩), .int .i64 k, .int .i64 jc] w fun e w' => ∃ s', e = .returned (.tuple #[]) ∧ Hid (SQ w' L n s') ∧ Hid (Handed n k s s') ∧ Hid (Kq L b w w') := by
  have HS : Hid (SQ w L n s) := h
  have HL : Hid (L.Ok b n) := hL
  have HO : Hid (Ord n s) := ho
  have HT : Hid (Tree n s k d) := ht
  have HK : Hid (s.m k = -1) := hk
  have HH : Hid (Hand n k s s d jc) := hs
  obtain ⟨ps, hps⟩ := ho.pos
  have HP : Hid (∀ a, a < n → ∀ j : Nat, s.d a = j → ps j = a) := hps
  clear h hL ho ht hk hs hps
  go_enter Try.func35, Try.ntmps35
  go_wp2_with fail
  go_loopw [2, 6] (fun v2 v6 wr => ∃ (z y : Int) (s' : Sq), v6 = .int .i64 z ∧ v2 = .int .i64 y ∧ Hid (SQ wr L n s') ∧ Hid ((z = k ∧ Handed n k s s') ∨ (z ≠ k ∧ ∃ a j : Nat, a ≤ d ∧ j < n ∧ y = j ∧ Hand n k s s' a j)) ∧ Hid (Kq L b w wr)) (fun v2 v6 _ => if intOf v6 = (k : Int) then 0 else ps (intOf v2).toNat + 1)
  case atStart => exact ⟨-1, jc, s, rfl, rfl, HS, Or.inr ⟨by omega, d, jc, by omega, hjc, rfl, HH.out⟩, Kq.refl _ _ _⟩
  case round =>
    obtain ⟨z, y, s', rfl, rfl, HS', HD, HX⟩ := hrel
    rename World => wr
    rcases HD.out with ⟨rfl, hD⟩ | ⟨hz, a, j, ha, hj, rfl, hD⟩
    · have hzz : ((k : Int) != (k : Int)) = false := by simp
      have HD2 : Hid (Handed n k s s') := hD
      clear HD hD
      go_wp2_with fail
      go_end0
      exact ⟨s', rfl, HS', HD2, HX⟩
    · have hzz : (z != (k : Int)) = true := by simp [hz]
      obtain ⟨r, hr, hf, hor⟩ := hD.look HT.out ha hd HO.out HK.out hkn
      have e1 := HS'.out.cf j hj
      rw [hf] at e1
      have HPA : Hid (ps j = a) := HP.out a (by omega) j hD.pos
      have h7 := HS'.out.s7
      have h4 := HS'.out.s4
      have h3 := HS'.out.s3
      have e2 := HS'.out.co j hj
      have e3 := HS'.out.cm r hr
      have fz1 := HS'.out.fp (L.oo + j)
      have fz2 := HS'.out.fp (L.om + r)
      have hne3 : ¬ L.bs = L.bp := HL.out.ap.2.2.1
      have hne4 : ¬ L.oo + j = L.om + r := by have := HL.out.o2; omega
      have hr' : (r : Int) < n := by omega
      have hj' : (j : Int) < n := by omega
      generalize s'.o j = oj at *
      clear HD hD hf
      have HZ : Hid (z ≠ k) := hz
      clear hz
      rcases hor with ⟨hrk, hm, hD⟩ | ⟨hrk, bb, jb, hb1, hb2, hm, hD⟩
      · rw [hm] at e3
        subst hrk
        have HD2 : Hid (Handed n r s { s' with o := upd s'.o j r, m := upd s'.m r j }) := hD
        clear hm hD
        go_wp2_with fail
        go_region
        try go_wp2_with fail
        have HS2 : Hid (SQ (((wr.setCell ⟨L.bp, L.oo + j, none⟩ (.int .i64 r)).setCell ⟨L.bp, L.om + r, none⟩ (.int .i64 j)).drew) L n { s' with o := upd s'.o j r, m := upd s'.m r j }) := ((HS'.out.seto HL.out hj _).setm HL.out hr _).drew
        have HX2 : Hid (Kq L b w (((wr.setCell ⟨L.bp, L.oo + j, none⟩ (.int .i64 r)).setCell ⟨L.bp, L.om + r, none⟩ (.int .i64 j)).drew)) := Kq.drewN (Kq.setCell (Kq.setCell HX.out HL.out.st.2.2.2 (Or.inr rfl) _) HL.out.st.2.2.2 (Or.inr rfl) _) 1
        go_roundw
        case rel => exact ⟨r, -1, _, rfl, rfl, HS2.out, Or.inl ⟨rfl, HD2.out⟩, HX2.out⟩
        case measure =>
          have := HZ.out
          simp [intOf, this]
      · rw [hm] at e3
        have HPB : Hid (ps jb = bb) := HP.out bb (by omega) jb hD.pos
        have HD2 : Hid (Hand n k s { s' with o := upd s'.o j r, m := upd s'.m r j } bb jb) := hD
        have HRK : Hid (r ≠ k) := hrk
        clear hm hD hrk
        go_wp2_with fail
        go_region
        try go_wp2_with fail
        have HS2 : Hid (SQ (((wr.setCell ⟨L.bp, L.oo + j, none⟩ (.int .i64 r)).setCell ⟨L.bp, L.om + r, none⟩ (.int .i64 j)).drew) L n { s' with o := upd s'.o j r, m := upd s'.m r j }) := ((HS'.out.seto HL.out hj _).setm HL.out hr _).drew
        have HX2 : Hid (Kq L b w (((wr.setCell ⟨L.bp, L.oo + j, none⟩ (.int .i64 r)).setCell ⟨L.bp, L.om + r, none⟩ (.int .i64 j)).drew)) := Kq.drewN (Kq.setCell (Kq.setCell HX.out HL.out.st.2.2.2 (Or.inr rfl) _) HL.out.st.2.2.2 (Or.inr rfl) _) 1
        go_roundw
        case rel => exact ⟨r, jb, _, rfl, rfl, HS2.out, Or.inr ⟨by have := HRK.out; omega, bb, jb, by omega, hb2, rfl, HD2.out⟩, HX2.out⟩
        case measure =>
          have h1 := HZ.out
          have h2 : ¬ (r : Int) = k := by have := HRK.out; omega
          simp only [intOf, Int.toNat_natCast, if_neg h1, if_neg h2, HPB.out, HPA.out]
          omega
end Go.Proofs.Ytdajgnchgealhaa
