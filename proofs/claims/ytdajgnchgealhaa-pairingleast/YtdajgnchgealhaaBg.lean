/- move. -/
import Derived.Test.YtdajgnchgealhaaMe
import Derived.Test.YtdajgnchgealhaaBf
namespace Go.Proofs.Ytdajgnchgealhaa
open Go.ChangeShapes Go.WideShapes Go.ChangeAt Go.RowKit
attribute [local go_sem] isSome_set

set_option maxRecDepth 20000 in
set_option maxHeartbeats 1000000 in
theorem t38 {w : World} {L : Lay} {b n row held j z : Nat} {s : Sq} {ρ : Nat → Nat} (h : SQ w L n s) (hL : L.Ok b n) (hp : Per n s) (hfr : From n row held s s ρ) (hrow : s.m row = held) (hrn : row < n) (hh : held < n) (hj : j < n) (hne : j ≠ held) (hz : s.o j = z) (hf : s.f z ≠ -1) : Calls Try.prog 38 #[.pointer (some ⟨L.bs, 0, none⟩), .int .i64 row, .int .i64 j] w fun e w' => ∃ s', e = .returned (.tuple #[]) ∧ Hid (SQ w' L n s') ∧ Hid (Moved n row j s s') ∧ Hid (Kq L b w w') := by
  have HS : Hid (SQ w L n s) := h
  have HL : Hid (L.Ok b n) := hL
  have HP : Hid (Per n s) := hp
  have HF : Hid (From n row held s s ρ) := hfr
  have HV : Hid (Mv n row held j ρ s s row j) := Mv.start hp hrow hrn hj hne hz hf
  have HNE : Hid (j ≠ held) := hne
  have h3 := h.s3
  have e0 := h.cm row hrn
  rw [hrow] at e0
  have hrn' : (row : Int) < n := by omega
  clear h hL hp hfr hrow hne hz hf
  go_enter Try.func38, Try.ntmps38
  go_wp2_with fail
  go_loopw [1, 2] (fun v1 v2 wr => ∃ (x y : Nat) (s' : Sq), x < n ∧ y < n ∧ v1 = .int .i64 x ∧ v2 = .int .i64 y ∧ Hid (SQ wr L n s') ∧ Hid (Mv n row held j ρ s s' x y) ∧ Hid (Kq L b w wr)) (fun _ v2 _ => if intOf v2 = (held : Int) then 0 else ρ (s.o (intOf v2).toNat).toNat + 1)
  case atStart => exact ⟨row, j, s, hrn, hj, rfl, rfl, HS, HV, Kq.refl _ _ _⟩
  case round =>
    clear HV h3 e0
    obtain ⟨x, y, s', hx, hy, rfl, rfl, HS', HV, HX⟩ := hrel
    rename World => wr
    have h3 := HS'.out.s3
    have h4 := HS'.out.s4
    have h7 := HS'.out.s7
    have e1 := HS'.out.cm x hx
    have e2 := HS'.out.co y hy
    have fz1 := HS'.out.fp (L.om + x)
    have fz2 := HS'.out.fp (L.oo + y)
    have hne3 : ¬ L.bs = L.bp := HL.out.ap.2.2.1
    have hne4 : ¬ L.oo + y = L.om + x := by have := HL.out.o2; omega
    have hne5 : ¬ L.om + x = L.oo + y := by have := HL.out.o2; omega
    have hx' : (x : Int) < n := by omega
    have hy' : (y : Int) < n := by omega
    have HS2 : Hid (SQ ((wr.setCell ⟨L.bp, L.om + x, none⟩ (.int .i64 y)).setCell ⟨L.bp, L.oo + y, none⟩ (.int .i64 x)) L n { s' with m := upd s'.m x y, o := upd s'.o y x }) := (HS'.out.setm HL.out hx _).seto HL.out hy _
    have HX2 : Hid (Kq L b w ((wr.setCell ⟨L.bp, L.om + x, none⟩ (.int .i64 y)).setCell ⟨L.bp, L.oo + y, none⟩ (.int .i64 x))) := Kq.setCell (Kq.setCell HX.out HL.out.st.2.2.2 (Or.inr rfl) _) HL.out.st.2.2.2 (Or.inr rfl) _
    by_cases hyh : y = held
    · subst hyh
      have HD : Hid (Moved n row j s { s' with m := upd s'.m x y, o := upd s'.o y x }) := HV.out.last hx hy HNE.out
      have hyy : ((y : Int) == (y : Int)) = true := by simp
      generalize s'.o y = ov at *
      generalize s'.m x = mv at *
      go_wp2_with fail
      go_region
      go_wp2_with fail
      (try simp only [Exit.inBlock, Exit.then])
      refine bodyPost_ret (results_none rfl _ _ _) rfl ?_
      refine ⟨_, rfl, HS2.out.drew, HD, Kq.drewN HX2.out 1⟩
    · obtain ⟨zz, y', hz, hy2, hoz, hfz, hoz', hV', hrk⟩ := HV.out.next HP.out HF.out hx hy hyh
      have HE3 : Hid (s'.f zz = y') := by show _ = _; rw [HV.out.same.2.2.2, hfz]
      rw [hoz] at e2
      have HV2 : Hid (Mv n row held j ρ s { s' with m := upd s'.m x y, o := upd s'.o y x } zz y') := hV'
      have HR : Hid (s.o y = zz ∧ (y' = held ∨ ∃ z' : Nat, s.o y' = z' ∧ ρ z' < ρ zz)) := ⟨hoz', hrk⟩
      have hyy : ((y : Int) == (held : Int)) = false := beq_false_of_ne (by omega)
      have hzz' : (zz : Int) < n := by omega
      have HYH : Hid (¬ y = held) := hyh
      generalize s'.m x = mv at *
      clear hoz hfz hoz' hV' hrk hyh HV
      go_wp2_with fail
      go_region
      go_wp2_with fail
      have HS3 : Hid (SQ ((wr.setCell ⟨L.bp, L.om + x, none⟩ (.int .i64 y)).setCell ⟨L.bp, L.oo + y, none⟩ (.int .i64 x)).drew L n { s' with m := upd s'.m x y, o := upd s'.o y x }) := HS2.out.drew
      have HX3 : Hid (Kq L b w ((wr.setCell ⟨L.bp, L.om + x, none⟩ (.int .i64 y)).setCell ⟨L.bp, L.oo + y, none⟩ (.int .i64 x)).drew) := Kq.drewN HX2.out 1
      generalize ((wr.setCell ⟨L.bp, L.om + x, none⟩ (.int .i64 y)).setCell ⟨L.bp, L.oo + y, none⟩ (.int .i64 x)).drew = W2 at *
      clear h3 h4 h7 e1 e2 fz1 fz2 HS2 HX2 HS'
      have h7 := HS3.out.s7
      have e3 := HS3.out.cf zz hz
      simp only [HE3.out] at e3
      go_quiet (fail)
      try go_wp2_with fail
      go_roundw
      case rel => exact ⟨zz, y', _, hz, hy2, rfl, rfl, HS3.out.drewN _, HV2.out, Kq.drewN HX3.out _⟩
      case measure =>
        have h1 : ¬ (y : Int) = held := by have := HYH.out; omega
        obtain ⟨h2, h3⟩ := HR.out
        simp only [intOf, Int.toNat_natCast, if_neg h1, h2]
        show (if ((y' : Nat) : Int) = (held : Int) then 0 else ρ (s.o y').toNat + 1) < ρ zz + 1
        rcases h3 with h3 | ⟨z', h4, h5⟩
        · rw [if_pos (by omega)]; omega
        · split
          · omega
          · rw [h4, Int.toNat_natCast]; omega
end Go.Proofs.Ytdajgnchgealhaa
