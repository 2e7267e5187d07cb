/- stretches: two lists are the same. -/
import Derived.Test.YtjklaemhfhakhaaKf
namespace Go.Proofs.Ytjklaemhfhakhaa
open Go.ChangeShapes Go.WideShapes Go.ChangeAt Go.RowKit

theorem fl4_cons (s : Sl) (D : List Sl) : fl4 (s :: D) = sL s ++ fl4 D := by
  unfold fl4
  rw [List.flatMap_cons]
theorem fl4_set : ∀ {D : List Sl} {i : Nat} (z : Sl), i < D.length → ((((fl4 D).set (i * 4) (.int .i64 z.t)).set (i * 4 + 1) (.int .i64 z.f)).set (i * 4 + 2) (.int .i64 z.e)).set (i * 4 + 3) (.bool z.l) = fl4 (D.set i z)
  | s :: D, 0, z, _ => by
    rw [List.set_cons_zero, fl4_cons, fl4_cons]
    rfl
  | s :: D, i + 1, z, h => by
    have ih := fl4_set (D := D) (i := i) z (by simpa using h)
    rw [List.set_cons_succ, fl4_cons, fl4_cons, ← ih]
    have e : ∀ k, (i + 1) * 4 + k = (i * 4 + k) + 4 := fun k => by omega
    have e0 : (i + 1) * 4 = i * 4 + 4 := by omega
    rw [e, e, e, e0]
    rfl
theorem SO.set {b : Nat} {w : World} {g n c : Nat} {D : List Sl} (h : SO b w (.slice (some ⟨g, 0, none⟩) n c) D) {i : Nat} (hi : i < n) (z : Sl) :
    SO b ((((w.setCell ⟨g, i * 4, none⟩ (.int .i64 z.t)).setCell ⟨g, i * 4 + 1, none⟩ (.int .i64 z.f)).setCell ⟨g, i * 4 + 2, none⟩ (.int .i64 z.e)).setCell ⟨g, i * 4 + 3, none⟩ (.bool z.l)) (.slice (some ⟨g, 0, none⟩) n c) (D.set i z) := by
  have hl := SO.len h
  unfold SO at *
  rw [List.length_set, ← fl4_set z (by omega), hl]
  rw [hl] at h
  exact ((((h.stored (i * 4) _).1.stored (i * 4 + 1) _).1.stored (i * 4 + 2) _).1.stored (i * 4 + 3) _).1
theorem SO.getS {b : Nat} {w : World} {g n c : Nat} {D : List Sl} (h : SO b w (.slice (some ⟨g, 0, none⟩) n c) D) {i : Nat} {s : Sl} (hi : D[i]? = some s) : i < n ∧ g < w.heap.size ∧ SlAt w g (i * 4) s := by
  have hl := SO.len h
  have hlt : i < D.length := by
    rcases Nat.lt_or_ge i D.length with q | q
    · exact q
    · rw [List.getElem?_eq_none q] at hi; cases hi
  obtain ⟨g', e, _, h1, h2⟩ := h.sl (by omega)
  simp only [Option.some.injEq, Addr.mk.injEq] at e
  obtain ⟨rfl, _⟩ := e
  have := h2 i (by omega)
  rw [List.getD_eq_getElem?_getD, hi] at this
  exact ⟨by omega, h1, this⟩
/-- What stretches has left, of two lists that are the same. -/
def StrR (w : World) (r : Option Nat) (e : Ending) (w' : World) : Prop := e = .returned (.bool true) ∧ Hid (Kp (fun k => some k ≠ r) w w')
set_option maxRecDepth 200000 in
set_option maxHeartbeats 8000000 in
theorem t22 {w : World} {b1 b2 : Nat} {p1 p2 : Option Addr} {n c1 c2 : Nat} {A : List Sl} (hA : SO b1 w (.slice p1 n c1) A) (hC : SO b2 w (.slice p2 n c2) A) (hne : ∀ r, (Value.slice p2 n c2).ownBlock = some r → some r ≠ (Value.slice p1 n c1).ownBlock) (hn : n ≤ 1000000) (hb : b1 ≤ w.heap.size) : Calls Try.prog 22 #[.slice p1 n c1, .slice p2 n c2] w (StrR w (Value.slice p1 n c1).ownBlock) := by
  have HA : Hid (SO b1 w (.slice p1 n c1) A) := hA
  have HC : Hid (SO b2 w (.slice p2 n c2) A) := hC
  have HNE : Hid (∀ r, (Value.slice p2 n c2).ownBlock = some r → some r ≠ (Value.slice p1 n c1).ownBlock) := hne
  have HLA : Hid (A.length = n) := SO.len hA
  have HBB : Hid (b1 ≤ w.heap.size) := hb
  clear hA hC hne hb
  go_enter Try.func22, Try.ntmps22
  go_wp2_with fail
  go_loopw [5] (fun v5 wr => ∃ (i : Nat) (D : List Sl), i ≤ n ∧ v5 = .int .i64 i ∧ Hid (SO b1 wr (.slice p1 n c1) D) ∧ Hid (∀ j, i ≤ j → D[j]? = A[j]?) ∧ Hid (Kp (fun k => some k ≠ (Value.slice p1 n c1).ownBlock) w wr)) (fun v5 _ => n - (intOf v5).toNat)
  case atStart => exact ⟨0, A, by omega, rfl, HA, fun _ _ => rfl, Kp.refl _ _⟩
  case round =>
    obtain ⟨i, D, hi, rfl, HD, HDA, HK⟩ := hrel
    rename World => wr
    have y0 : (0 : Int) ≤ (i : Int) := by omega
    by_cases hin : i < n
    · have b0 : (i : Int) < (n : Int) := by omega
      have HCr : Hid (SO b2 wr (.slice p2 n c2) A) := HC.out.kp HK.out HNE.out
      obtain ⟨s, hs⟩ : ∃ s, A[i]? = some s := ⟨_, List.getElem?_eq_getElem (by rw [HLA.out]; exact hin)⟩
      have hd : D[i]? = some s := (HDA.out i (Nat.le_refl _)).trans hs
      obtain ⟨g1, hp1, hg1, -⟩ := HD.out.sl (by omega)
      obtain ⟨g2, hp2, -, -⟩ := HCr.out.sl (by omega)
      subst hp1
      subst hp2
      obtain ⟨-, l1, x0, x1, x2, x3⟩ := HD.out.getS hd
      obtain ⟨-, l2, z0, z1, z2, z3⟩ := HCr.out.getS hs
      have f0 := HD.out.frz (i * 4)
      have f1 := HD.out.frz (i * 4 + 1)
      have f2 := HD.out.frz (i * 4 + 2)
      have f3 := HD.out.frz (i * 4 + 3)
      have HS : Hid (A[i]? = some s) := hs
      clear hs hd
      obtain ⟨s1, s2, s3, s4⟩ := s
      simp only at x0 x1 x2 x3 z0 z1 z2 z3
      go_wp2_with fail
      go_region
      go_wp2_with fail
      go_roundw
      case rel => exact ⟨i + 1, D.set i ⟨-9, 0, 0, false⟩, by omega, by go_num, (HD.out.up (Up.drew _)).set (z := ⟨-9, 0, 0, false⟩) hin, fun j hj => by
        rw [List.getElem?_set_ne (by omega)]
        exact HDA.out j (by omega), ((((HK.out.drewN 1).setCell (fun q => q rfl) _).setCell (fun q => q rfl) _).setCell (fun q => q rfl) _).setCell (fun q => q rfl) _⟩
      case measure => simp [intOf]; omega
    · have b0 : ¬ (i : Int) < (n : Int) := by omega
      obtain rfl : i = n := by omega
      go_wp2_with fail
      go_loopw [0, 6] (fun v0 v6 w2 => ∃ (k : Nat) (p' : Option Addr) (c' : Nat) (D' : List Sl), k ≤ 9 ∧ v6 = .int .i64 k ∧ v0 = .slice p' (i + k) c' ∧ Hid (SO b1 w2 (.slice p' (i + k) c') D') ∧ Hid (Kp (fun k => some k ≠ (Value.slice p1 i c1).ownBlock) w w2) ∧ Hid (∀ r, (Value.slice p' (i + k) c').ownBlock = some r → some r = (Value.slice p1 i c1).ownBlock ∨ w.heap.size ≤ r)) (fun _ v6 _ => 9 - (intOf v6).toNat)
      case atStart => exact ⟨0, p1, c1, D, by omega, rfl, rfl, HD, HK, fun r hr => Or.inl hr.symm⟩
      case round =>
        obtain ⟨k, p', c', D', hk, rfl, rfl, HD2, HK2, HO2⟩ := hrel
        rename World => w2
        have y1 : (0 : Int) ≤ (k : Int) := by omega
        by_cases hk9 : k < 9
        · have b1 : (k : Int) < 9 := by omega
          have hbw := Nat.le_trans HBB.out HK2.out.size
          go_wp2_with (at_builtin; (with_reducible refine wpList_push (z := ⟨-8, 0, 0, false⟩) rfl _ _ rfl p' (i + k) c' D' rfl rfl HD2.out hbw (by omega) ?_); intro q' d' w5 HS5 HG5 HB5)
          go_roundw
          case rel => exact ⟨k + 1, q', d', D' ++ [⟨-8, 0, 0, false⟩], by omega, by go_num, rfl, HS5, (HK2.out.alloc _).two (Kp.grown HG5.out) (fun b hb hl e => by
            rcases HO2.out b e.symm with q | q
            · exact hb q
            · omega), fun r hr => by
            rcases HB5.out with q | q
            · exact HO2.out r (q ▸ hr)
            · have e : r = _ := Option.some.inj (hr.symm.trans q)
              refine Or.inr ?_
              rw [e]
              exact Nat.le_trans HK2.out.size (Up.alloc w2 _).size⟩
          case measure => simp [intOf]; omega
        · have b1 : ¬ (k : Int) < 9 := by omega
          obtain rfl : k = 9 := by omega
          go_wp2_with fail
          go_ret
          exact ⟨rfl, HK2⟩
end Go.Proofs.Ytjklaemhfhakhaa
