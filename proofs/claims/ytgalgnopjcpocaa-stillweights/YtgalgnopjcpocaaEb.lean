/- StillNil, StillWeights: the walks. -/
import Derived.Test.YtgalgnopjcpocaaEa
import Derived.Test.YtgalgnopjcpocaaQb
namespace Go.Proofs.Ytgalgnopjcpocaa
open Go.ChangeShapes Go.WideShapes Go.ChangeAt Go.RowKit Go.Fl Ieee
attribute [local go_sem] run_store_float run_store_c isSome_set call20 call33 run_neg fold_eq fold_ne fold_lt fold_gt abs_eq

set_option maxRecDepth 20000 in
theorem t5 (p : Option Addr) (n c : Nat) (k : Int) (w : World) : Calls Try.prog 5 #[.slice p n c, .int .i64 k] w (YS w) := by
  go_enter Try.func5, Try.ntmps5
  go_wp2_with (first
    | (go_at_call 15; (with_reducible refine (t15n _ _ _ _).mono ?_); rintro e w' ⟨rfl, hw⟩; subst w')
    | (go_at_call 17; (with_reducible refine (t17n _ _).mono ?_); rintro e w' ⟨rfl, hw⟩; subst w')
    | (go_at_call 11; (with_reducible refine (t11 _).mono ?_); rintro e w1 ⟨rfl, U1⟩))
  go_ret
  exact ⟨rfl, U1⟩
theorem weights_both (o : Int) : ∃ D : List Int, D.length ≤ 9 ∧ (∀ w, Calls Try.prog 9 #[.int .i64 o] w (WL w D)) ∧ (∀ w, Calls Try.prog 10 #[.int .i64 o] w (WL w D)) := by
  by_cases h : 0 ≤ o ∧ o ≤ 8
  · obtain ⟨n, rfl⟩ : ∃ n : Nat, o = n := ⟨o.toNat, by omega⟩
    exact ⟨wts n, by rw [wts_len]; omega, fun w => t9 (by omega) w, fun w => t10 (by omega) w⟩
  · exact ⟨[], by simp, fun w => t9n (by simp; omega) w, fun w => t10n (by omega) w⟩
/-- Three rows, of which the first is written over. -/
structure W3 (w w1 w2 wr : World) (pa pb pc : Option Addr) (ca cb cc n i : Nat) (d D : List Int) : Prop where
  a : IRw w.heap.size wr (.slice pa n ca) d
  b : IRw w1.heap.size wr (.slice pb n cb) D
  c : IRw w2.heap.size wr (.slice pc n cc) D
  ab : ∀ j, (Value.slice pa n ca).ownBlock = some j → j < w1.heap.size
  upw : Up w wr
  sz : w.heap.size ≤ w1.heap.size ∧ w1.heap.size ≤ w2.heap.size
  rest : ∀ j, i ≤ j → j < n → d[j]! = D[j]!
theorem W3.put {w w1 w2 wr : World} {ga : Nat} {pb pc : Option Addr} {ca cb cc n i : Nat} {d D : List Int} (h : W3 w w1 w2 wr (some ⟨ga, 0, none⟩) pb pc ca cb cc n i d D) (z : Int) : W3 w w1 w2 (wr.setCell ⟨ga, i, none⟩ (.int .i64 z)) (some ⟨ga, 0, none⟩) pb pc ca cb cc n (i + 1) (d.set i z) D := by
  obtain ⟨s1, s2⟩ := OR.put h.a i z
  have hg := h.ab ga rfl
  have hs := h.sz
  refine ⟨s1, OR.far h.b s2 (fun e => by have := (h.b.lt ga e).1; omega), OR.far h.c s2 (fun e => by have := (h.c.lt ga e).1; omega), h.ab, s2.up h.upw (OR.at_ h.a).1, hs, fun j hj hn => ?_⟩
  rw [get_set' d i z (by rw [OR.len h.a]; exact hn), if_neg (by omega)]
  exact h.rest j (by omega) hn
theorem W3.up {w w1 w2 wr w' : World} {pa pb pc : Option Addr} {ca cb cc n i : Nat} {d D : List Int} (h : W3 w w1 w2 wr pa pb pc ca cb cc n i d D) (hu : Up wr w') : W3 w w1 w2 w' pa pb pc ca cb cc n i d D :=
  ⟨OR.up h.a hu, OR.up h.b hu, OR.up h.c hu, h.ab, h.upw.trans hu, h.sz, h.rest⟩
theorem IRw.at_cell {b : Nat} {w : World} {p : Option Addr} {n cap i : Nat} {d : List Int} (h : IRw b w (.slice p n cap) d) (hi : i < n) : ∃ g, p = some ⟨g, 0, none⟩ ∧ w.cell? ⟨g, i, none⟩ = some (.int .i64 d[i]!) ∧ w.frozen? ⟨g, i, none⟩ = false := by
  have hl := OR.len h
  obtain ⟨p', cap', he, hp⟩ := OR.form h
  simp only [Value.slice.injEq] at he
  obtain ⟨e1, _, _⟩ := he
  obtain ⟨g, rfl⟩ := hp (by omega)
  subst e1
  exact ⟨g, rfl, OR.cell h (by omega), OR.frz h i⟩
set_option maxRecDepth 20000 in
set_option maxHeartbeats 2000000 in
theorem t3 (o : Int) (w : World) : Calls Try.prog 3 #[.int .i64 o] w (YS w) := by
  obtain ⟨D, hD, h9, h10⟩ := weights_both o
  have H9 : Hid (∀ w, Calls Try.prog 9 #[.int .i64 o] w (WL w D)) := h9
  have H10 : Hid (∀ w, Calls Try.prog 10 #[.int .i64 o] w (WL w D)) := h10
  obtain ⟨n, hn⟩ : ∃ n, D.length = n := ⟨_, rfl⟩
  have z1 : (n : Int) ≤ 9 := by omega
  clear h9 h10 hD
  go_enter Try.func3, Try.ntmps3
  go_wp2_with (first
    | (go_at_call 9; (fail_if_success have := HA); (with_reducible refine (H9.out _).mono ?_); rintro e w1 ⟨pa, ca, rfl, HA, U1⟩; rw [hn] at HA ⊢)
    | (go_at_call 9; (with_reducible refine (H9.out _).mono ?_); rintro e w2 ⟨pb, cb, rfl, HB, U2⟩; rw [hn] at HB ⊢)
    | (go_at_call 10; (with_reducible refine (H10.out _).mono ?_); rintro e w3 ⟨pc, cc, rfl, HC, U3⟩; rw [hn] at HC ⊢))
  have HS : Hid (W3 w w1 w2 w3 pa pb pc ca cb cc n 0 D D) := ⟨OR.up (OR.up HA.out U2.out) U3.out, OR.up HB.out U3.out, HC.out, fun j hj => (HA.out.lt j hj).2, (U1.out.trans U2.out).trans U3.out, ⟨U1.out.size, U2.out.size⟩, fun j _ _ => rfl⟩
  clear HA HB HC U1 U2 U3 H9 H10
  go_loopw [6] (fun vi wr => ∃ (i : Nat) (d : List Int), i ≤ n ∧ vi = .int .i64 i ∧ Hid (W3 w w1 w2 wr pa pb pc ca cb cc n i d D)) (fun vi _ => n - (intOf vi).toNat)
  case atStart => exact ⟨0, D, by omega, rfl, HS⟩
  case round =>
    clear HS
    obtain ⟨i, d, hi, rfl, HS⟩ := hrel
    by_cases hlt : i < n
    · obtain ⟨ga, rfl, a1, a2⟩ := IRw.at_cell HS.out.a hlt
      obtain ⟨gb, rfl, b1, b2⟩ := IRw.at_cell HS.out.b hlt
      obtain ⟨gc, rfl, c1, c2⟩ := IRw.at_cell HS.out.c hlt
      rw [HS.out.rest i (Nat.le_refl _) hlt] at a1
      generalize D[i]! = x at a1 b1 c1
      have y1 : (i : Int) < (n : Int) := by omega
      have y2 : (0 : Int) ≤ (i : Int) := by omega
      have y3 : (x != x) = false := by simp
      go_wp2_with fail
      go_quiet (fail)
      go_wp2
      go_roundw
      case rel => exact ⟨i + 1, _, by omega, by go_num, (HS.out.up (Up.drewN _ _)).put 99⟩
      case measure => simp [intOf]; omega
    · obtain rfl : i = n := by omega
      clear hlt hi
      generalize hW : wr = W at *
      clear hW
      go_wp2
      go_loopw [7] (fun vi wq => ∃ (j : Nat), j ≤ i ∧ vi = .int .i64 j ∧ Hid (Up W wq)) (fun vi _ => i - (intOf vi).toNat)
      case atStart => exact ⟨0, by omega, rfl, Up.refl _⟩
      case round =>
        obtain ⟨j, hj, rfl, HU⟩ := hrel
        by_cases hlt : j < i
        · obtain ⟨gb, rfl, b1, _⟩ := IRw.at_cell HS.out.b hlt
          obtain ⟨gc, rfl, c1, _⟩ := IRw.at_cell HS.out.c hlt
          replace b1 := cell_up b1 HU.out
          replace c1 := cell_up c1 HU.out
          generalize D[j]! = x at b1 c1
          have y1 : (j : Int) < (i : Int) := by omega
          have y2 : (0 : Int) ≤ (j : Int) := by omega
          have y3 : (x != x) = false := by simp
          go_wp2_with fail
          go_quiet (fail)
          go_wp2
          go_roundw
          case rel => exact ⟨j + 1, by omega, by go_num, HU.out.trans (Up.drewN _ _)⟩
          case measure => simp [intOf]; omega
        · obtain rfl : j = i := by omega
          go_wp2_with (go_at_call 11; (with_reducible refine (t11 _).mono ?_); rintro e w5 ⟨rfl, U5⟩)
          go_ret
          exact ⟨rfl, (HS.out.upw.trans HU.out).trans U5.out⟩
end Go.Proofs.Ytgalgnopjcpocaa
