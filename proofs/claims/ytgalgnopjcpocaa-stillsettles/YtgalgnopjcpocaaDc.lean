/- Cancel: differences taken in place. -/
import Derived.Test.YtgalgnopjcpocaaDb
namespace Go.Proofs.Ytgalgnopjcpocaa
open Go.ChangeShapes Go.WideShapes Go.ChangeAt Go.RowKit Go.Fl Ieee
attribute [local go_sem] run_store_float run_store_c isSome_set call20 call33 run_neg fold_eq fold_ne fold_lt fold_gt abs_eq

/-- A difference by parts. -/
def difC (p q : C2) : C2 := (bin .sub p.1 q.1, bin .sub p.2 q.2)
/-- What stands at a gate of a row, where the rows behind q are done, and of q so many gates. -/
def stF (F : Nat → Nat → C2) (q r a g : Nat) : C2 := if q < a ∨ (a = q ∧ g < r) then difC (F a g) (F (a - 1) g) else F a g
theorem stF_next (F : Nat → Nat → C2) (q r a g : Nat) : stF F q (r + 1) a g = if a = q ∧ g = r then difC (F a g) (F (a - 1) g) else stF F q r a g := by
  unfold stF
  by_cases h : a = q ∧ g = r
  · rw [if_pos h, if_pos (Or.inr ⟨h.1, by omega⟩)]
  · rw [if_neg h]
    by_cases h2 : q < a ∨ (a = q ∧ g < r)
    · rw [if_pos h2, if_pos (by omega)]
    · rw [if_neg h2, if_neg (by omega)]
theorem stF_row (F : Nat → Nat → C2) {q m a g : Nat} (hg : g < m) : stF F (q + 1) m a g = stF F q 0 a g := by
  unfold stF
  by_cases h : q < a ∨ (a = q ∧ g < 0)
  · rw [if_pos h, if_pos (by omega)]
  · rw [if_neg h, if_neg (by omega)]
/-- The differences under way. -/
structure DS (w0 w wr : World) (A N m q r : Nat) (B : Nat → Nat) (D : Nat → List (Nat × Nat)) (F : Nat → Nat → C2) : Prop where
  rt : RT w0.heap.size wr A N m B D
  up : Up w0 wr
  val : ∀ a, a < N → ∀ g, g < m → ab2 (D a)[g]! = stF F q r a g
/-- What differences leaves. -/
def DO (w0 : World) (A N m off n c : Nat) (B : Nat → Nat) (F : Nat → Nat → C2) (e : Ending) (w' : World) : Prop :=
  ∃ D, e = .returned (.slice (some ⟨A, off + 1, none⟩) n c) ∧ Hid (RT w0.heap.size w' A N m B D) ∧ Hid (Up w0 w') ∧ Hid (∀ a, a < N → ∀ g, g < m → ab2 (D a)[g]! = if off < a then difC (F a g) (F (a - 1) g) else F a g)
theorem DS.put {w0 w wr : World} {A N m q r : Nat} {B : Nat → Nat} {D : Nat → List (Nat × Nat)} {F : Nat → Nat → C2} (h : DS w0 w wr A N m q r B D F) (hq : q < N) (hr : r < m) {x y : Nat} (hx : (ab x, ab y) = difC (F q r) (F (q - 1) r)) : DS w0 w (wr.setCell ⟨B q, r, none⟩ (.complex .f64 x y)) A N m q (r + 1) B (fun i => if i = q then (D q).set r (x, y) else D i) F := by
  obtain ⟨s1, s2⟩ := h.rt.put hq r x y
  refine ⟨s1, s2.up h.up (h.rt.lo hq).1, fun a ha g hg => ?_⟩
  rw [stF_next]
  by_cases e : a = q
  · subst e
    simp only [if_true]
    rw [get_set' _ _ _ (by rw [h.rt.len ha]; exact hg)]
    by_cases e2 : g = r
    · subst e2; simp only [if_true, and_self]; exact hx
    · rw [if_neg e2, if_neg (fun h => e2 h.2)]; exact h.val a ha g hg
  · simp only [if_neg e]
    rw [if_neg (fun h => e h.1)]; exact h.val a ha g hg
theorem DS.drewN {w0 w wr : World} {A N m q r : Nat} {B : Nat → Nat} {D : Nat → List (Nat × Nat)} {F : Nat → Nat → C2} (h : DS w0 w wr A N m q r B D F) (j : Nat) : DS w0 w (wr.drewN j) A N m q r B D F := ⟨h.rt.up (Up.drewN _ _), h.up.trans (Up.drewN _ _), h.val⟩
set_option maxRecDepth 20000 in
set_option maxHeartbeats 2000000 in
theorem t32 {w0 w : World} {A N m off n n1 c : Nat} {B : Nat → Nat} {D : Nat → List (Nat × Nat)} {F : Nat → Nat → C2} (h : RT w0.heap.size w A N m B D) (hu : Up w0 w) (hv : ∀ a, a < N → ∀ g, g < m → ab2 (D a)[g]! = F a g) (hn : off + n = N) (hn1 : n = n1 + 1) (h1 : 1 ≤ n1) (hN : N ≤ 256) (hm : m ≤ 16384) (hc : n ≤ c) (hc2 : c ≤ 1000) :
    Calls Try.prog 32 #[.slice (some ⟨A, off, none⟩) n c] w (DO w0 A N m off n1 (c - 1) B F) := by
  have HS0 : Hid (DS w0 w w A N m (N - 1) 0 B D F) := ⟨h, hu, fun a ha g hg => by
    rw [hv a ha g hg]; unfold stF; rw [if_neg (by omega)]⟩
  have HN : Hid (off + n = N ∧ n = n1 + 1 ∧ N - 1 = off + n1) := ⟨hn, hn1, by omega⟩
  have z1 : (n : Int) - 1 = (n1 : Int) := by omega
  have z2 : (1 : Int) ≤ (n : Int) := by omega
  have z3 : (n : Int) ≤ (c : Int) := by omega
  have z4 : (n : Int) ≤ 256 := by omega
  have z5 : (c : Int) ≤ 1000 := by omega
  have z6 : n - 1 = n1 := by omega
  have z7 : ¬ c = 1 := by omega
  have z8 : ¬ c - 1 = 0 := by omega
  have z9 : (n1 : Int) ≤ 256 := by omega
  rw [HN.out.2.2] at HS0
  clear h hu hv hn hn1
  go_enter Try.func32, Try.ntmps32
  go_wp2
  go_loopw [3, 4, 5] (fun vp _ _ wr => ∃ (p : Nat) (D : Nat → List (Nat × Nat)), p ≤ n1 ∧ vp = .int .i64 p ∧ Hid (DS w0 w wr A N m (off + p) 0 B D F)) (fun vp _ _ _ => (intOf vp).toNat)
  case atStart => exact ⟨n1, D, by omega, rfl, HS0⟩
  case round =>
    clear HS0
    obtain ⟨p, D, hp, rfl, HS⟩ := hrel
    rcases Nat.eq_zero_or_pos p with hp0 | hp0
    · subst hp0
      go_wp2
      go_ret
      refine ⟨D, rfl, HS.out.rt, HS.out.up, fun a ha g hg => ?_⟩
      rw [HS.out.val a ha g hg]
      unfold stF
      by_cases e : off < a
      · rw [if_pos e, if_pos (by omega)]
      · rw [if_neg e, if_neg (by omega)]
    · obtain ⟨k, hk⟩ : ∃ k, p = k + 1 := ⟨p - 1, by omega⟩
      have HK : Hid (p = k + 1) := hk
      have y1 : (0 : Int) < (p : Int) := by omega
      have y2 : (p : Int) - 1 = (k : Int) := by omega
      have y3 : (k : Int) < (n : Int) := by omega
      have y4 : (p : Int) < (n : Int) := by omega
      have y5 : (0 : Int) ≤ (k : Int) := by omega
      have y6 : (0 : Int) ≤ (p : Int) := by omega
      have hpN : off + p < N := by have := HN.out; omega
      have hkN : off + k < N := by omega
      have c1 := HS.out.rt.hdr (off + k) hkN
      have HQ : Hid (off + p - 1 = off + k) := by show _ = _; omega
      have HPN : Hid (off + p < N ∧ off + k < N) := ⟨hpN, hkN⟩
      generalize hW : wr = W at *
      clear hW hk hpN hkN
      go_wp2
      clear c1
      go_loopw [4, 5, 19] (fun _ _ vi wr => ∃ (r : Nat) (D : Nat → List (Nat × Nat)), r ≤ m ∧ vi = .int .i64 r ∧ Hid (DS w0 w wr A N m (off + p) r B D F)) (fun _ _ vi _ => m - (intOf vi).toNat)
      case atStart => exact ⟨0, D, by omega, rfl, HS⟩
      case round =>
        clear HS
        obtain ⟨r, D, hr, rfl, HS⟩ := hrel
        by_cases hlt : r < m
        · have x1 : (r : Int) < (m : Int) := by omega
          have x2 : (0 : Int) ≤ (r : Int) := by omega
          have c2 := HS.out.rt.hdr (off + p) HPN.out.1
          have d1 := HS.out.rt.cell HPN.out.2 hlt
          have d2 := HS.out.rt.cell HPN.out.1 hlt
          have f2 := (HS.out.rt.row (off + p) HPN.out.1).frz r
          have HV1 : Hid (ab2 (D (off + k))[r]! = F (off + k) r) := by
            show _ = _
            rw [HS.out.val _ HPN.out.2 _ hlt]; unfold stF; rw [if_neg (by have := HK.out; omega)]
          have HV2 : Hid (ab2 (D (off + p))[r]! = F (off + p) r) := by
            show _ = _
            rw [HS.out.val _ HPN.out.1 _ hlt]; unfold stF; rw [if_neg (by omega)]
          have i2 : (wr.cell? ⟨B (off + p), r, none⟩).isSome = true := by rw [d2]; rfl
          generalize (D (off + k))[r]! = ux at d1 HV1
          generalize (D (off + p))[r]! = vx at d2 HV2
          obtain ⟨u1, u2⟩ := ux
          obtain ⟨v1, v2⟩ := vx
          simp only at d1 d2
          go_wp2_with ((with_reducible refine upon_csub ?_); intro x y nn hx hy)
          go_roundw
          case rel => exact ⟨r + 1, _, by omega, by go_num, (HS.out.drewN nn).put HPN.out.1 hlt (by
            have e1 := HV1.out
            have e2 := HV2.out
            rw [HQ.out, ← e1, ← e2, hx.out, hy.out]; rfl)⟩
          case measure => simp [intOf]; omega
        · obtain rfl : r = m := by omega
          go_wp2
          go_roundw
          case rel => exact ⟨k, D, by have := HK.out; omega, by go_num, HS.out.rt, HS.out.up, fun a ha g hg => by
            rw [HS.out.val a ha g hg, HK.out]
            exact stF_row F hg⟩
          case measure => have := HK.out; simp [intOf]; omega
end Go.Proofs.Ytgalgnopjcpocaa
