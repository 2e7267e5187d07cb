/- Several rings: how far, and the next near one. -/
import Derived.Test.YtijfmaepoamkgabJg
namespace Go.Proofs.Ytijfmaepoamkgab.Fo
open Go.ChangeShapes Go.WideShapes Go.ChangeAt Go.RowKit

/-- Rings as they may be. -/
def OKR (F : Nat → Int × Int) (k : Nat) : Prop := ∀ i, i < k → 1 ≤ (F i).2 ∧ (F i).2 ≤ 1099511627776 ∧ 0 ≤ (F i).1 ∧ (F i).1 < (F i).2
/-- How far the farthest one is. -/
def wf (F : Nat → Int × Int) (k : Nat) (x : Int) : Int := worst (fun j => (F j).1) (fun j => (F j).2) x k
theorem wf_succ (F : Nat → Int × Int) (k : Nat) (x : Int) : wf F (k + 1) x = max (wf F k x) (far x (F k).1 (F k).2) := rfl
theorem wf_lt {F : Nat → Int × Int} {k : Nat} (h : OKR F k) (x : Int) : 0 ≤ wf F k x ∧ wf F k x < 1099511627776 :=
  ⟨worst_nn _ _ _ _, worst_lt _ _ _ _ (by decide) k fun i hi => ⟨(h i hi).1, (h i hi).2.1⟩⟩
/-- How many on, of all rings. -/
def waitM (F : Nat → Int × Int) (x off : Int) : Nat → Int
  | 0 => 0
  | n + 1 => max (waitM F x off n) (waitF (F n).1 (F n).2 x off)
theorem wait_pos {r m x off : Int} (hm : 1 ≤ m) (ho : 0 ≤ off) : 0 ≤ waitF r m x off ∧ waitF r m x off ≤ m ∧ (waitF r m x off = 0 → far x r m ≤ off) ∧ ∀ j, x ≤ j → j < x + waitF r m x off → off < far j r m := by
  have r0 := Int.emod_nonneg (x - r) (show m ≠ 0 by omega)
  have r1 := Int.emod_lt_of_pos (x - r) (show 0 < m by omega)
  have hf := far_min (x := x) (r := r) hm
  unfold waitF
  by_cases h : far x r m ≤ off
  · rw [if_pos h]
    exact ⟨by omega, by omega, fun _ => h, fun j h1 h2 => by omega⟩
  · rw [if_neg h]
    refine ⟨by omega, by omega, fun h0 => by omega, fun j h1 h2 => ?_⟩
    have hj := far_min (x := j) (r := r) hm
    have e : (j - r) % m = (x - r) % m + (j - x) := by
      have e1 := Int.mul_ediv_add_emod (x - r) m
      have : j - r = ((x - r) % m + (j - x)) + m * ((x - r) / m) := by omega
      rw [this, Int.add_mul_emod_self_left, Int.emod_eq_of_lt (by omega) (by omega)]
    rw [e] at hj
    omega
theorem waitM_ok {F : Nat → Int × Int} {k : Nat} (h : OKR F k) (x : Int) {off : Int} (ho : 0 ≤ off) : 0 ≤ waitM F x off k ∧ waitM F x off k ≤ 1099511627776 ∧ (waitM F x off k = 0 → wf F k x ≤ off) ∧ ∀ j, x ≤ j → j < x + waitM F x off k → off < wf F k j := by
  induction k with
  | zero => exact ⟨Int.le_refl _, by unfold waitM; omega, fun _ => ho, fun j h1 h2 => by simp only [waitM] at h2; omega⟩
  | succ n ih =>
    obtain ⟨a1, a2, a3, a4⟩ := ih fun i hi => h i (by omega)
    obtain ⟨q1, q2, q3, q4⟩ := h n (by omega)
    obtain ⟨b1, b2, b3, b4⟩ := wait_pos (r := (F n).1) (x := x) q1 ho
    simp only [waitM, wf_succ]
    refine ⟨by omega, by omega, fun h0 => ?_, fun j h1 h2 => ?_⟩
    · have := a3 (by omega)
      have := b3 (by omega)
      omega
    · by_cases hj : j < x + waitM F x off n
      · have := a4 j h1 hj
        omega
      · have := b4 j h1 (by omega)
        omega
/-- What 'next' answers. -/
def Nx (F : Nat → Int × Int) (k : Nat) (x off most y : Int) : Prop := x ≤ y ∧ y ≤ 4398046511104 ∧ (∀ j, x ≤ j → j < y → off < wf F k j) ∧ (y < most → wf F k y ≤ off)
set_option maxHeartbeats 4000000 in
theorem t32 (F : Nat → Int × Int) (g k : Nat) (x off most : Int) (w : World) (hF : OKR F k) (hG : RG w g k F) (hk : k ≤ 8) (hx : 0 ≤ x ∧ x ≤ 4398046511104) (ho : 0 ≤ off ∧ off ≤ 9223372036854775807) (hm : most ≤ 4194304) : Calls Try.prog 32 #[.slice (some ⟨g, 0, none⟩) k k, .int .i64 x, .int .i64 off, .int .i64 most] w fun e w' => ∃ y, e = .returned (.int .i64 y) ∧ Hid (Nx F k x off most y ∧ Up w w') := by
  have HF : Hid (OKR F k) := hF
  have HG : Hid (RG w g k F) := hG
  have hk8 : (k : Int) ≤ 8 := by omega
  clear hF hG
  go_enter Try.func32, Try.ntmps32
  go_wp2
  go_loopw [1] (fun v1 wr => ∃ y : Int, v1 = .int .i64 y ∧ 0 ≤ y ∧ y ≤ 4398046511104 ∧ Hid (x ≤ y ∧ ∀ j, x ≤ j → j < y → off < wf F k j) ∧ Hid (Up w wr)) (fun v1 _ => (most - intOf v1).toNat)
  case atStart => exact ⟨x, rfl, hx.1, hx.2, ⟨Int.le_refl _, fun j h1 h2 => by omega⟩, Up.refl _⟩
  case round =>
    obtain ⟨y, rfl, y0, y1, HY, HU⟩ := hrel
    by_cases hlt : y < most
    · go_wp2
      obtain ⟨a1, a2, a3, a4⟩ := waitM_ok HF.out y ho.1
      have HA : Hid ((waitM F y off k = 0 → wf F k y ≤ off) ∧ ∀ j, y ≤ j → j < y + waitM F y off k → off < wf F k j) := ⟨a3, a4⟩
      clear a3 a4
      go_loopw [17, 9] (fun vi vs wr2 => ∃ (i : Nat) (s : Int), i ≤ k ∧ vi = .int .i64 i ∧ vs = .int .i64 s ∧ Hid (s = waitM F y off i) ∧ Hid (Up w wr2)) (fun vi _ _ => k - (intOf vi).toNat)
      case atStart => exact ⟨0, 0, by omega, rfl, rfl, rfl, HU⟩
      case round =>
        obtain ⟨i, s, hi, rfl, rfl, HS, HU2⟩ := hrel
        by_cases hik : i < k
        · obtain ⟨c0, c1⟩ := (HG.out.up HU2.out).cells hik
          obtain ⟨q1, q2, q3, q4⟩ := HF.out i hik
          have HZ2 : Hid (waitM F y off (i + 1) = max s (waitF (F i).1 (F i).2 y off)) := by show _ = _; rw [waitM, HS.out]
          generalize (F i).1 = ri at *
          generalize (F i).2 = mi at *
          have HLT : Hid (i < k) := hik
          have hiz : (i : Int) < (k : Int) := by omega
          have hiz0 : (0 : Int) ≤ (i : Int) := by omega
          go_wp2_with (go_at_call 47; (with_reducible refine (t47 ri mi y off q1 q2 ⟨q3, q4⟩ (by omega) ho _).mono ?_); rintro e w3 ⟨rfl, HU3⟩)
          all_goals
            go_roundw
            case rel => exact ⟨i + 1, _, HLT.out, by go_num, rfl, by show _ = _; rw [HZ2.out]; omega, (HU2.out.trans (Up.alloc _ _)).trans HU3.out⟩
            case measure => have := HLT.out; simp [intOf]; omega
        · obtain rfl : i = k := by omega
          have hs0 : 0 ≤ s ∧ s ≤ 1099511627776 := by rw [HS.out]; exact ⟨a1, a2⟩
          by_cases hz : s = 0
          · subst hz
            go_wp2
            go_ret
            exact ⟨y, rfl, ⟨HY.out.1, y1, HY.out.2, fun _ => HA.out.1 HS.out.symm⟩, HU2.out⟩
          · have hzb : (s == 0) = false := by simpa using hz
            go_wp2
            go_roundw
            case rel =>
              refine ⟨y + s, rfl, by omega, by omega, ⟨by have := HY.out.1; omega, fun j h1 h2 => ?_⟩, HU2⟩
              by_cases hj : j < y
              · exact HY.out.2 j h1 hj
              · exact HA.out.2 j (by omega) (by rw [← HS.out]; exact h2)
            case measure => simp [intOf]; omega
    · go_wp2
      go_ret
      exact ⟨y, rfl, ⟨HY.out.1, y1, HY.out.2, fun h => absurd h (by omega)⟩, HU.out⟩
end Go.Proofs.Ytijfmaepoamkgab.Fo
