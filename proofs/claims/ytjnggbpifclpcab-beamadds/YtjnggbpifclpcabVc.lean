/- Null: a polynomial by its roots. -/
import Derived.Test.YtjnggbpifclpcabVb
namespace Go.Proofs.Ytjnggbpifclpcab
open Go.ChangeShapes Go.WideShapes Go.ChangeAt Go.RowKit Go.Fl Ieee
attribute [local go_sem] run_store_float run_store_complex call20 call19 run_neg fold_eq fold_ne fold_lt fold_gt abs_eq

def zeroC : CN := (ab 0, ab 0)
/-- The number ahead of k. -/
def aheadF (X : Nat → CN) (k : Nat) : CN := if k = 0 then zeroC else X (k - 1)
/-- A polynomial times another one whose only root is z. -/
def rootF (X : Nat → CN) (n : Nat) (z : CN) (k : Nat) : CN := if k < n then subC (aheadF X k) (mulC z (X k)) else aheadF X k
theorem ahead_step (X : Nat → CN) (k : Nat) : aheadF X (k + 1) = X k := by
  unfold aheadF
  rw [if_neg (by omega), Nat.add_sub_cancel]
theorem sub_pair {x y r s p q : Nat} {a z X : CN} (ha : Hid ((ab x, ab y) = a)) (hr : Hid (ab r = mulR z.1 z.2 X.1 X.2)) (hs : Hid (ab s = mulI z.1 z.2 X.1 X.2)) (hp : Hid (ab p = bin .sub (ab x) (ab r))) (hq : Hid (ab q = bin .sub (ab y) (ab s))) : (ab p, ab q) = subC a (mulC z X) := by
  rw [hp.out, hq.out, hr.out, hs.out, ← ha.out]
  rfl
set_option maxHeartbeats 4000000 in
set_option maxRecDepth 20000 in
theorem t22 {w : World} {g o n c a b : Nat} {X : Nat → CN} {f : Nat → Nat × Nat} (h : RD w g o n f) (hX : ∀ j, j < n → ab2 (f j) = X j) (hn : n ≤ 1000) : Calls Try.prog 22 #[.slice (some ⟨g, o, none⟩) n c, .complex .f64 a b] w (XlR (n + 1) (rootF X n (ab a, ab b)) w) := by
  obtain ⟨i0, hi, hz0, hz1, hz2⟩ := info_parts info41
  have HR : Hid (∀ W, Up w W → RD W g o n f) := fun W hu => h.up hu
  have HX : Hid (∀ j, j < n → ab2 (f j) = X j) := hX
  clear h hX
  have z0 : (n : Int) ≤ 1000 := by omega
  obtain ⟨N, hN⟩ : ∃ N, n + 1 = N := ⟨_, rfl⟩
  have hNz : (n : Int) + 1 = (N : Int) := by omega
  have hN' : Hid (n + 1 = N) := hN
  have hN1 : N ≤ 1001 := by omega
  have hN2 : n < N := by omega
  have hN3 : (n : Int) < (N : Int) := by omega
  rw [hN]
  clear hN
  go_enter Try.func22, Try.ntmps22
  go_wp2_with (refine wpList_make_full _ rfl _ _ 25 rfl w.heap.size 26 i0 (.complex .f64 0 0) 1 Try.underlying25 hi hz0 hz1 .i64 .i64 _ _ N rfl rfl rfl rfl (by rw [hz2]; omega) (by unfold maxLen; omega) (Nat.le_refl _) ?_; intro w1 hown hgr; obtain ⟨G, hG⟩ : ∃ g, w.heap.size = g := ⟨_, rfl⟩; (have HM : Hid (XR w.heap.size w1 G N (fun _ => (ab 0, ab 0)) ∧ Up w w1) := ⟨XR.made ⟨hG, CRow.made hG hown hgr⟩, (CRow.made hG hown hgr).2⟩); clear hown hgr; rw [hG]; (have HG : Hid (w.heap.size = G) := hG); clear hG)
  go_loopw [6, 7, 8, 15] (fun va _ _ vi wr => ∃ (k x y : Nat) (Y : Nat → CN), k ≤ n ∧ vi = .int .i64 k ∧ va = .complex .f64 x y ∧ Hid ((ab x, ab y) = aheadF X k) ∧ Hid (XR w.heap.size wr G N Y) ∧ Hid (Up w wr) ∧ Hid (∀ j, j < k → Y j = rootF X n (ab a, ab b) j)) (fun _ _ _ vi _ => n - (intOf vi).toNat)
  case atStart => exact ⟨0, 0, 0, _, by omega, rfl, rfl, rfl, HM.out.1, HM.out.2, fun j hj => by omega⟩
  case round =>
    clear HM
    obtain ⟨k, x, y, Y, hk, rfl, rfl, HA, HY, HU, HJ⟩ := hrel
    rename World => wr
    by_cases hlt : k < n
    · obtain ⟨p, q, hpq⟩ : ∃ p q, f k = (p, q) := ⟨_, _, rfl⟩
      have c1 : wr.cell? ⟨g, o + k, none⟩ = some (.complex .f64 p q) := by have := HR.out wr HU.out k hlt; rw [hpq] at this; exact this
      have HP : Hid ((ab p, ab q) = X k) := by
        have := HX.out k hlt
        rw [hpq] at this; exact this
      clear hpq
      have z1 : (k : Int) < (n : Int) := by omega
      have z2 : (0 : Int) ≤ (k : Int) := by omega
      have z3 : (k : Int) < (N : Int) := by omega
      go_wp2_with (first
        | (go_at_call 31; (with_reducible refine (t31 _ _ _ _ _).mono ?_); rintro e w2 ⟨r, s, k2, rfl, rfl, hr, hs⟩)
        | ((with_reducible refine upon_csub ?_); intro r3 s3 k3 hr3 hs3; (have HY2 : Hid (XR w.heap.size (wr.drewN (k2 + k3)) G N Y) := HY.out.up (Up.drewN _ _)); obtain ⟨x9, y9, c9, -, f9⟩ := HY2.out.cell (show k < N by omega); (have c8 : ((wr.drewN (k2 + k3)).cell? ⟨G, k, none⟩).isSome = true := by rw [c9]; rfl)))
      have HV : Hid ((ab r3, ab s3) = subC (aheadF X k) (mulC (ab a, ab b) (X k))) := by
        show _ = _
        rw [← HP.out]
        exact sub_pair HA hr hs hr3 hs3
      have HP2 := HY2.out.put (show k < N by omega) r3 s3
      have HP3 : Hid (XR w.heap.size _ G N _ ∧ But G _ _) := HP2
      clear HP2
      go_roundw
      case rel =>
        refine ⟨k + 1, p, q, _, by omega, by go_num, rfl, by show _ = _; rw [ahead_step]; exact HP.out, HP3.out.1, HP3.out.2.up (HU.out.trans (Up.drewN _ _)) (by rw [HG.out]; exact Nat.le_refl _), fun j hj => ?_⟩
        by_cases e : j = k
        · subst e
          rw [if_pos rfl, HV.out]
          unfold rootF
          rw [if_pos hlt]
        · rw [if_neg e]; exact HJ.out j (by omega)
      case measure => simp [intOf]; omega
    · obtain rfl : k = n := by omega
      obtain ⟨x9, y9, c9, -, f9⟩ := HY.out.cell hN2
      have c8 : (wr.cell? ⟨G, k, none⟩).isSome = true := by rw [c9]; rfl
      have HP3 : Hid (XR w.heap.size _ G N _ ∧ But G _ _) := HY.out.put hN2 x y
      have z2 : (0 : Int) ≤ (k : Int) := by omega
      go_wp2
      go_ret
      refine ⟨G, rfl, HP3.out.1.ext fun j hj => ?_, HP3.out.2.up HU.out (by rw [HG.out]; exact Nat.le_refl _)⟩
      by_cases e : j = k
      · subst e
        rw [if_pos rfl, HA.out]
        unfold rootF
        rw [if_neg (by omega)]
      · rw [if_neg e]; exact HJ.out j (by have := hN'.out; omega)
end Go.Proofs.Ytjnggbpifclpcab
