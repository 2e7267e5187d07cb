/- Null, as the program tells it. -/
import Derived.Test.YtjnggbpifclpcabVc
namespace Go.Proofs.Ytjnggbpifclpcab
open Go.ChangeShapes Go.WideShapes Go.ChangeAt Go.RowKit Go.Fl Ieee
attribute [local go_sem] run_store_float run_store_complex call20 call19 run_neg fold_eq fold_ne fold_lt fold_gt abs_eq

def oneC : CN := (ab 4607182418800017408, ab 0)
/-- The root of a bearing; the polynomial of i bearings. -/
def rtF (s t : Option Nat) : CN := (turnC (stepF s t), turnS (stepF s t))
def rowsN (s : Option Nat) (d : Nat → Option Nat) : Nat → Nat → CN
  | 0 => fun _ => oneC
  | i + 1 => rootF (rowsN s d i) (i + 1) (rtF s (d i))
def conjC (z : CN) : CN := (z.1, z.2.map neg)
def nullF (s : Option Nat) (d : Nat → Option Nat) (m k : Nat) : CN := if k < m + 1 then conjC (rowsN s d m k) else zeroC
def nullL (n : Int) (s : Option Nat) (d : Array Nat) : List C2 := if n ≤ d.size then [] else if n > 64 then [] else if fin s && finL d then (List.range n.toNat).map (nullF s (fun i => ab d[i]!) d.size) else []
def nullE (n : Int) (s : Option Nat) (d : Array Nat) : Int := if n ≤ d.size then 2 else if n > 64 then 3 else if fin s && finL d then 0 else 6
theorem LR.pl {n : Nat} {x : Nat → CN} {c : Int} {w w' : World} {e : Ending} (h : LR n x c w e w') : PL w ((List.range n).map x) c e w' := by
  obtain ⟨g, h1, h2, h3⟩ := h
  obtain ⟨d, hd, hx⟩ := h2.out.row
  have hl := hd.len
  refine ⟨_, d, h1, hd, h3, ?_⟩
  show _ = _
  refine List.ext_getElem (by simp [hl]) fun i hi _ => ?_
  have hi' : i < d.length := by simpa using hi
  have := hx i (by omega)
  rw [getElem!_pos d i hi'] at this
  simpa using this
theorem fin_one' {x : Nat} {b : Bool} (h : fin (ab x) = b) : finL #[x] = b := by rw [fin_one, h]
set_option maxHeartbeats 4000000 in
set_option maxRecDepth 20000 in
theorem t10ok {w : World} {p : Option Addr} {m c N x : Nat} {d : Array Nat} (h : FV w p m d) (h1 : m < N) (h2 : N ≤ 64) (hf : fin (ab x) = true) (hd : finL d = true) : Calls Try.prog 10 #[.int .i64 N, .float .f64 x, .slice p m c] w (LR N (nullF (ab x) (fun i => ab d[i]!) m) 0 w) := by
  obtain ⟨i0, hi, hz0, hz1, hz2⟩ := info_parts info41
  have HV : Hid (∀ W, Up w W → FV W p m d) := fun W hu => h.up hu
  have HF : Hid (finL #[x] = true) := fin_one' hf
  have HL : Hid (d.size = m) := h.len
  have HD : Hid (finL d = true) := hd
  clear h hf hd
  have z0 : (N : Int) ≤ 64 := by omega
  have z1 : (m : Int) < (N : Int) := by omega
  have z2 : ¬ (N : Int) ≤ (m : Int) := by omega
  go_enter Try.func10, Try.ntmps10
  go_wp2_with (first
    | (go_at_call 21; (with_reducible refine (t21k (FV.one _ _ _) (by omega) HF.out).mono ?_); rintro e w' ⟨rfl, hw⟩; subst w')
    | (go_at_call 21; (with_reducible refine (t21k (HV.out _ (Up.alloc _ _)) (by omega) HD.out).mono ?_); rintro e w' ⟨rfl, hw⟩; subst w'))
  go_loopw [8, 10, 35] (fun vr _ vi wr => ∃ (i g : Nat) (f : Nat → Nat × Nat), i ≤ m ∧ vi = .int .i64 i ∧ vr = .slice (some ⟨g, 0, none⟩) (i + 1) (i + 1) ∧ Hid (RD wr g 0 (i + 1) f ∧ ∀ j, j < i + 1 → ab2 (f j) = rowsN (ab x) (fun i => ab d[i]!) i j) ∧ Hid (Up w wr)) (fun _ _ vi _ => m - (intOf vi).toNat)
  case atStart =>
    refine ⟨0, _, fun _ => (4607182418800017408, 0), by omega, rfl, rfl, ⟨fun j hj => ?_, fun j hj => rfl⟩, (Up.alloc _ _).trans (Up.alloc _ _)⟩
    obtain rfl : j = 0 := by omega
    exact World.cell?_alloc_at _ _ _ _ (by simp)
  case round =>
    obtain ⟨i, g, f, hi', rfl, rfl, HR, HU⟩ := hrel
    rename World => wr
    by_cases hlt : i < m
    · obtain ⟨b, o, rfl, hr⟩ := (HV.out wr HU.out).rd (by omega)
      obtain ⟨y, hy⟩ : ∃ y, d[i]! = y := ⟨_, rfl⟩
      have c1 : wr.cell? ⟨b, o + i, none⟩ = some (.float .f64 y) := by rw [← hy]; exact hr i (by rw [HL.out]; exact hlt)
      have HY : Hid (d[i]! = y) := hy
      clear hr hy
      have z3 : (i : Int) < (m : Int) := by omega
      have z4 : (0 : Int) ≤ (i : Int) := by omega
      go_wp2_with (first
        | (go_at_call 24; (with_reducible refine (t24 _ _ _).mono ?_); rintro e w1 ⟨a, rfl, ha, hu1⟩)
        | (go_at_call 23; (with_reducible refine (t23 _ _).mono ?_); rintro e w2 ⟨zc, zs, rfl, hc, hs, hu2⟩; (have HR2 : Hid (RD w2 g 0 (i + 1) f) := HR.out.1.up (Up.trans hu1 hu2)))
        | (go_at_call 22; (with_reducible refine (t22 HR2.out HR.out.2 (by omega)).mono ?_); rintro e w3 ⟨g3, rfl, HX3, HU3⟩))
      go_roundw
      case rel =>
        obtain ⟨f3, hf3, hf4⟩ := HX3.out.rd
        refine ⟨i + 1, g3, f3, by omega, by go_num, rfl, ⟨hf3, fun j hj => ?_⟩, ((HU.out.trans hu1).trans hu2).trans HU3.out⟩
        rw [hf4 j hj]
        show rootF _ _ _ _ = rootF _ _ _ _
        have e : ((ab zc, ab zs) : CN) = rtF (ab x) (ab d[i]!) := by
          unfold rtF
          rw [HY.out, ← ha.out, hc.out, hs.out]
        rw [e]
      case measure => simp [intOf]; omega
    · obtain rfl : i = m := by omega
      have z3 : (i : Int) < (N : Int) := by omega
      go_wp2_with (refine wpList_make_full _ rfl _ _ 25 rfl wr.heap.size 26 i0 (.complex .f64 0 0) 1 Try.underlying25 hi hz0 hz1 .i64 .i64 _ _ N rfl rfl rfl rfl (by rw [hz2]; omega) (by unfold maxLen; omega) (Nat.le_refl _) ?_; intro w1 hown hgr; obtain ⟨G, hG⟩ : ∃ g, wr.heap.size = g := ⟨_, rfl⟩; (have HM : Hid (XR wr.heap.size w1 G N (fun _ => (ab 0, ab 0)) ∧ Up wr w1) := ⟨XR.made ⟨hG, CRow.made hG hown hgr⟩, (CRow.made hG hown hgr).2⟩); clear hown hgr; rw [hG]; (have HG : Hid (wr.heap.size = G) := hG); clear hG)
      go_loopw [12, 13, 50] (fun _ _ vk wx => ∃ (k : Nat) (Y : Nat → CN), k ≤ i + 1 ∧ vk = .int .i64 k ∧ Hid (XR wr.heap.size wx G N Y) ∧ Hid (Up wr wx) ∧ Hid (∀ j, j < N → Y j = if j < k then conjC (rowsN (ab x) (fun i => ab d[i]!) i j) else zeroC)) (fun _ _ vk _ => i + 1 - (intOf vk).toNat)
      case atStart => exact ⟨0, _, by omega, rfl, HM.out.1, HM.out.2, fun j _ => by rw [if_neg (by omega)]; rfl⟩
      case round =>
        clear HM
        obtain ⟨k, Y, hk, rfl, HX, HW, HJ⟩ := hrel
        rename World => wx
        by_cases hlt2 : k < i + 1
        · obtain ⟨q, r, hqr⟩ : ∃ q r, f k = (q, r) := ⟨_, _, rfl⟩
          have c1 : wx.cell? ⟨g, k, none⟩ = some (.complex .f64 q r) := by have := (HR.out.1.up HW.out) k hlt2; rw [hqr, Nat.zero_add] at this; exact this
          have HQ : Hid ((ab q, ab r) = rowsN (ab x) (fun i => ab d[i]!) i k) := by
            have := HR.out.2 k hlt2
            rw [hqr] at this; exact this
          clear hqr
          obtain ⟨x9, y9, c9, -, f9⟩ := HX.out.cell (show k < N by omega)
          have c8 : (wx.cell? ⟨G, k, none⟩).isSome = true := by rw [c9]; rfl
          have HP3 : Hid (XR wr.heap.size _ G N _ ∧ But G _ _) := HX.out.put (show k < N by omega) q (neg r)
          have z5 : (k : Int) < (i : Int) + 1 := by omega
          have z6 : (0 : Int) ≤ (k : Int) := by omega
          have z7 : (k : Int) < (N : Int) := by omega
          go_wp2_with (go_at_call 25; (with_reducible refine (t25 _ _ _).mono ?_); rintro e w2 ⟨rfl, hw⟩; subst w2)
          go_roundw
          case rel =>
            refine ⟨k + 1, _, by omega, by go_num, HP3.out.1, HP3.out.2.up HW.out (by rw [HG.out]; exact Nat.le_refl _), fun j hj => ?_⟩
            by_cases e : j = k
            · subst e
              rw [if_pos rfl, if_pos (by omega), ab_neg, ← HQ.out]
              rfl
            · rw [if_neg e, HJ.out j hj]
              by_cases e2 : j < k
              · rw [if_pos e2, if_pos (by omega)]
              · rw [if_neg e2, if_neg (by omega)]
          case measure => simp [intOf]; omega
        · obtain rfl : k = i + 1 := by omega
          go_wp2
          go_ret2
          exact ⟨G, rfl, (HX.out.down HU.out.size).ext fun j hj => HJ.out j hj, HU.out.trans HW.out⟩
set_option maxHeartbeats 2000000 in
set_option maxRecDepth 20000 in
theorem t10 {w : World} {p : Option Addr} {m c x : Nat} {n : Int} {d : Array Nat} (h : FV w p m d) (hm : m ≤ 1000000000000) : Calls Try.prog 10 #[.int .i64 n, .float .f64 x, .slice p m c] w (PL w (nullL n (ab x) d) (nullE n (ab x) d)) := by
  have hl := h.len
  by_cases h1 : n ≤ d.size
  · rw [nullL, nullE, if_pos h1, if_pos h1]
    rw [hl] at h1
    go_enter Try.func10, Try.ntmps10
    go_wp2
    go_ret2
    exact PL.none _ _
  · by_cases h2 : n > 64
    · rw [nullL, nullE, if_neg h1, if_neg h1, if_pos h2, if_pos h2]
      rw [hl] at h1
      go_enter Try.func10, Try.ntmps10
      go_wp2
      go_ret2
      exact PL.none _ _
    · obtain ⟨N, rfl⟩ := Int.eq_ofNat_of_zero_le (show 0 ≤ n by omega)
      rw [nullL, nullE, if_neg h1, if_neg h1, if_neg h2, if_neg h2]
      rw [hl] at h1 ⊢
      cases hf : fin (ab x) with
      | false =>
        have HF : Hid (finL #[x] = false) := fin_one' hf
        clear hf h
        go_enter Try.func10, Try.ntmps10
        go_wp2_with (go_at_call 21; (with_reducible refine (t21k (FV.one _ _ _) (by omega) HF.out).mono ?_); rintro e w' ⟨rfl, hw⟩; subst w')
        go_ret2
        exact PL.from (Up.alloc _ _) (PL.none _ _)
      | true =>
        cases hd : finL d with
        | false =>
          have HF : Hid (finL #[x] = true) := fin_one' hf
          have HD : Hid (finL d = false) := hd
          have HV : Hid (∀ W, Up w W → FV W p m d) := fun W hu => h.up hu
          clear hf h hd
          go_enter Try.func10, Try.ntmps10
          go_wp2_with (first
            | (go_at_call 21; (with_reducible refine (t21k (FV.one _ _ _) (by omega) HF.out).mono ?_); rintro e w' ⟨rfl, hw⟩; subst w')
            | (go_at_call 21; (with_reducible refine (t21k (HV.out _ (Up.alloc _ _)) (by omega) HD.out).mono ?_); rintro e w' ⟨rfl, hw⟩; subst w'))
          go_ret2
          exact PL.from (Up.alloc _ _) (PL.none _ _)
        | true =>
          exact (t10ok h (by omega) (by omega) hf hd).mono fun e w' h => h.pl
end Go.Proofs.Ytjnggbpifclpcab
