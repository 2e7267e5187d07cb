/- The merge in place of two sorted neighbours, the second of one place. -/
import Derived.Test.YtfggdaebahdnfaaU
namespace Go.Proofs.Ytfggdaebahdnfaa
open Go.ChangeShapes Go.WideShapes Go.ChangeAt Go.RowKit Go.Fl Go.Sort
attribute [local go_sem] run_store_float call35 call46 run_neg fold_eq fold_ne fold_lt fold_gt abs_eq

/-- The last is moved down, step by step. -/
theorem down_start (m : Nat) (d : Array Nat) : Rot m m (m + 1) d d := ⟨rfl, fun x => by
  repeat' split
  all_goals first | omega | rfl | (congr 1; omega)⟩
theorem down_step {k m : Nat} {d dk : Array Nat} (h : Rot (k + 1) m (m + 1) d dk) (hk : k < m) (hs : m < d.size) : Rot k m (m + 1) d (swp dk (k + 1) k) := by
  refine ⟨(size_swp _ _ _).trans h.1, fun x => ?_⟩
  have hs' : dk.size = d.size := h.1
  by_cases h1 : x = k + 1
  · subst h1
    rw [swp_left _ _ _ (by omega) (by omega), h.2]
    repeat' split
    all_goals first | omega | rfl | (congr 1; omega)
  · by_cases h2 : x = k
    · subst h2
      rw [swp_right _ _ _ (by omega), h.2]
      repeat' split
      all_goals first | omega | rfl | (congr 1; omega)
    · rw [swp_other _ _ _ _ h1 h2, h.2]
      repeat' split
      all_goals first | omega | rfl | (congr 1; omega)
theorem down_sorted {a m i : Nat} {d d' : Array Nat} (h : Rot i m (m + 1) d d') (hi : a ≤ i) (him : i ≤ m) (h1 : SortedIn ltK a m d) (hl : ∀ x, a ≤ x → x < i → ltK d[m]! d[x]! = false) (hg : ∀ x, i ≤ x → x < m → ltK d[m]! d[x]! = true) : SortedIn ltK a (m + 1) d' := by
  intro p q hp hpq hq
  rw [ltK_false, h.2 p, h.2 q]
  repeat' split
  · omega
  · have := ltK_true.1 (hg (q - (m + 1 - m)) (by omega) (by omega))
    have e : p - i + m = m := by omega
    rw [e]; omega
  · omega
  · omega
  · exact ltK_false.1 (h1 _ _ (by omega) (by omega) (by omega))
  · omega
  · have := ltK_false.1 (hl p (by omega) (by omega))
    have e : q - i + m = m := by omega
    rw [e]; exact this
  · exact ltK_false.1 (h1 _ _ (by omega) (by omega) (by omega))
  · exact ltK_false.1 (h1 _ _ (by omega) (by omega) (by omega))

set_option maxHeartbeats 2000000 in
set_option maxRecDepth 100000 in
theorem t85down (blk off cap a m b : Nat) (d : Array Nat) (w : World) (hH : Holds fe w blk off d) (hF : Fit d) (ham : a + 1 < m) (hbm : b = m + 1) (hb : b ≤ d.size) (hsz : d.size < 4611686018427387904) (h1 : SortedIn ltK a m d) :
    Calls Try.prog 85 #[.slice (some ⟨blk, off, none⟩) d.size cap, .int .i64 a, .int .i64 m, .int .i64 b, ord29] w (Merges w blk off a b d) := by
  have HH : Hid (Holds fe w blk off d) := hH
  have HST : Hid (w = (putRow fe w blk off d).drewN 0) := (putRow_self fe w blk off d hH).symm
  have HF : Hid (Fit d) := hF
  have H1 : Hid (SortedIn ltK a m d) := h1
  clear hF h1
  obtain ⟨y, hy⟩ : ∃ y, d[m]! = y := ⟨_, rfl⟩
  obtain ⟨ca, fa⟩ := hH m (by omega)
  rw [hy] at ca
  have bya := fit_at HF.out rfl (show m < d.size by omega) hy
  have HY : Hid _ := hy
  clear hH hy
  have am : ¬ (m : Int) - (a : Int) = 1 := by omega
  have am' : ((m : Int) - (a : Int) == 1) = false := by rw [beq_eq_false_iff_ne]; exact am
  have bm : (b : Int) - (m : Int) = 1 := by omega
  have hmb : m < b := by omega
  have HM : Hid (b = m + 1) := hbm
  clear hbm
  go_enter Try.func85, Try.ntmps85
  go_wp2
  go_loopw [14, 15] (fun vi vj wr => ∃ (i j n : Nat), vi = .int .i64 i ∧ vj = .int .i64 j ∧ a ≤ i ∧ i ≤ j ∧ j ≤ m ∧ wr = w.drewN n ∧ Hid (∀ x, a ≤ x → x < i → ltK d[m]! d[x]! = false) ∧ Hid (∀ x, j ≤ x → x < m → ltK d[m]! d[x]! = true)) (fun vi vj _ => (intOf vj).toNat - (intOf vi).toNat)
  case atStart => exact ⟨a, m, 0, rfl, rfl, by omega, by omega, by omega, rfl, fun x h1 h2 => by omega, fun x h1 h2 => by omega⟩
  case round =>
    obtain ⟨i, j, n, rfl, rfl, hi, hij, hjb, hw, HL, HG⟩ := hrel
    rename World => W1
    have HW : Hid (W1 = w.drewN n) := hw
    by_cases hlt : i < j
    · obtain ⟨c, hc⟩ : ∃ c, (i + j) / 2 = c := ⟨_, rfl⟩
      have ec : ((i : Int) + (j : Int)) / 2 = (c : Int) := by omega
      obtain ⟨x, hx⟩ : ∃ x, d[c]! = x := ⟨_, rfl⟩
      obtain ⟨cc, fc⟩ := HH.out c (by omega)
      rw [hx] at cc
      have bx := fit_at HF.out rfl (show c < d.size by omega) hx
      have HX : Hid _ := hx
      have cc1 : W1.cell? ⟨blk, off + c, none⟩ = some (.float .f64 x) := by rw [hw]; exact cc
      have ca1 : W1.cell? ⟨blk, off + m, none⟩ = some (.float .f64 y) := by rw [hw]; exact ca
      have hcz : (c : Int) < (d.size : Int) := by omega
      have haz : (m : Int) < (d.size : Int) := by omega
      have hc1 : i ≤ c := by omega
      have hc2 : c < j := by omega
      clear cc fc ca fa hx hw hc
      by_cases hlv : cmpK y x < 0
      · go_wp2_with fail
        go_quiet (first | (go_at_call 78; refine Calls.quiet_of (cmp29 bya bx _)))
        go_wp2
        go_roundw
        case rel =>
          refine ⟨i, c, n + nq, rfl, rfl, by omega, by omega, by omega, by rw [HW.out, World.drewN_drewN], HL, fun z h1 h3 => ?_⟩
          have hcc := ltK_true.1 ((cmpK_neg y x).1 hlv)
          rw [ltK_true, HY.out]
          rcases Nat.lt_or_ge c z with hz | hz
          · have := ltK_false.1 (H1.out c z (by omega) hz (by omega))
            rw [HX.out] at this
            omega
          · obtain rfl : z = c := by omega
            rw [HX.out]; exact hcc
        case measure => simp [intOf]; omega
      · have hlv2 : (0 : Int) ≤ cmpK y x := by omega
        have hlv3 : decide (cmpK y x < 0) = false := decide_eq_false hlv
        go_wp2_with fail
        go_quiet (first | (go_at_call 78; refine Calls.quiet_of (cmp29 bya bx _)))
        go_wp2
        go_roundw
        case rel =>
          refine ⟨c + 1, j, n + nq, by go_num, rfl, by omega, by omega, by omega, by rw [HW.out, World.drewN_drewN], fun z h1 h3 => ?_, HG⟩
          have hcc : ltK y x = false := Bool.eq_false_iff.2 fun h => by have := (cmpK_neg y x).2 h; omega
          have hcc := ltK_false.1 hcc
          rw [ltK_false, HY.out]
          rcases Nat.lt_or_ge z c with hz | hz
          · have := ltK_false.1 (H1.out z c (by omega) hz (by omega))
            rw [HX.out] at this
            omega
          · obtain rfl : z = c := by omega
            rw [HX.out]; exact hcc
        case measure => simp [intOf]; omega
    · obtain rfl : i = j := by omega
      clear ca fa hw
      go_wp2
      go_loopw [17] (fun vk wr => ∃ (k n : Nat) (dk : Array Nat), vk = .int .i64 k ∧ i ≤ k ∧ k ≤ m ∧ wr = (putRow fe w blk off dk).drewN n ∧ dk.size = d.size ∧ Hid (PermIn a b d dk) ∧ Hid (Rot k m (m + 1) d dk)) (fun vk _ => (intOf vk).toNat)
      case atStart =>
        refine ⟨m, n, d, rfl, by omega, by omega, ?_, rfl, permIn_refl _ _ _, down_start m d⟩
        rw [HW.out, putRow_self fe w blk off d HH.out]
      case round =>
        clear HW
        obtain ⟨k, n2, dk, rfl, hk, hki, hw, hs, HP, HR⟩ := hrel
        rename World => W2
        have HW : Hid (W2 = (putRow fe w blk off dk).drewN n2) := hw
        by_cases hlt2 : i < k
        · obtain ⟨kp, rfl⟩ : ∃ kp, k = kp + 1 := ⟨k - 1, by omega⟩
          obtain ⟨x, hx⟩ : ∃ x, dk[kp]! = x := ⟨_, rfl⟩
          obtain ⟨z, hz⟩ : ∃ z, dk[kp + 1]! = z := ⟨_, rfl⟩
          obtain ⟨cx, fx⟩ := fam HW.out HH.out hs (show kp < d.size by omega) hx
          obtain ⟨cz, fz⟩ := fam HW.out HH.out hs (show kp + 1 < d.size by omega) hz
          have HX : Hid _ := hx
          have HZ : Hid _ := hz
          clear hw hx hz
          have hwp : IntKind.i64.wrap (kp : Int) = (kp : Int) := by rw [IntKind.wrap_i64]; omega
          have jz : (kp : Int) + 1 < (d.size : Int) := by omega
          have jz1 : (kp : Int) < (d.size : Int) := by omega
          have p0 : (0 : Int) ≤ (kp : Int) + 1 := by omega
          have hik : (i : Int) < (kp : Int) + 1 := by omega
          obtain ⟨j1, hj1⟩ : ∃ j1, j1 = kp + 1 := ⟨_, rfl⟩
          have e0 : ((kp : Int) + 1).toNat = j1 := by omega
          rw [← hj1] at cz fz
          have J1 : Hid (j1 = kp + 1) := hj1
          clear hj1
          go_wp2
          go_big_region
          all_goals go_wp2
          go_roundw
          case rel =>
            refine ⟨kp, n2 + 1, swp dk (kp + 1) kp, by first | rfl | go_num, by omega, by omega, ?_, by rw [size_swp]; exact hs, ?_, ?_⟩
            · rw [J1.out, HW.out, ← HX.out, ← HZ.out]
              exact swap_row w blk off dk n2 (kp + 1) kp (by omega) (by omega)
            · exact permIn_trans _ _ _ _ _ HP.out (swp_permIn _ _ _ _ _ (by omega) (by omega) (by omega) (by omega) (by omega))
            · exact down_step HR.out (by omega) (by omega)
          case measure => simp [intOf]
        · obtain rfl : i = k := by omega
          go_wp2
          go_end0
          refine ⟨rfl, n2, dk, by first | exact hw | rfl, HP.out, ?_⟩
          rw [HM.out]
          exact down_sorted HR.out (by omega) (by omega) H1.out HL.out HG.out
end Go.Proofs.Ytfggdaebahdnfaa
