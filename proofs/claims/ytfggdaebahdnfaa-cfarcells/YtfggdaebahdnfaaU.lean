/- The merge in place of two sorted neighbours, one of which is of one place. -/
import Derived.Test.YtfggdaebahdnfaaT
namespace Go.Proofs.Ytfggdaebahdnfaa
open Go.ChangeShapes Go.WideShapes Go.ChangeAt Go.RowKit Go.Fl Go.Sort
attribute [local go_sem] run_store_float call35 call46 run_neg fold_eq fold_ne fold_lt fold_gt abs_eq

/-- What a call of the merge promises. -/
def Merges (w : World) (blk off a b : Nat) (d : Array Nat) (e : Ending) (w' : World) : Prop := e = .returned (.tuple #[]) ∧ ∃ n d', w' = (putRow fe w blk off d').drewN n ∧ PermIn a b d d' ∧ SortedIn ltK a b d'
theorem ltK_true {x y : Nat} : ltK x y = true ↔ key x < key y := by simp [ltK]
theorem ltK_false {x y : Nat} : ltK x y = false ↔ key y ≤ key x := by simp [ltK]

/-- The first is moved up, step by step. -/
theorem up_start (a : Nat) (d : Array Nat) : Rot a (a + 1) (a + 1) d d := ⟨rfl, fun x => by
  repeat' split
  all_goals first | omega | rfl | (congr 1; omega)⟩
theorem up_step {a k : Nat} {d dk : Array Nat} (h : Rot a (a + 1) (k + 1) d dk) (hk : a ≤ k) (hs : k + 1 < d.size) : Rot a (a + 1) (k + 2) d (swp dk k (k + 1)) := by
  refine ⟨(size_swp _ _ _).trans h.1, fun x => ?_⟩
  have hs' : dk.size = d.size := h.1
  by_cases h1 : x = k
  · subst h1
    rw [swp_left _ _ _ (by omega) (by omega), h.2]
    repeat' split
    all_goals first | omega | rfl | (congr 1; omega)
  · by_cases h2 : x = k + 1
    · subst h2
      rw [swp_right _ _ _ (by omega), h.2]
      repeat' split
      all_goals first | omega | rfl | (congr 1; omega)
    · rw [swp_other _ _ _ _ h1 h2, h.2]
      repeat' split
      all_goals first | omega | rfl | (congr 1; omega)
theorem up_sorted {a b i : Nat} {d d' : Array Nat} (h : Rot a (a + 1) i d d') (hi : a + 1 ≤ i) (hib : i ≤ b) (h2 : SortedIn ltK (a + 1) b d) (hl : ∀ x, a + 1 ≤ x → x < i → ltK d[x]! d[a]! = true) (hg : ∀ x, i ≤ x → x < b → ltK d[x]! d[a]! = false) : SortedIn ltK a b d' := by
  intro p q hp hpq hq
  rw [ltK_false, h.2 p, h.2 q]
  repeat' split
  · exact ltK_false.1 (h2 _ _ (by omega) (by omega) (by omega))
  · have := ltK_true.1 (hl (p - a + (a + 1)) (by omega) (by omega))
    have e : q - (i - (a + 1)) = a := by omega
    rw [e]; omega
  · exact ltK_false.1 (h2 _ _ (by omega) (by omega) (by omega))
  · omega
  · omega
  · have := ltK_false.1 (hg q (by omega) (by omega))
    have e : p - (i - (a + 1)) = a := by omega
    rw [e]; exact this
  · omega
  · omega
  · exact ltK_false.1 (h2 _ _ (by omega) (by omega) (by omega))

set_option maxHeartbeats 2000000 in
set_option maxRecDepth 100000 in
theorem t85up (blk off cap a m b : Nat) (d : Array Nat) (w : World) (hH : Holds fe w blk off d) (hF : Fit d) (hm : m = a + 1) (hb : b ≤ d.size) (hmb : m < b) (hsz : d.size < 4611686018427387904) (h2 : SortedIn ltK m b d) :
    Calls Try.prog 85 #[.slice (some ⟨blk, off, none⟩) d.size cap, .int .i64 a, .int .i64 m, .int .i64 b, ord29] w (Merges w blk off a b d) := by
  have HH : Hid (Holds fe w blk off d) := hH
  have HST : Hid (w = (putRow fe w blk off d).drewN 0) := (putRow_self fe w blk off d hH).symm
  have HF : Hid (Fit d) := hF
  have H2 : Hid (SortedIn ltK m b d) := h2
  clear hF h2
  obtain ⟨y, hy⟩ : ∃ y, d[a]! = y := ⟨_, rfl⟩
  obtain ⟨ca, fa⟩ := hH a (by omega)
  rw [hy] at ca
  have bya := fit_at HF.out rfl (show a < d.size by omega) hy
  have HY : Hid _ := hy
  clear hH hy
  have am : (m : Int) - (a : Int) = 1 := by omega
  have ham : a < m := by omega
  have HM : Hid (m = a + 1) := hm
  clear hm
  go_enter Try.func85, Try.ntmps85
  go_wp2
  go_loopw [10, 11] (fun vi vj wr => ∃ (i j n : Nat), vi = .int .i64 i ∧ vj = .int .i64 j ∧ m ≤ i ∧ i ≤ j ∧ j ≤ b ∧ wr = w.drewN n ∧ Hid (∀ x, m ≤ x → x < i → ltK d[x]! d[a]! = true) ∧ Hid (∀ x, j ≤ x → x < b → ltK d[x]! d[a]! = false)) (fun vi vj _ => (intOf vj).toNat - (intOf vi).toNat)
  case atStart => exact ⟨m, b, 0, rfl, rfl, by omega, by omega, by omega, rfl, fun x h1 h2 => by omega, fun x h1 h2 => by omega⟩
  case round =>
    obtain ⟨i, j, n, rfl, rfl, hi, hij, hjb, hw, HL, HG⟩ := hrel
    rename World => W1
    have HW : Hid (W1 = w.drewN n) := hw
    by_cases hlt : i < j
    · obtain ⟨c, hc⟩ : ∃ c, (i + j) / 2 = c := ⟨_, rfl⟩
      have ec : ((i : Int) + (j : Int)) / 2 = (c : Int) := by omega
      obtain ⟨x, hx⟩ : ∃ x, d[c]! = x := ⟨_, rfl⟩
      obtain ⟨cc, fc⟩ := HH.out c (by omega)
      rw [hx] at cc
      have bx := fit_at HF.out rfl (show c < d.size by omega) hx
      have HX : Hid _ := hx
      have cc1 : W1.cell? ⟨blk, off + c, none⟩ = some (.float .f64 x) := by rw [hw]; exact cc
      have ca1 : W1.cell? ⟨blk, off + a, none⟩ = some (.float .f64 y) := by rw [hw]; exact ca
      have hcz : (c : Int) < (d.size : Int) := by omega
      have haz : (a : Int) < (d.size : Int) := by omega
      have hc1 : i ≤ c := by omega
      have hc2 : c < j := by omega
      clear cc fc ca fa hx hw hc
      by_cases hlv : cmpK x y < 0
      · go_wp2_with fail
        go_quiet (first | (go_at_call 78; refine Calls.quiet_of (cmp29 bx bya _)))
        go_wp2
        go_roundw
        case rel =>
          refine ⟨c + 1, j, n + nq, by go_num, rfl, by omega, by omega, by omega, by rw [HW.out, World.drewN_drewN], fun z h1 h3 => ?_, HG⟩
          have hcc := ltK_true.1 ((cmpK_neg x y).1 hlv)
          rw [ltK_true, HY.out]
          rcases Nat.lt_or_ge z c with hz | hz
          · have := ltK_false.1 (H2.out z c (by omega) hz (by omega))
            rw [HX.out] at this
            omega
          · obtain rfl : z = c := by omega
            rw [HX.out]; exact hcc
        case measure => simp [intOf]; omega
      · go_wp2_with fail
        go_quiet (first | (go_at_call 78; refine Calls.quiet_of (cmp29 bx bya _)))
        go_wp2
        go_roundw
        case rel =>
          refine ⟨i, c, n + nq, rfl, rfl, by omega, by omega, by omega, by rw [HW.out, World.drewN_drewN], HL, fun z h1 h3 => ?_⟩
          have hcc : ltK x y = false := Bool.eq_false_iff.2 fun h => by have := (cmpK_neg x y).2 h; omega
          have hcc := ltK_false.1 hcc
          rw [ltK_false, HY.out]
          rcases Nat.lt_or_ge c z with hz | hz
          · have := ltK_false.1 (H2.out c z (by omega) hz (by omega))
            rw [HX.out] at this
            omega
          · obtain rfl : z = c := by omega
            rw [HX.out]; exact hcc
        case measure => simp [intOf]; omega
    · obtain rfl : i = j := by omega
      clear ca fa hw
      go_wp2
      go_loopw [13] (fun vk wr => ∃ (k n : Nat) (dk : Array Nat), vk = .int .i64 k ∧ a ≤ k ∧ k < i ∧ wr = (putRow fe w blk off dk).drewN n ∧ dk.size = d.size ∧ Hid (PermIn a b d dk) ∧ Hid (Rot a m (k + 1) d dk)) (fun vk _ => i - (intOf vk).toNat)
      case atStart =>
        refine ⟨a, n, d, rfl, by omega, by omega, ?_, rfl, permIn_refl _ _ _, ?_⟩
        · rw [HW.out, putRow_self fe w blk off d HH.out]
        · show Rot _ _ _ _ _
          rw [HM.out]; exact up_start a d
      case round =>
        clear HW
        obtain ⟨k, n2, dk, rfl, hk, hki, hw, hs, HP, HR⟩ := hrel
        rename World => W2
        have HW : Hid (W2 = (putRow fe w blk off dk).drewN n2) := hw
        by_cases hlt2 : k + 1 < i
        · obtain ⟨x, hx⟩ : ∃ x, dk[k]! = x := ⟨_, rfl⟩
          obtain ⟨z, hz⟩ : ∃ z, dk[k + 1]! = z := ⟨_, rfl⟩
          obtain ⟨cx, fx⟩ := fam HW.out HH.out hs (show k < d.size by omega) hx
          obtain ⟨cz, fz⟩ := fam HW.out HH.out hs (show k + 1 < d.size by omega) hz
          have HX : Hid _ := hx
          have HZ : Hid _ := hz
          clear hw hx hz
          have jz : (k : Int) + 1 < (d.size : Int) := by omega
          have jz1 : (k : Int) < (d.size : Int) := by omega
          have p0 : (0 : Int) ≤ (k : Int) + 1 := by omega
          obtain ⟨j1, hj1⟩ : ∃ j1, j1 = k + 1 := ⟨_, rfl⟩
          have e0 : ((k : Int) + 1).toNat = j1 := by omega
          rw [← hj1] at cz fz
          have J1 : Hid (j1 = k + 1) := hj1
          clear hj1
          go_wp2
          go_big_region
          all_goals go_wp2
          go_roundw
          case rel =>
            refine ⟨k + 1, n2 + 1, swp dk k (k + 1), by go_num, by omega, by omega, ?_, by rw [size_swp]; exact hs, ?_, ?_⟩
            · rw [J1.out, HW.out, ← HX.out, ← HZ.out]
              exact swap_row w blk off dk n2 k (k + 1) (by omega) (by omega)
            · exact permIn_trans _ _ _ _ _ HP.out (swp_permIn _ _ _ _ _ (by omega) (by omega) (by omega) (by omega) (by omega))
            · show Rot _ _ _ _ _
              have h := HR.out
              rw [HM.out] at h ⊢
              exact up_step h hk (by omega)
          case measure => simp [intOf]; omega
        · obtain rfl : i = k + 1 := by omega
          go_wp2
          go_end0
          refine ⟨rfl, n2, dk, by first | exact hw | rfl, HP.out, ?_⟩
          have h := HR.out
          have h2 := H2.out
          have hl := HL.out
          rw [HM.out] at h h2 hl
          exact up_sorted h (by omega) (by omega) h2 hl HG.out
end Go.Proofs.Ytfggdaebahdnfaa
