/- The statement on all places of a list, walked. -/
import Derived.Test.YtfifdngcdknbbaaQ
namespace Go.Proofs.Ytfifdngcdknbbaa
open Go.ChangeShapes Go.WideShapes Go.ChangeAt Go.RowKit Go.Fl Go.Sort
attribute [local go_sem] run_store_float run_store_complex call12 call32 run_neg fold_eq fold_ne fold_lt fold_gt abs_eq

/-- What is kept while it is counted. -/
def Bq (w : World) (go blk off : Nat) (D : Array Nat) (O : List Nat) (W : World) : Prop := Reads W go 0 O.toArray ∧ Reads W blk off D ∧ Up w W
theorem like6 {x y : Nat} {b : Bool} {w : World} (h : (ab x == ab y) = b) (n : Nat) : Calls Try.prog 6 #[.float .f64 x, .float .f64 y] (w.drewN n) fun e w' => e = .returned (.bool b) ∧ ∃ m, w' = (w.drewN n).drewN m :=
  (t6 x y _).mono fun _ _ ⟨he, hw⟩ => ⟨by rw [he, h], 0, hw⟩
theorem up1 {w W : World} {blk off : Nat} {D : Array Nat} (HR : Hid (Reads w blk off D)) (HU : Hid (Up w W)) : Hid (Reads W blk off D) := HR.out.up HU.out
theorem nth90 {W : World} {blk off cap N : Nat} {D : Array Nat} (hN : D.size = N) (HR : Hid (Reads W blk off D)) (HF : Hid (Fit D)) (hi : 0 < N) (hb : N ≤ 300) : Calls Try.prog 9 #[.slice (some ⟨blk, off, none⟩) N cap, .int .i64 0] W (NR W D 0) := nth9 (i := 0) hN HR HF hi hb
theorem nth9s {W : World} {blk off cap N i : Nat} {D : Array Nat} (hN : D.size = N) (HR : Hid (Reads W blk off D)) (HF : Hid (Fit D)) (hi : i + 1 < N) (hb : N ≤ 300) : Calls Try.prog 9 #[.slice (some ⟨blk, off, none⟩) N cap, .int .i64 ((i : Int) + 1)] W (NR W D (i + 1)) := nth9 (i := i + 1) hN HR HF hi hb
theorem plc0 {W : World} {D : Array Nat} {x y i : Nat} (hy : Hid (y < 2 ^ 64 ∧ key y = kth D i)) (hx : Hid (x < 2 ^ 64 ∧ key x = kth D (i + 1))) (hi : i + 1 < D.size) : Calls Try.prog 14 #[.float .f64 y, .float .f64 x] W fun e w' => ∃ c : Int, e = .returned (.int .i64 c) ∧ ¬ 0 < c ∧ w' = W :=
  (t14 y x W hy.out.1 hx.out.1).mono fun _ _ ⟨he, hw⟩ => ⟨_, he, cmpK_not (by rw [hy.out.2, hx.out.2]; exact kth_mono (by omega) hi), hw⟩
theorem t4e (p : Option Addr) (cap : Nat) (w : World) (hp : p = none → cap = 0) : Calls Try.prog 4 #[.slice p 0 cap] w (KV w (.bool true)) := by
  cases p with
  | none =>
    obtain rfl := hp rfl
    go_enter Try.func4, Try.ntmps4
    go_wp2
    go_loopw [3, 4, 5, 6] (fun _ vi _ _ wr => vi = .int .i64 0 ∧ Hid (Up w wr)) (fun _ _ _ _ _ => 0)
    case atStart => exact ⟨rfl, Up.refl _⟩
    case round =>
      obtain ⟨rfl, HU⟩ := hrel
      go_wp2
      go_loopw [7, 8, 9] (fun vi _ _ wr => vi = .int .i64 0 ∧ Hid (Up w wr)) (fun _ _ _ _ => 0)
      case atStart => exact ⟨rfl, HU⟩
      case round =>
        clear HU
        obtain ⟨rfl, HU⟩ := hrel
        go_wp2_with (go_at_call 13; (with_reducible refine (t13 _).mono ?_); rintro e w9 ⟨rfl, hu⟩)
        go_ret
        exact ⟨rfl, HU.out.trans hu.out⟩

  | some a =>
    go_enter Try.func4, Try.ntmps4
    go_wp2
    go_loopw [3, 4, 5, 6] (fun _ vi _ _ wr => vi = .int .i64 0 ∧ Hid (Up w wr)) (fun _ _ _ _ _ => 0)
    case atStart => exact ⟨rfl, Up.refl _⟩
    case round =>
      obtain ⟨rfl, HU⟩ := hrel
      go_wp2
      go_loopw [7, 8, 9] (fun vi _ _ wr => vi = .int .i64 0 ∧ Hid (Up w wr)) (fun _ _ _ _ => 0)
      case atStart => exact ⟨rfl, HU⟩
      case round =>
        clear HU
        obtain ⟨rfl, HU⟩ := hrel
        go_wp2_with (go_at_call 13; (with_reducible refine (t13 _).mono ?_); rintro e w9 ⟨rfl, hu⟩)
        go_ret
        exact ⟨rfl, HU.out.trans hu.out⟩


set_option maxHeartbeats 8000000 in
theorem t4s (blk off cap M : Nat) (D : Array Nat) (w : World) (hR : Reads w blk off D) (hF : Fit D) (hD : D.size = M) (hM : M ≤ 300) (hM0 : 0 < M) (hcap : M ≤ cap) :
    Calls Try.prog 4 #[.slice (some ⟨blk, off, none⟩) M cap] w (KV w (.bool true)) := by
  obtain ⟨i0, hi, hz0, hz1, hz2⟩ := info_parts info23
  have HR : Hid (Reads w blk off D) := hR
  have HF : Hid (Fit D) := hF
  have HD : Hid (D.size = M) := hD
  clear hR hF hD
  go_enter Try.func4, Try.ntmps4
  go_wp2
  go_loopw [3, 4, 5, 6] (fun vo vi _ _ wr => ∃ (i : Nat) (O : List Nat), vi = .int .i64 i ∧ i ≤ M ∧ wr.ownsRow w.heap.size 23 1 vo i (O.map fe) ∧ Hid (Up w wr) ∧ Hid (Got D i O)) (fun _ vi _ _ _ => M - (intOf vi).toNat)
  case atStart => exact ⟨0, [], rfl, by omega, World.ownsRow_nil _ _ _ _, Up.refl _, rfl, fun j hj => by omega⟩
  case round =>
    obtain ⟨i, O, rfl, hiM, hown, HUp, HG⟩ := hrel
    rename World => W1
    by_cases hlt : i < M
    · have hiz : (i : Int) < (M : Int) := by omega
      rcases Nat.eq_zero_or_pos i with h0 | hp
      · subst h0
        go_wp2_with (first
          | (go_at_call 9; (with_reducible refine (nth90 HD.out (up1 HR HUp) HF (by omega) (by omega)).mono ?_); rintro e w2 ⟨x, rfl, hx, hu⟩; have hown2 := owns_up hown hu.out; have HU2 : Hid (Up w w2) := HUp.out.trans hu.out; have sz : w.heap.size ≤ w2.heap.size := RowKit.Below.size HU2.out; clear hown hu)
          | (at_builtin; refine wpList_append_own _ rfl _ _ 22 rfl w.heap.size 23 i0 (.float .f64 0) 1 8 Try.underlying22 hi hz0 hz1 hz2 rfl (by decide) _ _ _ rfl (hown2.alloc _) ⟨w2.heap.size, 0, none⟩ 1 1 [.float .f64 x] rfl rfl (cell_new _ _ _) (one_cell _) (by unfold maxLen; omega) (by omega) (by simp; omega) ?_))
        intro v' w3 hown' hgrow _
        have R := row_push1 (n := 0) hown2 HU2.out hown' hgrow
        have HU3 : Hid (Up w w3) := R.2
        have hown3 := R.1
        clear hown' hgrow hown2 R HU2
        go_wp2
        go_roundw
        case rel => exact ⟨0 + 1, O ++ [x], by go_num, by omega, hown3, HU3, HG.out.snoc hx.out⟩
        case measure => simp [intOf]; omega
      · obtain ⟨ip, rfl⟩ : ∃ ip, i = ip + 1 := ⟨i - 1, by omega⟩
        have hlO := HG.out.1
        obtain ⟨g, co, hvo, _, _, hro⟩ := own_reads (own_list (l := O) (by omega) (by rw [hlO]; exact hown))
        rw [show O.toArray.size = ip + 1 by simp [hlO]] at hvo
        subst hvo
        obtain ⟨y, hy⟩ : ∃ y, O[ip]! = y := ⟨_, rfl⟩
        have hyG := HG.out.2 ip (by omega)
        rw [hy] at hyG
        have cy : W1.cell? ⟨g, ip, none⟩ = some (.float .f64 y) := by
          have := hro ip (by simp [hlO])
          rw [Nat.zero_add] at this
          rw [this, ← hy, getElem!_pos _ ip (by simp [hlO]), getElem!_pos O ip (by omega)]
          simp
        have HYG : Hid _ := hyG
        clear hro hy hyG
        have HLO : Hid _ := hlO
        clear hlO
        have hwp : IntKind.i64.wrap (ip : Int) = (ip : Int) := by rw [IntKind.wrap_i64]; omega
        have p0 : (0 : Int) < (ip : Int) + 1 := by omega
        have p1 : (ip : Int) < (ip : Int) + 1 := by omega
        go_wp2_with (first
          | (go_at_call 9; (with_reducible refine (nth9s HD.out (up1 HR HUp) HF (by omega) (by omega)).mono ?_); rintro e w2 ⟨x, rfl, hx, hu⟩; have hown2 := owns_up hown hu.out; have HU2 : Hid (Up w w2) := HUp.out.trans hu.out; have sz : w.heap.size ≤ w2.heap.size := RowKit.Below.size HU2.out; have cy2 := cell_up cy hu.out; clear hown hu cy)
          | (go_at_call 14; (with_reducible refine (plc0 HYG hx (by rw [HD.out]; omega)).mono ?_); rintro e w4 ⟨c, rfl, hc0, rfl⟩)
          | (at_builtin; refine wpList_append_own _ rfl _ _ 22 rfl w.heap.size 23 i0 (.float .f64 0) 1 8 Try.underlying22 hi hz0 hz1 hz2 rfl (by decide) _ _ _ rfl (hown2.alloc _) ⟨w4.heap.size, 0, none⟩ 1 1 [.float .f64 x] rfl rfl (cell_new _ _ _) (one_cell _) (by unfold maxLen; omega) (by omega) (by simp; omega) ?_))
        intro v' w3 hown' hgrow _
        have R := row_push1 (n := 0) hown2 HU2.out hown' hgrow
        have HU3 : Hid (Up w w3) := R.2
        have hown3 := R.1
        clear hown' hgrow hown2 R HU2
        go_wp2
        go_roundw
        case rel => exact ⟨ip + 1 + 1, O ++ [x], by go_num, by omega, hown3, HU3, HG.out.snoc hx.out⟩
        case measure => simp [intOf]; omega
    · obtain rfl : M = i := by omega
      have hlO := HG.out.1
      obtain ⟨g, co, hvo, _, _, hro⟩ := own_reads (own_list (l := O) (by omega) (by rw [hlO]; exact hown))
      have hsO : O.toArray.size = M := by simp [hlO]
      rw [hsO] at hvo
      subst hvo
      have RO : Hid (Reads W1 g 0 O.toArray) := hro
      have RD : Hid (Reads W1 blk off D) := HR.out.up HUp.out
      have HSO : Hid (O.toArray.size = M) := hsO
      have FO : Hid (Fit O.toArray) := HG.out.fit
      have KO : Hid (∀ j, j < D.size → key O.toArray[j]! = kth D j) := fun j hj => by
        have hj' : j < M := by rw [← HD.out]; exact hj
        have := (HG.out.2 j hj').2
        rw [getElem!_pos _ j (by rw [hsO]; exact hj')]
        rw [getElem!_pos O j (by rw [hlO]; exact hj')] at this
        simpa using this
      obtain ⟨OA, hOA⟩ : ∃ OA, OA = O.toArray := ⟨_, rfl⟩
      rw [← hOA] at RO HSO FO KO
      clear hro hsO hlO hown HG hOA
      go_wp2
      go_loopw [7, 8, 9] (fun vi _ _ wr => ∃ i q : Nat, vi = .int .i64 i ∧ i ≤ M ∧ wr = W1.drewN q) (fun vi _ _ _ => M - (intOf vi).toNat)
      case atStart => exact ⟨0, 0, rfl, by omega, rfl⟩
      case round =>
        obtain ⟨i, q, rfl, hiM2, hw⟩ := hrel
        by_cases hlt2 : i < M
        · obtain ⟨y, hy⟩ : ∃ y, D[i]! = y := ⟨_, rfl⟩
          have by64 := fit_at HF.out rfl (show i < D.size by rw [HD.out]; exact hlt2) hy
          have cy0 := RD.out i (by rw [HD.out]; exact hlt2)
          rw [hy] at cy0
          have CY : Hid (W1.cell? ⟨blk, off + i, none⟩ = some (.float .f64 y)) := cy0
          have ZR : Hid (cntK D OA y M = 0) := by
            have h := cntK_zero (D := D) (O := OA) (y := y) (by rw [HSO.out, HD.out]) HF.out FO.out by64 KO.out
            rw [HD.out] at h
            exact h
          clear cy0 hy
          have hiz2 : (i : Int) < (M : Int) := by omega
          go_wp2
          go_loopw [8, 9] (fun vn vk wr => ∃ (k q : Nat) (c : Int), vn = .int .i64 c ∧ vk = .int .i64 k ∧ k ≤ M ∧ -(k : Int) ≤ c ∧ c ≤ k ∧ wr = W1.drewN q ∧ Hid (c = cntK D OA y k)) (fun _ vk _ => M - (intOf vk).toNat)
          case atStart => exact ⟨0, q, 0, rfl, rfl, by omega, by omega, by omega, by first | exact hw | rfl, rfl⟩
          case round =>
            clear hw
            obtain ⟨k, q2, c, rfl, rfl, hk, hc1, hc2, hw, HC⟩ := hrel
            rename World => W2
            by_cases hlt3 : k < M
            · obtain ⟨x, hx⟩ : ∃ x, D[k]! = x := ⟨_, rfl⟩
              obtain ⟨z, hz⟩ : ∃ z, OA[k]! = z := ⟨_, rfl⟩
              have cx : W2.cell? ⟨blk, off + k, none⟩ = some (.float .f64 x) := by
                have := RD.out k (by rw [HD.out]; exact hlt3)
                rw [hx] at this; rw [hw]; exact this
              have cz : W2.cell? ⟨g, k, none⟩ = some (.float .f64 z) := by
                have := RO.out k (by rw [HSO.out]; exact hlt3)
                rw [Nat.zero_add, hz] at this; rw [hw]; exact this
              have cy : W2.cell? ⟨blk, off + i, none⟩ = some (.float .f64 y) := by rw [hw]; exact CY.out
              have HW : Hid (W2 = W1.drewN q2) := hw
              have HST : Hid (cntK D OA y (k + 1) = c + (if ab x == ab y then 1 else 0) - (if ab z == ab y then 1 else 0)) := by
                show _ = _; rw [cntK, hx, hz, ← HC.out]
              clear hw hx hz
              have hkz : (k : Int) < (M : Int) := by omega
              cases hb1 : (ab x == ab y) <;> cases hb2 : (ab z == ab y)
              all_goals
                have HB1 : Hid _ := hb1
                have HB2 : Hid _ := hb2
                rw [hb1, hb2] at HST
                clear hb1 hb2
                go_wp2_with fail
                go_quiet (first | (go_at_call 6; refine Calls.quiet_of (like6 HB1.out _)))
                go_wp2_with fail
                have cy2 : (W2.drewN nq).cell? ⟨blk, off + i, none⟩ = some (.float .f64 y) := cy
                have cz2 : (W2.drewN nq).cell? ⟨g, k, none⟩ = some (.float .f64 z) := cz
                have HW3 : Hid (W2.drewN nq = W1.drewN (q2 + nq)) := by show _ = _; rw [HW.out, World.drewN_drewN]
                clear cx cy cz HW
                generalize W2.drewN nq = W3 at cy2 cz2 HW3 ⊢
                go_quiet (first | (go_at_call 6; refine Calls.quiet_of (like6 HB2.out _)))
                go_wp2
                go_roundw
                case rel =>
                  refine ⟨k + 1, _, _, rfl, by go_num, by omega, by omega, by omega, (by rw [HW3.out, World.drewN_drewN]), ?_⟩
                  show _ = _
                  rw [HST.out]
                  simp <;> omega
                case measure => simp [intOf]; omega
            · obtain rfl : M = k := by omega
              obtain rfl : c = 0 := by rw [HC.out, ZR.out]
              go_wp2
              go_roundw
              case rel => exact ⟨i + 1, q2, by go_num, by omega, by first | exact hw | rfl⟩
              case measure => simp [intOf]; omega
        · obtain rfl : M = i := by omega
          go_wp2_with (go_at_call 13; (with_reducible refine (t13 _).mono ?_); rintro e w9 ⟨rfl, hu⟩)
          go_ret
          refine ⟨rfl, ?_⟩
          first | exact (HUp.out.trans (Up.drewN _ _)).trans hu.out | (rw [hw] at hu; exact (HUp.out.trans (Up.drewN _ _)).trans hu.out)

set_option maxHeartbeats 8000000 in
theorem t4b (blk off cap N0 : Nat) (D : Array Nat) (w : World) (hR : Reads w blk off D) (hF : Fit D) (hD : D.size = 300) (hN : 300 < N0) (hcap : N0 ≤ cap) :
    Calls Try.prog 4 #[.slice (some ⟨blk, off, none⟩) N0 cap] w (KV w (.bool true)) := by
  obtain ⟨i0, hi, hz0, hz1, hz2⟩ := info_parts info23
  have HR : Hid (Reads w blk off D) := hR
  have HF : Hid (Fit D) := hF
  have HD : Hid (D.size = 300) := hD
  clear hR hF hD
  go_enter Try.func4, Try.ntmps4
  go_wp2
  obtain ⟨M, hM⟩ : ∃ M : Nat, M = 300 := ⟨_, rfl⟩
  have hM1 : M ≤ 300 := by omega
  have hM0 : 0 < M := by omega
  have hM2 : M ≤ cap := by omega
  rw [← hM] at HD ⊢
  clear hM
  go_loopw [3, 4, 5, 6] (fun vo vi _ _ wr => ∃ (i : Nat) (O : List Nat), vi = .int .i64 i ∧ i ≤ M ∧ wr.ownsRow w.heap.size 23 1 vo i (O.map fe) ∧ Hid (Up w wr) ∧ Hid (Got D i O)) (fun _ vi _ _ _ => M - (intOf vi).toNat)
  case atStart => exact ⟨0, [], rfl, by omega, World.ownsRow_nil _ _ _ _, Up.refl _, rfl, fun j hj => by omega⟩
  case round =>
    obtain ⟨i, O, rfl, hiM, hown, HUp, HG⟩ := hrel
    rename World => W1
    by_cases hlt : i < M
    · have hiz : (i : Int) < (M : Int) := by omega
      rcases Nat.eq_zero_or_pos i with h0 | hp
      · subst h0
        go_wp2_with (first
          | (go_at_call 9; (with_reducible refine (nth90 HD.out (up1 HR HUp) HF (by omega) (by omega)).mono ?_); rintro e w2 ⟨x, rfl, hx, hu⟩; have hown2 := owns_up hown hu.out; have HU2 : Hid (Up w w2) := HUp.out.trans hu.out; have sz : w.heap.size ≤ w2.heap.size := RowKit.Below.size HU2.out; clear hown hu)
          | (at_builtin; refine wpList_append_own _ rfl _ _ 22 rfl w.heap.size 23 i0 (.float .f64 0) 1 8 Try.underlying22 hi hz0 hz1 hz2 rfl (by decide) _ _ _ rfl (hown2.alloc _) ⟨w2.heap.size, 0, none⟩ 1 1 [.float .f64 x] rfl rfl (cell_new _ _ _) (one_cell _) (by unfold maxLen; omega) (by omega) (by simp; omega) ?_))
        intro v' w3 hown' hgrow _
        have R := row_push1 (n := 0) hown2 HU2.out hown' hgrow
        have HU3 : Hid (Up w w3) := R.2
        have hown3 := R.1
        clear hown' hgrow hown2 R HU2
        go_wp2
        go_roundw
        case rel => exact ⟨0 + 1, O ++ [x], by go_num, by omega, hown3, HU3, HG.out.snoc hx.out⟩
        case measure => simp [intOf]; omega
      · obtain ⟨ip, rfl⟩ : ∃ ip, i = ip + 1 := ⟨i - 1, by omega⟩
        have hlO := HG.out.1
        obtain ⟨g, co, hvo, _, _, hro⟩ := own_reads (own_list (l := O) (by omega) (by rw [hlO]; exact hown))
        rw [show O.toArray.size = ip + 1 by simp [hlO]] at hvo
        subst hvo
        obtain ⟨y, hy⟩ : ∃ y, O[ip]! = y := ⟨_, rfl⟩
        have hyG := HG.out.2 ip (by omega)
        rw [hy] at hyG
        have cy : W1.cell? ⟨g, ip, none⟩ = some (.float .f64 y) := by
          have := hro ip (by simp [hlO])
          rw [Nat.zero_add] at this
          rw [this, ← hy, getElem!_pos _ ip (by simp [hlO]), getElem!_pos O ip (by omega)]
          simp
        have HYG : Hid _ := hyG
        clear hro hy hyG
        have HLO : Hid _ := hlO
        clear hlO
        have hwp : IntKind.i64.wrap (ip : Int) = (ip : Int) := by rw [IntKind.wrap_i64]; omega
        have p0 : (0 : Int) < (ip : Int) + 1 := by omega
        have p1 : (ip : Int) < (ip : Int) + 1 := by omega
        go_wp2_with (first
          | (go_at_call 9; (with_reducible refine (nth9s HD.out (up1 HR HUp) HF (by omega) (by omega)).mono ?_); rintro e w2 ⟨x, rfl, hx, hu⟩; have hown2 := owns_up hown hu.out; have HU2 : Hid (Up w w2) := HUp.out.trans hu.out; have sz : w.heap.size ≤ w2.heap.size := RowKit.Below.size HU2.out; have cy2 := cell_up cy hu.out; clear hown hu cy)
          | (go_at_call 14; (with_reducible refine (plc0 HYG hx (by rw [HD.out]; omega)).mono ?_); rintro e w4 ⟨c, rfl, hc0, rfl⟩)
          | (at_builtin; refine wpList_append_own _ rfl _ _ 22 rfl w.heap.size 23 i0 (.float .f64 0) 1 8 Try.underlying22 hi hz0 hz1 hz2 rfl (by decide) _ _ _ rfl (hown2.alloc _) ⟨w4.heap.size, 0, none⟩ 1 1 [.float .f64 x] rfl rfl (cell_new _ _ _) (one_cell _) (by unfold maxLen; omega) (by omega) (by simp; omega) ?_))
        intro v' w3 hown' hgrow _
        have R := row_push1 (n := 0) hown2 HU2.out hown' hgrow
        have HU3 : Hid (Up w w3) := R.2
        have hown3 := R.1
        clear hown' hgrow hown2 R HU2
        go_wp2
        go_roundw
        case rel => exact ⟨ip + 1 + 1, O ++ [x], by go_num, by omega, hown3, HU3, HG.out.snoc hx.out⟩
        case measure => simp [intOf]; omega
    · obtain rfl : M = i := by omega
      have hlO := HG.out.1
      obtain ⟨g, co, hvo, _, _, hro⟩ := own_reads (own_list (l := O) (by omega) (by rw [hlO]; exact hown))
      have hsO : O.toArray.size = M := by simp [hlO]
      rw [hsO] at hvo
      subst hvo
      have RO : Hid (Reads W1 g 0 O.toArray) := hro
      have RD : Hid (Reads W1 blk off D) := HR.out.up HUp.out
      have HSO : Hid (O.toArray.size = M) := hsO
      have FO : Hid (Fit O.toArray) := HG.out.fit
      have KO : Hid (∀ j, j < D.size → key O.toArray[j]! = kth D j) := fun j hj => by
        have hj' : j < M := by rw [← HD.out]; exact hj
        have := (HG.out.2 j hj').2
        rw [getElem!_pos _ j (by rw [hsO]; exact hj')]
        rw [getElem!_pos O j (by rw [hlO]; exact hj')] at this
        simpa using this
      obtain ⟨OA, hOA⟩ : ∃ OA, OA = O.toArray := ⟨_, rfl⟩
      rw [← hOA] at RO HSO FO KO
      clear hro hsO hlO hown HG hOA
      go_wp2
      go_loopw [7, 8, 9] (fun vi _ _ wr => ∃ i q : Nat, vi = .int .i64 i ∧ i ≤ M ∧ wr = W1.drewN q) (fun vi _ _ _ => M - (intOf vi).toNat)
      case atStart => exact ⟨0, 0, rfl, by omega, rfl⟩
      case round =>
        obtain ⟨i, q, rfl, hiM2, hw⟩ := hrel
        by_cases hlt2 : i < M
        · obtain ⟨y, hy⟩ : ∃ y, D[i]! = y := ⟨_, rfl⟩
          have by64 := fit_at HF.out rfl (show i < D.size by rw [HD.out]; exact hlt2) hy
          have cy0 := RD.out i (by rw [HD.out]; exact hlt2)
          rw [hy] at cy0
          have CY : Hid (W1.cell? ⟨blk, off + i, none⟩ = some (.float .f64 y)) := cy0
          have ZR : Hid (cntK D OA y M = 0) := by
            have h := cntK_zero (D := D) (O := OA) (y := y) (by rw [HSO.out, HD.out]) HF.out FO.out by64 KO.out
            rw [HD.out] at h
            exact h
          clear cy0 hy
          have hiz2 : (i : Int) < (M : Int) := by omega
          go_wp2
          go_loopw [8, 9] (fun vn vk wr => ∃ (k q : Nat) (c : Int), vn = .int .i64 c ∧ vk = .int .i64 k ∧ k ≤ M ∧ -(k : Int) ≤ c ∧ c ≤ k ∧ wr = W1.drewN q ∧ Hid (c = cntK D OA y k)) (fun _ vk _ => M - (intOf vk).toNat)
          case atStart => exact ⟨0, q, 0, rfl, rfl, by omega, by omega, by omega, by first | exact hw | rfl, rfl⟩
          case round =>
            clear hw
            obtain ⟨k, q2, c, rfl, rfl, hk, hc1, hc2, hw, HC⟩ := hrel
            rename World => W2
            by_cases hlt3 : k < M
            · obtain ⟨x, hx⟩ : ∃ x, D[k]! = x := ⟨_, rfl⟩
              obtain ⟨z, hz⟩ : ∃ z, OA[k]! = z := ⟨_, rfl⟩
              have cx : W2.cell? ⟨blk, off + k, none⟩ = some (.float .f64 x) := by
                have := RD.out k (by rw [HD.out]; exact hlt3)
                rw [hx] at this; rw [hw]; exact this
              have cz : W2.cell? ⟨g, k, none⟩ = some (.float .f64 z) := by
                have := RO.out k (by rw [HSO.out]; exact hlt3)
                rw [Nat.zero_add, hz] at this; rw [hw]; exact this
              have cy : W2.cell? ⟨blk, off + i, none⟩ = some (.float .f64 y) := by rw [hw]; exact CY.out
              have HW : Hid (W2 = W1.drewN q2) := hw
              have HST : Hid (cntK D OA y (k + 1) = c + (if ab x == ab y then 1 else 0) - (if ab z == ab y then 1 else 0)) := by
                show _ = _; rw [cntK, hx, hz, ← HC.out]
              clear hw hx hz
              have hkz : (k : Int) < (M : Int) := by omega
              cases hb1 : (ab x == ab y) <;> cases hb2 : (ab z == ab y)
              all_goals
                have HB1 : Hid _ := hb1
                have HB2 : Hid _ := hb2
                rw [hb1, hb2] at HST
                clear hb1 hb2
                go_wp2_with fail
                go_quiet (first | (go_at_call 6; refine Calls.quiet_of (like6 HB1.out _)))
                go_wp2_with fail
                have cy2 : (W2.drewN nq).cell? ⟨blk, off + i, none⟩ = some (.float .f64 y) := cy
                have cz2 : (W2.drewN nq).cell? ⟨g, k, none⟩ = some (.float .f64 z) := cz
                have HW3 : Hid (W2.drewN nq = W1.drewN (q2 + nq)) := by show _ = _; rw [HW.out, World.drewN_drewN]
                clear cx cy cz HW
                generalize W2.drewN nq = W3 at cy2 cz2 HW3 ⊢
                go_quiet (first | (go_at_call 6; refine Calls.quiet_of (like6 HB2.out _)))
                go_wp2
                go_roundw
                case rel =>
                  refine ⟨k + 1, _, _, rfl, by go_num, by omega, by omega, by omega, (by rw [HW3.out, World.drewN_drewN]), ?_⟩
                  show _ = _
                  rw [HST.out]
                  simp <;> omega
                case measure => simp [intOf]; omega
            · obtain rfl : M = k := by omega
              obtain rfl : c = 0 := by rw [HC.out, ZR.out]
              go_wp2
              go_roundw
              case rel => exact ⟨i + 1, q2, by go_num, by omega, by first | exact hw | rfl⟩
              case measure => simp [intOf]; omega
        · obtain rfl : M = i := by omega
          go_wp2_with (go_at_call 13; (with_reducible refine (t13 _).mono ?_); rintro e w9 ⟨rfl, hu⟩)
          go_ret
          refine ⟨rfl, ?_⟩
          first | exact (HUp.out.trans (Up.drewN _ _)).trans hu.out | (rw [hw] at hu; exact (HUp.out.trans (Up.drewN _ _)).trans hu.out)
end Go.Proofs.Ytfifdngcdknbbaa
