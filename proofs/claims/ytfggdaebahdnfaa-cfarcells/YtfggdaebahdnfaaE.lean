/- The reference's sort, walked. -/
import Derived.Test.YtfggdaebahdnfaaD
namespace Go.Proofs.Ytfggdaebahdnfaa
open Go.ChangeShapes Go.WideShapes Go.ChangeAt Go.RowKit Go.Fl Go.Sort
attribute [local go_sem] run_store_float call35 call46 run_neg fold_eq fold_ne fold_lt fold_gt abs_eq

theorem row_push1 {w wr w1 : World} {v v' : Value} {n x m : Nat} {O : List Nat} {c : Array Value} {t : TypeId}
    (hown : wr.ownsRow w.heap.size 24 1 v m (O.map fe)) (hbel : Up w wr)
    (hown' : w1.ownsRow w.heap.size 24 1 v' (m + 1) (O.map fe ++ [.float .f64 x])) (hg : ((wr.drewN n).alloc (.cells c t)).grownBy w1 v.ownBlock) :
    w1.ownsRow w.heap.size 24 1 v' (m + 1) ((O ++ [x]).map fe) ∧ Up w w1 := by
  refine ⟨by rw [List.map_append]; exact hown', ?_⟩
  have hs : w.heap.size ≤ wr.heap.size := RowKit.Below.size hbel
  exact ((below_drewN hbel n).alloc (by simpa using hs) _).grown hg (by simp; omega) (fun j hj => (hown.lt j hj).1)
theorem cell_new (w : World) (x : Nat) (t : TypeId) : ∀ (j : Nat) (u : Value), [Value.float .f64 x][j]? = some u → (w.alloc (.cells #[.float .f64 x] t)).cell? ((⟨w.heap.size, 0, none⟩ : Addr).add j) = some u := by
  intro j u hj
  match j, hj with
  | 0, hj => simp at hj; subst hj; exact World.cell?_alloc_at _ _ _ _ rfl
theorem one_cell (x : Nat) : ∀ u ∈ [Value.float .f64 x], u.oneCell' = true := by
  intro u hu; simp at hu; subst hu; rfl
theorem plc {x y : Nat} {w : World} (hx : x < 2 ^ 64) (hy : y < 2 ^ 64) (n : Nat) : Calls Try.prog 71 #[.float .f64 x, .float .f64 y] (w.drewN n) fun e w' => e = .returned (.int .i64 (cmpK x y)) ∧ ∃ m, w' = (w.drewN n).drewN m :=
  (t71 x y _ hx hy).mono fun _ _ ⟨he, hw⟩ => ⟨he, 0, hw⟩

set_option maxHeartbeats 4000000 in
theorem t64two (n : Nat) (IH : Srt n) (blk off cap : Nat) (d : Array Nat) (w : World) (hR : Reads w blk off d) (hF : Fit d) (hp : 2 ≤ d.size) (hcap : d.size ≤ cap) (hn : d.size ≤ n + 1) (hb : d.size * 8 ≤ 140737488355328) :
    Calls Try.prog 64 #[.slice (some ⟨blk, off, none⟩) d.size cap] w (SortR w d) := by
  obtain ⟨i0, hi, hz0, hz1, hz2⟩ := info_parts info23
  have HI : Hid (Srt n) := IH
  have HR : Hid (Reads w blk off d) := hR
  have HF : Hid (Fit d) := hF
  clear hR IH hF
  obtain ⟨h, hh⟩ : ∃ h, h = d.size / 2 := ⟨_, rfl⟩
  have eh : (d.size : Int) / 2 = (h : Int) := by omega
  have h0 : 0 < h := by omega
  have h1 : h < d.size := by omega
  have h2 : h < cap := by omega
  have sl : (d.extract 0 h).size = h := by simp; omega
  have sr : (d.extract h d.size).size = d.size - h := by simp
  have CL : Hid (∀ w', Up w w' → Calls Try.prog 64 #[.slice (some ⟨blk, off, none⟩) h cap] w' (SortR w' (d.extract 0 h))) := fun w' hu => by
    have k := HI.out blk off cap (d.extract 0 h) w' ((reads_sub HR.out 0 h (by omega)).up hu) (fit_sub HF.out 0 h (by omega)) (by omega) (by omega) (by omega) (by omega)
    rw [sl] at k; exact k
  have CR : Hid (∀ w', Up w w' → Calls Try.prog 64 #[.slice (some ⟨blk, off + h, none⟩) (d.size - h) (cap - h)] w' (SortR w' (d.extract h d.size))) := fun w' hu => by
    have k := HI.out blk (off + h) (cap - h) (d.extract h d.size) w' ((reads_sub HR.out h d.size (by omega)).up hu) (fit_sub HF.out h d.size (by omega)) (by omega) (by omega) (by omega) (by omega)
    rw [sr] at k; exact k
  have hd2 : ¬ d.size < 2 := by omega
  have hd3 : decide ((d.size : Int) < 2) = false := decide_eq_false (by omega)
  have SL : Hid _ := sl
  have SR : Hid _ := sr
  have HD : Hid (h = d.size / 2) := hh
  clear sl sr hh
  go_enter Try.func64, Try.ntmps64
  go_wp2_with (first
    | (go_at_call 64; (with_reducible refine (CL.out _ (Up.refl _)).mono ?_); rintro e w1 ⟨va, A, rfl, OA, UA, SA⟩)
    | (go_at_call 64; (with_reducible refine (CR.out _ UA.out).mono ?_); rintro e w2 ⟨vb, B, rfl, OB, UB, SB⟩))
  obtain ⟨ga, ca, hva, hga, hca, ra⟩ := own_reads OA.out
  obtain ⟨gb, cb, hvb, hgb, _, rb⟩ := own_reads OB.out
  subst hva
  subst hvb
  have RA : Hid (Reads w2 ga 0 A) := ra.up UB.out
  have RB : Hid (Reads w2 gb 0 B) := rb
  have UW : Hid (Up w w2) := UA.out.trans UB.out
  have FA : Hid (Fit A) := fit_perm (fit_sub HF.out 0 h (by omega)) SA.out.1
  have FB : Hid (Fit B) := fit_perm (fit_sub HF.out h d.size (by omega)) SB.out.1
  have za : A.size = h := by have := SA.out.1.length_eq; simp only [Array.length_toList] at this; rw [this, SL.out]
  have zb : B.size = d.size - h := by have := SB.out.1.length_eq; simp only [Array.length_toList] at this; rw [this, SR.out]
  have zab : A.size + B.size = d.size := by omega
  have za0 : 0 < A.size := by omega
  clear ra rb OA OB UA UB CL CR SL SR za zb
  go_loopw [5, 6, 7] (fun vo vi vk wr => ∃ (i k : Nat) (O : List Nat), vi = .int .i64 i ∧ vk = .int .i64 k ∧ i ≤ A.size ∧ k ≤ B.size ∧ wr.ownsRow w2.heap.size 24 1 vo (i + k) (O.map fe) ∧ Hid (Up w2 wr) ∧ Hid (O ++ mg (A.toList.drop i) (B.toList.drop k) = mg A.toList B.toList)) (fun _ _ vk _ => B.size - (intOf vk).toNat)
  case atStart => exact ⟨0, 0, [], rfl, rfl, by omega, by omega, World.ownsRow_nil _ _ _ _, Up.refl _, by show _ = _; simp⟩
  case round =>
    obtain ⟨i, k, O, rfl, rfl, hiA, hkB, hown, HUp, HE⟩ := hrel
    by_cases hlt : k < B.size
    · go_wp2
      go_loopw [5, 6] (fun vo vi wr => ∃ (i : Nat) (O : List Nat), vi = .int .i64 i ∧ i ≤ A.size ∧ wr.ownsRow w2.heap.size 24 1 vo (i + k) (O.map fe) ∧ Hid (Up w2 wr) ∧ Hid (O ++ mg (A.toList.drop i) (B.toList.drop k) = mg A.toList B.toList)) (fun _ vi _ => A.size - (intOf vi).toNat)
      case atStart => exact ⟨i, O, rfl, hiA, hown, HUp, HE⟩
      case round =>
        clear hown HUp HE hiA
        obtain ⟨i, O, rfl, hiA, hown, HUp, HE⟩ := hrel
        rename World => W1
        obtain ⟨y, hy⟩ : ∃ y, B[k]! = y := ⟨_, rfl⟩
        have cy : W1.cell? ⟨gb, k, none⟩ = some (.float .f64 y) := by
          have := (RB.out.up HUp.out) k hlt
          rw [Nat.zero_add, hy] at this; exact this
        have by' := fit_at FB.out rfl hlt hy
        have HY : Hid _ := hy
        clear hy
        by_cases hi2 : i < A.size
        · obtain ⟨x, hx⟩ : ∃ x, A[i]! = x := ⟨_, rfl⟩
          have cx : W1.cell? ⟨ga, i, none⟩ = some (.float .f64 x) := by
            have := (RA.out.up HUp.out) i hi2
            rw [Nat.zero_add, hx] at this; exact this
          have bx := fit_at FA.out rfl hi2 hx
          have HX : Hid _ := hx
          clear hx
          have hiz : (i : Int) < (A.size : Int) := by omega
          have hkz : (k : Int) < (B.size : Int) := by omega
          by_cases hc : cmpK x y ≤ 0
          · go_wp2_with fail
            go_quiet (first | (go_at_call 71; refine Calls.quiet_of (plc bx by' _)))
            have cx2 : (W1.drewN nq).cell? ⟨ga, i, none⟩ = some (.float .f64 x) := cx
            have sz : w2.heap.size ≤ W1.heap.size := RowKit.Below.size HUp.out
            go_wp2_with (at_builtin; refine wpList_append_own _ rfl _ _ 22 rfl w2.heap.size 24 i0 (.float .f64 0) 1 8 Try.underlying22 hi hz0 hz1 hz2 rfl (by decide) _ _ _ rfl (hown.alloc _) ⟨W1.heap.size, 0, none⟩ 1 1 [.float .f64 x] rfl rfl (cell_new _ _ _) (one_cell _) (by unfold maxLen; omega) (by omega) (by simp; omega) ?_)
            intro v' w3 hown' hgrow _
            have R := row_push1 hown HUp.out hown' hgrow
            have hown2 : w3.ownsRow w2.heap.size 24 1 v' (i + 1 + k) ((O ++ [x]).map fe) := by rw [show i + 1 + k = i + k + 1 by omega]; exact R.1
            have HU3 : Hid (Up w2 w3) := R.2
            clear hown' hgrow hown HUp R cx cx2 cy
            go_wp2
            go_roundw
            case rel =>
              refine ⟨i + 1, O ++ [x], by go_num, by omega, hown2, HU3, ?_⟩
              show _ = _
              rw [← HE.out, mg_left hi2 hlt (by rw [HX.out, HY.out]; exact (cmpK_le x y).1 hc), HX.out]
              simp
            case measure => simp [intOf]; omega
          · have hc2 : (0 : Int) < cmpK x y := by omega
            have hc3 : decide (cmpK x y ≤ 0) = false := decide_eq_false hc
            go_wp2_with fail
            go_quiet (first | (go_at_call 71; refine Calls.quiet_of (plc bx by' _)))
            have cy2 : (W1.drewN nq).cell? ⟨gb, k, none⟩ = some (.float .f64 y) := cy
            have sz : w2.heap.size ≤ W1.heap.size := RowKit.Below.size HUp.out
            go_wp2_with (at_builtin; refine wpList_append_own _ rfl _ _ 22 rfl w2.heap.size 24 i0 (.float .f64 0) 1 8 Try.underlying22 hi hz0 hz1 hz2 rfl (by decide) _ _ _ rfl (hown.alloc _) ⟨W1.heap.size, 0, none⟩ 1 1 [.float .f64 y] rfl rfl (cell_new _ _ _) (one_cell _) (by unfold maxLen; omega) (by omega) (by simp; omega) ?_)
            intro v' w3 hown' hgrow _
            have R := row_push1 hown HUp.out hown' hgrow
            have hown2 : w3.ownsRow w2.heap.size 24 1 v' (i + (k + 1)) ((O ++ [y]).map fe) := R.1
            have HU3 : Hid (Up w2 w3) := R.2
            clear hown' hgrow hown HUp R cx cy cy2
            go_wp2
            go_roundw
            case rel =>
              refine ⟨i, k + 1, O ++ [y], rfl, by go_num, by omega, by omega, hown2, HU3, ?_⟩
              show _ = _
              rw [← HE.out, mg_right hlt (Or.inr (by rw [HX.out, HY.out]; have := (cmpK_le x y); omega)), HY.out]
              simp
            case measure => simp [intOf]; omega
        · have hi3 : decide ((i : Int) < (A.size : Int)) = false := decide_eq_false (by omega)
          have hi4 : ¬ (i : Int) < (A.size : Int) := by omega
          have sz : w2.heap.size ≤ W1.heap.size := RowKit.Below.size HUp.out
          go_wp2_with fail
          go_big_region
          have cy2 : W1.drew.cell? ⟨gb, k, none⟩ = some (.float .f64 y) := cy
          all_goals go_wp2_with (at_builtin; refine wpList_append_own _ rfl _ _ 22 rfl w2.heap.size 24 i0 (.float .f64 0) 1 8 Try.underlying22 hi hz0 hz1 hz2 rfl (by decide) _ _ _ rfl (hown.alloc _) ⟨W1.heap.size, 0, none⟩ 1 1 [.float .f64 y] rfl rfl (cell_new _ _ _) (one_cell _) (by unfold maxLen; omega) (by omega) (by simp; omega) ?_)
          intro v' w3 hown' hgrow _
          have R := row_push1 (n := 1) hown HUp.out hown' hgrow
          have hown2 : w3.ownsRow w2.heap.size 24 1 v' (i + (k + 1)) ((O ++ [y]).map fe) := R.1
          have HU3 : Hid (Up w2 w3) := R.2
          clear hown' hgrow hown HUp R cy cy2
          go_wp2
          go_roundw
          case rel =>
            refine ⟨i, k + 1, O ++ [y], rfl, by go_num, by omega, by omega, hown2, HU3, ?_⟩
            show _ = _
            rw [← HE.out, mg_right hlt (Or.inl (by omega)), HY.out]
            simp
          case measure => simp [intOf]; omega
    · rename World => W1
      obtain rfl : k = B.size := by omega
      have HA : Hid (d.toList.Perm (A.toList ++ B.toList)) := by
        have e : d.toList = (d.extract 0 h).toList ++ (d.extract h d.size).toList := by
          simp
          rw [List.take_of_length_le (l := List.drop h d.toList) (by simp), List.take_append_drop]
        show d.toList.Perm _
        rw [e]
        exact (SA.out.1.append SB.out.1).symm
      have FIN : Hid (∀ (v' : Value) (w3 : World), w3.ownsRow w2.heap.size 24 1 v' (i + B.size + (A.size - i)) (O.map fe ++ (A.toList.drop i).map fe) → Up w2 w3 → SortR w d (.returned v') w3) := by
        intro v' w3 ho hu
        have e1 : O ++ A.toList.drop i = mg A.toList B.toList := by
          rw [← HE.out, show List.drop B.size B.toList = [] from List.drop_eq_nil_of_le (by simp)]
          simp [mg]
        have e2 : (mg A.toList B.toList).length = A.size + B.size := by rw [(mg_perm _ _).length_eq]; simp
        refine ⟨v', (mg A.toList B.toList).toArray, rfl, ?_, UW.out.trans hu, ?_, ?_⟩
        · have e3 : i + B.size + (A.size - i) = (mg A.toList B.toList).length := by rw [e2]; omega
          rw [← List.map_append, e1, e3] at ho
          obtain ⟨g, cap', k1, k2, k3⟩ := own_list (by rw [e2]; omega) ho
          exact ⟨g, cap', k1, Nat.le_trans (RowKit.Below.size UW.out) k2, k3⟩
        · exact (mg_perm _ _).trans HA.out.symm
        · exact mg_pair SA.out.2 SB.out.2
      have RN := reads_news (reads_sub (RA.out.up HUp.out) i A.size (Nat.le_refl _))
      have e4 : (A.extract i A.size).toList = A.toList.drop i := by
        simp
        exact List.take_of_length_le (by simp)
      rw [e4] at RN
      have ln : ((A.toList.drop i).map fe).length = (A.size - i) * 1 := by simp
      have sz : w2.heap.size ≤ W1.heap.size := RowKit.Below.size HUp.out
      have HRN : Hid _ := RN
      clear RN e4 HA
      by_cases hci : ca = i
      · have hAi : A.size = i := by omega
        have en : A.toList.drop i = [] := List.drop_eq_nil_of_le (by simp; omega)
        have hRN : ∀ (j : Nat) (u : Value), ((A.toList.drop i).map fe)[j]? = some u → W1.cell? ((⟨ga, 0, none⟩ : Addr).add j) = some u := by
          intro j u hj; rw [en] at hj; simp at hj
        have HEN : Hid _ := hRN
        clear hRN en hAi
        go_wp2_with (at_builtin; refine wpList_append_own _ rfl _ _ 22 rfl w2.heap.size 24 i0 (.float .f64 0) 1 8 Try.underlying22 hi hz0 hz1 hz2 rfl (by decide) _ _ _ rfl hown ⟨ga, 0, none⟩ (A.size - i) _ ((A.toList.drop i).map fe) rfl ln HEN.out (one_cells _) (by unfold maxLen; omega) (by omega) sz ?_)
        intro v' w3 hown' hgrow _
        have U3 : Up w2 w3 := RowKit.Below.grown HUp.out hgrow sz (fun j hj => (hown.lt j hj).1)
        have E := FIN.out v' w3 (by first | exact hown' | (rw [List.map_drop]; exact hown')) U3
        clear hown' hgrow
        go_wp2
        go_ret
        exact E
      · go_wp2_with (at_builtin; refine wpList_append_own _ rfl _ _ 22 rfl w2.heap.size 24 i0 (.float .f64 0) 1 8 Try.underlying22 hi hz0 hz1 hz2 rfl (by decide) _ _ _ rfl hown ⟨ga, i, none⟩ (A.size - i) _ ((A.toList.drop i).map fe) rfl ln (by have := HRN.out; rwa [Nat.zero_add] at this) (one_cells _) (by unfold maxLen; omega) (by omega) sz ?_)
        intro v' w3 hown' hgrow _
        have U3 : Up w2 w3 := RowKit.Below.grown HUp.out hgrow sz (fun j hj => (hown.lt j hj).1)
        have E := FIN.out v' w3 (by first | exact hown' | (rw [List.map_drop]; exact hown')) U3
        clear hown' hgrow
        go_wp2
        go_ret
        exact E

theorem srt_all : ∀ n, Srt n
  | 0 => fun _ _ _ _ _ _ _ _ _ _ _ => by omega
  | n + 1 => by
    intro blk off cap d w hR hF hp hc hn hb
    by_cases h1 : d.size = 1
    · exact t64one blk off cap d w hR h1
    · exact t64two n (srt_all n) blk off cap d w hR hF (by omega) hc hn hb
theorem t64 (blk off cap : Nat) (d : Array Nat) (w : World) (hR : Reads w blk off d) (hF : Fit d) (hp : 0 < d.size) (hc : d.size ≤ cap) (hb : d.size * 8 ≤ 140737488355328) : Calls Try.prog 64 #[.slice (some ⟨blk, off, none⟩) d.size cap] w (SortR w d) :=
  srt_all d.size blk off cap d w hR hF hp hc (Nat.le_refl _) hb
/-- The reference's Nth. -/
theorem t52bad (p : Option Addr) (N cap : Nat) (n : Int) (w : World) (hn : n < 0 ∨ (N : Int) ≤ n) :
    Calls Try.prog 52 #[.slice p N cap, .int .i64 n] w fun e w' => e = .returned (.tuple #[.float .f64 0, .int .i64 2]) ∧ w' = w := by
  rcases Int.lt_or_le n 0 with h | h
  · go_enter Try.func52, Try.ntmps52
    go_wp2
    go_ret2
    exact ⟨rfl, rfl⟩
  · have h1 : ¬ n < 0 := by omega
    have h2 : (N : Int) ≤ n := by omega
    go_enter Try.func52, Try.ntmps52
    go_wp2
    go_ret2
    exact ⟨rfl, rfl⟩
theorem kth_list {d d' : Array Nat} {n : Nat} (hp : d'.toList.Perm d.toList) (hs : d'.toList.Pairwise fun x y => key x ≤ key y) (hn : n < d.size) : key d'[n]! = kth d n := by
  have hk := keys_of hp hs
  have hl : d'.size = d.size := by have := hp.length_eq; simpa using this
  unfold kth
  rw [← hk]
  have hn' : n < d'.size := by omega
  rw [getElem!_pos d' n hn', getElem!_pos _ n (by simpa using hn')]
  simp
set_option maxHeartbeats 1000000 in
theorem t52 (blk off cap k : Nat) (d : Array Nat) (w : World) (hR : Reads w blk off d) (hF : Fit d) (hk : k < d.size) (hc : d.size ≤ cap) (hb : d.size * 8 ≤ 140737488355328) :
    Calls Try.prog 52 #[.slice (some ⟨blk, off, none⟩) d.size cap, .int .i64 k] w (NR w d k) := by
  have HR : Hid (Reads w blk off d) := hR
  have HF : Hid (Fit d) := hF
  clear hR hF
  have hk1 : ¬ (k : Int) < 0 := by omega
  have hk2 : (k : Int) < (d.size : Int) := by omega
  have hk3 : ¬ (d.size : Int) ≤ (k : Int) := by omega
  go_enter Try.func52, Try.ntmps52
  go_wp2_with (go_at_call 64; (with_reducible refine (t64 _ _ _ _ _ HR.out HF.out (by omega) hc hb).mono ?_); rintro e w1 ⟨v, A, rfl, HO, HU, HS⟩; obtain ⟨g, cap2, hv, hg, _, ra⟩ := own_reads HO.out; subst hv; have hl : A.size = d.size := (by have := HS.out.1.length_eq; simpa using this); obtain ⟨x, hx⟩ : ∃ x, A[k]! = x := ⟨_, rfl⟩; have hc2 := ra k (by omega); rw [Nat.zero_add, hx] at hc2; have HX : Hid _ := hx; clear HO hx ra)
  go_ret2
  refine ⟨x, rfl, ⟨?_, ?_⟩, HU⟩
  · have h := fit_perm HF.out HS.out.1
    have h2 := h k (by omega)
    rw [HX.out] at h2
    exact h2
  · rw [← HX.out]; exact kth_list HS.out.1 HS.out.2 hk
end Go.Proofs.Ytfggdaebahdnfaa
