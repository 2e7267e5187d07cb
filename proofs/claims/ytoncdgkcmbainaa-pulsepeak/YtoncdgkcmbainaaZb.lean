/- Rows of signs against themselves: the walk of the statement. -/
import Derived.Test.YtoncdgkcmbainaaZa
import Derived.Test.YtoncdgkcmbainaaV
namespace Go.Proofs.Ytoncdgkcmbainaa
open Go.ChangeShapes Go.WideShapes Go.ChangeAt Go.RowKit Go.Fl Ieee
attribute [local go_sem] run_store_float run_store_complex call41 call40 run_neg fold_eq fold_ne fold_lt fold_gt abs_eq

theorem t22k {x : Nat} (hN : isN x = false) (hf : floor x = x) (w : World) : Calls Try.prog 22 #[.float .f64 x] w fun e w' => e = .returned (.float .f64 x) ∧ ∃ n, w' = w.drewN n := by
  refine (t22 x w).mono fun e w' ⟨r, n, he, hw, hr⟩ => ⟨?_, n, hw⟩
  have h := hr.out
  rw [ab_some hN, Option.map_some, hf] at h
  rw [he, of_ab h]
/-- The row so far. -/
structure SgnRow (w0 w : World) (v : Value) (S : Nat → Bool) (k : Nat) : Prop where
  row : w.ownsRow w0.heap.size 41 1 v k ((List.range k).map fun i => ce (sgnP (S i)))
  up : Up w0 w
theorem SgnRow.push {w0 w wa w1 : World} {v v' : Value} {S : Nat → Bool} {k x : Nat} (h : SgnRow w0 w v S k) (hu : Up w wa) (hx : sgnP (S k) = (x, 0)) (hown : w1.ownsRow w0.heap.size 41 1 v' (k + 1) (((List.range k).map fun i => ce (sgnP (S i))) ++ [.complex .f64 x 0])) (hg : wa.grownBy w1 v.ownBlock) : SgnRow w0 w1 v' S (k + 1) := by
  refine ⟨?_, Below.grown (h.up.trans hu) hg (Nat.le_trans h.up.size hu.size) (fun j hj => (h.row.lt j hj).1)⟩
  rw [List.range_succ, List.map_append]
  simp only [List.map_cons, List.map_nil, hx, ce]
  exact hown
theorem SgnRow.rd {w0 w : World} {v : Value} {S : Nat → Bool} {n : Nat} (h : SgnRow w0 w v S n) (h0 : 0 < n) : ∃ g cap, v = .slice (some ⟨g, 0, none⟩) n cap ∧ n ≤ cap ∧ RD w g 0 n (fun i => sgnP (S i)) := by
  rcases h.row.2 with ⟨_, h2⟩ | ⟨g, cap, cur, rfl, _, _, hc, _⟩
  · omega
  · refine ⟨g, cap, rfl, hc, fun j hj => ?_⟩
    rw [Nat.zero_add, World.ownsRow.cellAt h.row j (by omega)]
    simp [List.getElem?_map, List.getElem?_range hj]
theorem t21s {v : Value} {w0 w : World} {S : Nat → Bool} {n : Nat} (h : Hid (SgnRow w0 w v S n)) (h1 : 1 ≤ n) (h2 : n ≤ 600) : Calls Try.prog 21 #[v] w (OL w (fun i => sgnP (S i)) n) := by
  obtain ⟨g, cap, rfl, hc, hr⟩ := h.out.rd (by omega)
  exact t21 g 0 n cap _ w hr h1 (by omega) hc
/-- Own's row of signs, as it lies. -/
structure OwnRow (w0 w : World) (g n cap : Nat) (S : Nat → Bool) : Prop where
  row : ∃ d, d.length = 2 * n - 1 ∧ CRow w0.heap.size w (.slice (some ⟨g, 0, none⟩) (2 * n - 1) cap) d ∧ ∀ j, j < 2 * n - 1 → ab2 d[j]! = ownF (fun i => sgnP (S i)) n j
theorem OwnRow.up {w0 w w' : World} {g n cap : Nat} {S : Nat → Bool} (h : OwnRow w0 w g n cap S) (hu : Up w w') : OwnRow w0 w' g n cap S := by
  obtain ⟨d, h1, h2, h3⟩ := h.row
  exact ⟨⟨d, h1, h2.up hu, h3⟩⟩
theorem OwnRow.of {w0 w : World} {v : Value} {d : List (Nat × Nat)} {n : Nat} {S : Nat → Bool} (h1 : CRow w0.heap.size w v d) (h2 : d.length = 2 * n - 1 ∧ ∀ j, j < 2 * n - 1 → ab2 d[j]! = ownF (fun i => sgnP (S i)) n j) (hn : 1 ≤ n) : ∃ g cap, v = .slice (some ⟨g, 0, none⟩) (2 * n - 1) cap ∧ OwnRow w0 w g n cap S := by
  rcases h1.2 with ⟨_, h0⟩ | ⟨g, cap, cur, he, _⟩
  · rw [h2.1] at h0; omega
  · rw [h2.1] at he
    subst he
    exact ⟨g, cap, rfl, ⟨d, h2.1, h1, h2.2⟩⟩
theorem OwnRow.fine {w0 w : World} {g n cap : Nat} {S : Nat → Bool} (h : OwnRow w0 w g n cap S) (h1 : 1 ≤ n) (h2 : n ≤ 600) {j : Nat} (hj : j < 2 * n - 1) : ∃ x i, w.cell? ⟨g, j, none⟩ = some (.complex .f64 x i) ∧ Fine n x i := by
  obtain ⟨d, g1, g2, g3⟩ := h.row
  obtain ⟨x, i, he, hf⟩ := own_fine (S := S) h1 h2 hj
  have hd := g3 j hj
  rw [he] at hd
  have hc := g2.cell (i := j) (by rw [g1]; exact hj)
  have e1 : d[j]!.1 = x := of_ab (congrArg Prod.fst hd)
  have e2 : d[j]!.2 = i := of_ab (congrArg Prod.snd hd)
  rw [e1, e2] at hc
  exact ⟨x, i, hc, hf⟩
theorem OwnRow.mid {w0 w : World} {g n cap : Nat} {S : Nat → Bool} (h : OwnRow w0 w g n cap S) (h1 : 1 ≤ n) (h2 : n ≤ 600) : ∃ i, w.cell? ⟨g, n - 1, none⟩ = some (.complex .f64 (floatOfInt .f64 n) i) ∧ eqF (ab i) (ab 0) = true := by
  obtain ⟨d, g1, g2, g3⟩ := h.row
  obtain ⟨i, he, hf⟩ := own_mid (S := S) h1 h2
  have hd := g3 (n - 1) (by omega)
  rw [he] at hd
  have hc := g2.cell (i := n - 1) (by rw [g1]; omega)
  have e1 : d[n - 1]!.1 = floatOfInt .f64 n := of_ab (congrArg Prod.fst hd)
  have e2 : d[n - 1]!.2 = i := of_ab (congrArg Prod.snd hd)
  rw [e1, e2] at hc
  exact ⟨i, hc, hf⟩
theorem eqF_num {x : Nat} (h : isN x = false) : eqF (ab x) (ab x) = true := by rw [eqF_self, h]; rfl
theorem t8b (p : Option Addr) (n cap : Nat) (w : World) (h : n < 1 ∨ 600 < n) : Calls Try.prog 8 #[.slice p n cap] w (TU w) := by
  rcases h with h | h
  · obtain rfl : n = 0 := by omega
    go_enter Try.func8, Try.ntmps8
    go_wp2_with (go_at_call 12; refine (t12 _).mono ?_; rintro e w1 ⟨rfl, y1⟩)
    go_ret
    exact ⟨rfl, y1⟩
  · have h1 : (600 : Int) < n := by omega
    have h2 : ¬ (n : Int) < 1 := by omega
    go_enter Try.func8, Try.ntmps8
    go_wp2_with (go_at_call 12; refine (t12 _).mono ?_; rintro e w1 ⟨rfl, y1⟩)
    go_ret
    exact ⟨rfl, y1⟩
set_option maxHeartbeats 4000000 in
theorem t8 (blk off n cap : Nat) (S : Nat → Bool) (w : World) (hR : ∀ i, i < n → w.cell? ⟨blk, off + i, none⟩ = some (.bool (S i))) (h1 : 1 ≤ n) (h2 : n ≤ 600) : Calls Try.prog 8 #[.slice (some ⟨blk, off, none⟩) n cap] w (TU w) := by
  obtain ⟨i0, hi, hz0, hz1, hz2⟩ := info_parts info41
  have HR : Hid (∀ i, i < n → w.cell? ⟨blk, off + i, none⟩ = some (.bool (S i))) := hR
  clear hR
  have hn1 : ¬ (n : Int) < 1 := by omega
  have hn2 : ¬ (n : Int) > 600 := by omega
  go_enter Try.func8, Try.ntmps8
  go_wp2
  go_loopw [3, 4] (fun v vi wr => ∃ k : Nat, k ≤ n ∧ vi = .int .i64 k ∧ Hid (SgnRow w wr v S k)) (fun _ vi _ => n - (intOf vi).toNat)
  case atStart => exact ⟨0, by omega, rfl, ⟨World.ownsRow_nil _ _ _ _, Up.refl _⟩⟩
  case round =>
    obtain ⟨k, hk, rfl, HS⟩ := hrel
    by_cases hlt : k < n
    · have hkz : (k : Int) < (n : Int) := by omega
      have hc := cell_up (HR.out k hlt) HS.out.up
      have hown := HS.out.row
      have sz : w.heap.size ≤ wr.heap.size := HS.out.up.size
      cases hb : S k
      · rw [hb] at hc
        have HX : Hid (sgnP (S k) = (13830554455654793216, 0)) := by show _ = _; rw [hb]; rfl
        clear hb
        go_wp2_with (at_builtin; refine wpList_append_own _ rfl _ _ 27 rfl w.heap.size 41 i0 (.complex .f64 0 0) 1 16 Try.underlying27 hi hz0 hz1 hz2 rfl (by decide) _ _ _ rfl (hown.alloc _) ⟨wr.heap.size, 0, none⟩ 1 1 [.complex .f64 13830554455654793216 0] rfl rfl (cell_newc _ _ _ _) (one_cellc _ _) (by unfold maxLen; omega) (by omega) (by simp; omega) ?_)
        intro v' w3 hown' hgrow _
        have HS3 : Hid (SgnRow w w3 v' S (k + 1)) := HS.out.push (Up.alloc _ _) HX.out hown' hgrow
        clear hown' hgrow hown HS
        go_wp2
        go_roundw
        case rel => exact ⟨k + 1, by omega, by go_num, HS3⟩
        case measure => simp [intOf]; omega
      · rw [hb] at hc
        have HX : Hid (sgnP (S k) = (4607182418800017408, 0)) := by show _ = _; rw [hb]; rfl
        clear hb
        go_wp2_with (at_builtin; refine wpList_append_own _ rfl _ _ 27 rfl w.heap.size 41 i0 (.complex .f64 0 0) 1 16 Try.underlying27 hi hz0 hz1 hz2 rfl (by decide) _ _ _ rfl (hown.alloc _) ⟨wr.heap.size, 0, none⟩ 1 1 [.complex .f64 4607182418800017408 0] rfl rfl (cell_newc _ _ _ _) (one_cellc _ _) (by unfold maxLen; omega) (by omega) (by simp; omega) ?_)
        intro v' w3 hown' hgrow _
        have HS3 : Hid (SgnRow w w3 v' S (k + 1)) := HS.out.push (Up.alloc _ _) HX.out hown' hgrow
        clear hown' hgrow hown HS
        go_wp2
        go_roundw
        case rel => exact ⟨k + 1, by omega, by go_num, HS3⟩
        case measure => simp [intOf]; omega
    · obtain rfl : n = k := by omega
      obtain ⟨gl, cl, hv, _, _⟩ := HS.out.rd (by omega)
      subst hv
      obtain ⟨M, hM⟩ : ∃ M, M = 2 * n - 1 := ⟨_, rfl⟩
      have HM : Hid (M = 2 * n - 1) := hM
      have eM : 2 * (n : Int) - 1 = M := by omega
      have eN : (n : Int) - 1 = ((n - 1 : Nat) : Int) := by omega
      have hMb : M ≤ 1200 := by omega
      clear hM
      go_wp2_with (go_at_call 21; refine (t21s HS h1 h2).mono ?_; rintro e w2 ⟨vo, d, rfl, r2, y2, f2⟩; obtain ⟨go, co, hvo, hO⟩ := OwnRow.of r2.out f2.out h1; rw [← HM.out] at hvo; subst hvo; have HO : Hid (OwnRow wr w2 go n co S) := hO; have HUp : Hid (Up w w2) := HS.out.up.trans y2.out; clear r2 f2 hO HS y2)
      go_loopw [6, 7] (fun vi _ w9 => ∃ k : Nat, k ≤ M ∧ vi = .int .i64 k ∧ Hid (Up w2 w9)) (fun vi _ _ => M - (intOf vi).toNat)
      case atStart => exact ⟨0, by omega, rfl, Up.refl _⟩
      case round =>
        obtain ⟨k, hk, rfl, HU⟩ := hrel
        by_cases hlt2 : k < M
        · have hkz : (k : Int) < (M : Int) := by omega
          obtain ⟨x, i, hc, hf⟩ := (HO.out.up HU.out).fine h1 h2 (j := k) (by have := HM.out; omega)
          have q1 := eqF_num hf.num
          have q2 := hf.nought
          have q3 := hf.small
          have HF : Hid (Fine n x i) := hf
          clear hf
          go_wp2_with (first
            | (go_at_call 22; refine (t22k HF.out.num HF.out.whole _).mono ?_; rintro e w4 ⟨rfl, m4, rfl⟩)
            | (go_at_call 23; refine (t23 _ _).mono ?_; rintro e w5 ⟨rfl, rfl⟩))
          go_roundw
          case rel => exact ⟨k + 1, by omega, by go_num, HU.out.trans (Up.drewN _ _)⟩
          case measure => simp [intOf]; omega
        · obtain rfl : M = k := by omega
          obtain ⟨i, hc, q2⟩ := (HO.out.up HU.out).mid h1 h2
          have q1 : eqF (ab (floatOfInt .f64 (n : Int))) (ab (floatOfInt .f64 (n : Int))) = true := eqF_num (okB_at (z := n) (by omega) (by omega)).num
          have q0 : eqF (ab 0) (ab 0) = true := by decide +kernel
          have z1 : ((n - 1 : Nat) : Int) < (M : Int) := by omega
          go_wp2_with (go_at_call 12; refine (t12 _).mono ?_; rintro e w6 ⟨rfl, y6⟩)
          go_ret
          exact ⟨rfl, (HUp.out.trans HU.out).trans y6.out⟩
end Go.Proofs.Ytoncdgkcmbainaa
