/- Windows. -/
import Derived.Test.YtoncdgkcmbainabM
namespace Go.Proofs.Ytoncdgkcmbainab
open Go.ChangeShapes Go.WideShapes Go.ChangeAt Go.RowKit Go.Fl Ieee
attribute [local go_sem] run_store_float run_store_complex call12 call18 run_neg fold_eq fold_ne fold_lt fold_gt abs_eq

/-- How far from the middle, in half steps. -/
def offI (k n : Int) : Int := if 2 * k + 1 - n < 0 then -(2 * k + 1 - n) else 2 * k + 1 - n
def weightF (kind : Int) (n k : Nat) : Option Nat :=
  if kind = 1 then bin .sub (ab 4602678819172646912) (bin .mul (ab 4602678819172646912) (unitC k n))
  else if kind = 2 then bin .sub (ab 4603039107142836552) (bin .mul (ab 4601958243232267633) (unitC k n))
  else if kind = 3 then bin .sub (ab 4607182418800017408) (bin .quo (ab (floatOfInt .f64 (offI k n))) (ab (floatOfInt .f64 n)))
  else ab 4607182418800017408
theorem t22a (k n : Nat) (w : World) (hn : n ≤ 16384) : Calls Try.prog 22 #[.int .i8 1, .int .i64 k, .int .i64 n] w (FU w (weightF 1 n k)) := by
  go_enter Try.func22, Try.ntmps22
  go_wp2_with (first
    | ((with_reducible refine upon_fl (by simp) ?_); intro r n hr)
    | (go_at_call 20; refine (t20 _ _ _ (by omega) (by omega)).mono ?_; rintro e w1 ⟨r, s, rfl, hr, hs, hu⟩))
  go_ret
  refine FU.mk ?_ (Up.trans hu (Up.drewN _ _))
  simp_all [weightF, Hid]
theorem t22b (k n : Nat) (w : World) (hn : n ≤ 16384) : Calls Try.prog 22 #[.int .i8 2, .int .i64 k, .int .i64 n] w (FU w (weightF 2 n k)) := by
  go_enter Try.func22, Try.ntmps22
  go_wp2_with (first
    | ((with_reducible refine upon_fl (by simp) ?_); intro r n hr)
    | (go_at_call 20; refine (t20 _ _ _ (by omega) (by omega)).mono ?_; rintro e w1 ⟨r, s, rfl, hr, hs, hu⟩))
  go_ret
  refine FU.mk ?_ (Up.trans hu (Up.drewN _ _))
  simp_all [weightF, Hid]
theorem t22c (k n : Nat) (w : World) (hk : k < n) (hn : n ≤ 16384) : Calls Try.prog 22 #[.int .i8 3, .int .i64 k, .int .i64 n] w (FU w (weightF 3 n k)) := by
  rcases Int.lt_or_le (2 * (k : Int) + 1 - n) 0 with h | h
  · have e : offI k n = -(2 * (k : Int) + 1 - n) := if_pos h
    have H : Hid _ := e
    have h' : (2 * (k : Int) + 1 - n) < -(2 * (k : Int) + 1 - n) := by omega
    clear e
    go_enter Try.func22, Try.ntmps22
    go_wp2_with ((with_reducible refine upon_fl (by simp) ?_); intro r n hr)
    go_ret
    refine FU.mk ?_ (Up.drewN _ _)
    rw [weightF, if_neg (by omega), if_neg (by omega), if_pos rfl, H.out]
    simp_all [Hid]
  · have e : offI k n = 2 * (k : Int) + 1 - n := if_neg (by omega)
    have H : Hid _ := e
    have h' : ¬ (2 * (k : Int) + 1 - n) < -(2 * (k : Int) + 1 - n) := by omega
    clear e
    go_enter Try.func22, Try.ntmps22
    go_wp2_with ((with_reducible refine upon_fl (by simp) ?_); intro r n hr)
    go_ret
    refine FU.mk ?_ (Up.drewN _ _)
    rw [weightF, if_neg (by omega), if_neg (by omega), if_pos rfl, H.out]
    simp_all [Hid]
theorem t22d (kind : Int) (k n : Nat) (w : World) (h1 : kind ≠ 1) (h2 : kind ≠ 2) (h3 : kind ≠ 3) : Calls Try.prog 22 #[.int .i8 kind, .int .i64 k, .int .i64 n] w (FU w (weightF kind n k)) := by
  have h1' : (kind == 1) = false := by rw [beq_eq_false_iff_ne]; exact h1
  have h2' : (kind == 2) = false := by rw [beq_eq_false_iff_ne]; exact h2
  have h3' : (kind == 3) = false := by rw [beq_eq_false_iff_ne]; exact h3
  go_enter Try.func22, Try.ntmps22
  go_wp2
  go_ret
  refine FU.mk ?_ (Up.refl _)
  rw [weightF, if_neg h1, if_neg h2, if_neg h3]
theorem t22 (kind : Int) (k n : Nat) (w : World) (hk : k < n) (hn : n ≤ 16384) : Calls Try.prog 22 #[.int .i8 kind, .int .i64 k, .int .i64 n] w (FU w (weightF kind n k)) := by
  by_cases h1 : kind = 1
  · subst h1; exact t22a k n w hn
  · by_cases h2 : kind = 2
    · subst h2; exact t22b k n w hn
    · by_cases h3 : kind = 3
      · subst h3; exact t22c k n w hk hn
      · exact t22d kind k n w h1 h2 h3

theorem info22f : (Try.prog.info? 22).map (fun i => (i.zero, i.size, i.bytes)) = some (some (.float .f64 0), 1, 8) := by kernel_rfl
/-- A row of floats that is being filled. -/
structure FillF (w0 w : World) (g n : Nat) (F : Nat → Option Nat) (k : Nat) : Prop where
  row : ∃ d : List Nat, d.length = n ∧ w.ownsRow w0.heap.size 22 1 (.slice (some ⟨g, 0, none⟩) n n) n (d.map (Value.float .f64)) ∧ ∀ j, j < k → ab d[j]! = F j
  below : Up w0 w
theorem FillF.new {w w' : World} {n : Nat} (F : Nat → Option Nat) (h : w'.ownsRow w.heap.size 22 1 (.slice (some ⟨w.heap.size, 0, none⟩) n n) n (madeCells (Value.float .f64 0).cells (n * 1)).toList) (hg : w.grownBy w' none) : FillF w w' w.heap.size n F 0 := by
  refine ⟨⟨List.replicate n 0, by simp, ?_, fun j hj => by omega⟩, Below.grown (Below.refl _ _) hg (Nat.le_refl _) (fun j hj => by cases hj)⟩
  have e : (madeCells (Value.float .f64 0).cells (n * 1)).toList = List.replicate n (.float .f64 0) := by
    rw [Nat.mul_one]; exact toList_madeCells_one _ _
  rw [e] at h
  simpa using h
theorem FillF.up {w0 w w' : World} {g n k : Nat} {F : Nat → Option Nat} (h : FillF w0 w g n F k) (hu : Up w w') : FillF w0 w' g n F k := by
  obtain ⟨⟨d, h1, h2, h3⟩, h4⟩ := h
  exact ⟨⟨d, h1, owns_up h2 hu, h3⟩, h4.trans hu⟩
theorem FillF.cell {w0 w : World} {g n k : Nat} {F : Nat → Option Nat} (h : FillF w0 w g n F k) {i : Nat} (hi : i < n) : (∃ x, w.cell? ⟨g, i, none⟩ = some (.float .f64 x)) ∧ w.frozen? ⟨g, i, none⟩ = false := by
  obtain ⟨⟨d, rfl, h2, h3⟩, h4⟩ := h
  refine ⟨⟨d[i]!, ?_⟩, World.ownsRow.frozenAt h2 i⟩
  rw [World.ownsRow.cellAt h2 i (by omega), List.getElem?_map, List.getElem?_eq_getElem hi, getElem!_pos d i hi]
  rfl
theorem FillF.stored {w0 w : World} {g n k r : Nat} {F : Nat → Option Nat} (h : FillF w0 w g n F k) (hk : k < n) (hr : ab r = F k) : FillF w0 (w.setCell ⟨g, k, none⟩ (.float .f64 r)) g n F (k + 1) := by
  obtain ⟨⟨d, rfl, h2, h3⟩, h4⟩ := h
  obtain ⟨s1, s2⟩ := World.ownsRow.stored h2 k (.float .f64 r)
  refine ⟨⟨d.set k r, by simp, ?_, ?_⟩, Below.grown h4 s2 h4.size (fun j hj => (World.ownsRow.lt h2 j (by simpa [Value.ownBlock] using hj)).1)⟩
  · rw [List.map_set]
    exact s1
  · intro j hj
    rw [getElem!_pos _ j (by simp; omega), List.getElem_set]
    split
    · rename_i e; subst e; exact hr
    · rw [← getElem!_pos d j (by omega)]; exact h3 j (by omega)
/-- What Window leaves: floats, as many as n. -/
def WL (w : World) (n : Nat) (F : Nat → Option Nat) (e : Ending) (w' : World) : Prop := ∃ (g : Nat) (d : List Nat), e = .returned (.slice (some ⟨g, 0, none⟩) n n) ∧ Hid (w'.ownsRow w.heap.size 22 1 (.slice (some ⟨g, 0, none⟩) n n) n (d.map (Value.float .f64))) ∧ Hid (Up w w') ∧ Hid (d.length = n ∧ ∀ j, j < n → ab d[j]! = F j)
set_option maxHeartbeats 1000000 in
theorem t11 (kind : Int) (n : Nat) (w : World) (h1 : 1 ≤ n) (h2 : n ≤ 16384) : Calls Try.prog 11 #[.int .i8 kind, .int .i64 n] w (WL w n (weightF kind n)) := by
  obtain ⟨i0, hi, hz0, hz1, hz2⟩ := info_parts info22f
  go_enter Try.func11, Try.ntmps11
  go_wp2_with (refine wpList_make_full _ rfl _ _ 34 rfl w.heap.size 22 i0 (.float .f64 0) 1 Try.underlying34 hi hz0 hz1 .i64 .i64 _ _ n rfl rfl rfl rfl (by rw [hz2]; omega) (by unfold maxLen; omega) (Nat.le_refl _) ?_; intro w1 hown hgr; have HF : Hid (FillF w w1 w.heap.size n (weightF kind n) 0) := FillF.new _ hown hgr; clear hown hgr)
  go_loopw [6, 17] (fun _ i wr => ∃ k : Nat, k ≤ n ∧ i = .int .i64 k ∧ Hid (FillF w wr w.heap.size n (weightF kind n) k)) (fun _ i _ => n - (intOf i).toNat)
  case atStart => exact ⟨0, by omega, rfl, HF⟩
  case round =>
    clear HF
    obtain ⟨k, hk, rfl, HF⟩ := hrel
    by_cases hlt : k < n
    · have hkz : (k : Int) < (n : Int) := by omega
      go_wp2_with (go_at_call 22; refine (t22 _ _ _ _ hlt h2).mono ?_; rintro e w2 ⟨r, rfl, hr, hu⟩; have HF2 : Hid (FillF w w2 w.heap.size n (weightF kind n) k) := HF.out.up hu; obtain ⟨⟨x0, hcell⟩, hfr⟩ := HF2.out.cell hlt; clear HF hu)
      go_roundw
      case rel => exact ⟨k + 1, by omega, by go_num, HF2.out.stored hlt hr.out⟩
      case measure => simp [intOf]; omega
    · obtain rfl : n = k := by omega
      go_wp2
      go_ret
      obtain ⟨⟨d, g1, g2, g3⟩, g4⟩ := HF.out
      exact ⟨_, d, rfl, g2, g4, g1, g3⟩
theorem t11e (kind n : Int) (w : World) (h : n < 1 ∨ n > 16384) : Calls Try.prog 11 #[.int .i8 kind, .int .i64 n] w fun e w' => e = .returned (.slice none 0 0) ∧ w' = w := by
  rcases h with h | h
  · go_enter Try.func11, Try.ntmps11
    go_wp2
    go_ret
    exact ⟨rfl, rfl⟩
  · go_enter Try.func11, Try.ntmps11
    go_wp2
    go_ret
    exact ⟨rfl, rfl⟩
end Go.Proofs.Ytoncdgkcmbainab
