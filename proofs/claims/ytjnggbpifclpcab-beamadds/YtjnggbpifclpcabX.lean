/- Fast. -/
import Derived.Test.YtjnggbpifclpcabW
import Derived.Laws.BitsLemmas
namespace Go.Proofs.Ytjnggbpifclpcab
open Go.ChangeShapes Go.WideShapes Go.ChangeAt Go.RowKit Go.Fl Ieee
attribute [local go_sem] run_store_float run_store_complex call20 call19 run_neg fold_eq fold_ne fold_lt fold_gt abs_eq

/-- A power of two? -/
def powB (n : Nat) : Bool := decide (0 < n) && (n &&& (n - 1)) == 0
theorem powB_two (M : Nat) : powB (2 ^ M) = true := by
  have h : 0 < 2 ^ M := Nat.pow_pos (by omega)
  unfold powB
  rw [Nat.and_two_pow_sub_one_eq_mod, Nat.mod_self]
  simp [h]
theorem wraps_i64_62 : ∀ n : Int, 0 ≤ n → n < 2 ^ 62 → IntKind.i64.wrap n = n := fun n h1 h2 => i64_id (by omega)
theorem and_pred (n : Nat) (hn : n < 4611686018427387904) (hp : 0 < n) : bits .and .i64 (n : Int) ((n : Int) - 1) = ((n &&& (n - 1) : Nat) : Int) := by
  have h := (bits_nat .i64 62 (by decide) wraps_i64_62 n (n - 1) (by omega) (by omega)).1
  rwa [show ((n - 1 : Nat) : Int) = (n : Int) - 1 by omega] at h
theorem t47 (n : Nat) (w : World) (hn : n < 4611686018427387904) : Calls Try.prog 47 #[.int .i64 n] w fun e w' => e = .returned (.bool (powB n)) ∧ w' = w := by
  by_cases hp : 0 < n
  · have e := and_pred n hn hp
    go_enter Try.func47, Try.ntmps47
    go_wp2
    go_ret
    refine ⟨?_, rfl⟩
    simp only [powB, hp, decide_true, Bool.true_and]
    show Ending.returned (.bool (((n &&& (n - 1) : Nat) : Int) == 0)) = _
    congr 2
    rw [Bool.eq_iff_iff]; simp
  · go_enter Try.func47, Try.ntmps47
    go_wp2
    go_ret
    refine ⟨?_, rfl⟩
    simp [powB, hp]
theorem t47k {n : Nat} {b : Bool} (h : powB n = b) (w : World) (hn : n < 4611686018427387904) : Calls Try.prog 47 #[.int .i64 n] w fun e w' => e = .returned (.bool b) ∧ w' = w := by
  rw [← h]; exact t47 n w hn

/-- The unit for j of 2^m, there or back, the whole having 2^M samples. -/
def uOf (back : Bool) (M j m : Nat) : C2 := unitF (wayOf back) (2 ^ M) (j * (2 ^ M / 2 ^ m))
theorem hv_congr {U V : Nat → Nat → C2} : ∀ (m : Nat) (F : Nat → C2) (j : Nat), (∀ k, k < m → ∀ j, j < 2 ^ k → U j (k + 1) = V j (k + 1)) → j < 2 ^ m → hv U m F j = hv V m F j
  | 0, _, _, _, _ => rfl
  | m + 1, F, j, h, hj => by
    have h' : ∀ k, k < m → ∀ j, j < 2 ^ k → U j (k + 1) = V j (k + 1) := fun k hk => h k (by omega)
    have e : 2 ^ (m + 1) = 2 ^ m + 2 ^ m := by rw [Nat.pow_succ]; omega
    rw [hv, hv]
    split
    · rename_i hlt
      rw [hv_congr m _ j h' hlt, hv_congr m _ j h' hlt, h m (by omega) j hlt]
    · rw [hv_congr m _ (j - 2 ^ m) h' (by omega), hv_congr m _ (j - 2 ^ m) h' (by omega), h m (by omega) (j - 2 ^ m) (by omega)]
/-- What Fast tells of 2^M samples. -/
def fastL (back : Bool) (M : Nat) (F : Nat → C2) : List C2 := if back then ((List.range (2 ^ M)).map (hv (uOf back M) M F)).map (divF (2 ^ M)) else (List.range (2 ^ M)).map (hv (uOf back M) M F)
theorem fast_row {n M : Nat} {back : Bool} {d : List (Nat × Nat)} {F : Nat → C2} {fu : Nat → Nat × Nat} (hn : n = 2 ^ M) (hd : d.length = n) (h : ∀ i, i < n → ab2 d[0 + i]! = hv (uAt fu M) M F i) (hu : ∀ j, j < 2 ^ M / 2 → ab2 (fu j) = unitF (wayOf back) (2 ^ M) j) :
    d.map ab2 = (List.range (2 ^ M)).map (hv (uOf back M) M F) := by
  subst hn
  refine List.ext_getElem? fun i => ?_
  by_cases hi : i < 2 ^ M
  · rw [ab2_at (by omega)]
    have := h i hi
    rw [Nat.zero_add] at this
    rw [this, List.getElem?_map, List.getElem?_range hi, hv_congr (V := uOf back M) M F i (fun k hk j hj => hu _ (uAt_lt (by omega) hj)) hi]; rfl
  · rw [List.getElem?_eq_none (by simp; omega), List.getElem?_eq_none (by simp; omega)]
theorem CRow.made {w w1 : World} {n g : Nat} (hg : w.heap.size = g) (hown : w1.ownsRow w.heap.size 26 1 (.slice (some ⟨w.heap.size, 0, none⟩) n n) n (madeCells (Value.complex .f64 0 0).cells (n * 1)).toList) (hgr : w.grownBy w1 none) : CRow g w1 (.slice (some ⟨g, 0, none⟩) n n) (List.replicate n (0, 0)) ∧ Up w w1 := by
  subst hg
  refine ⟨?_, Below.grown (Below.refl _ _) hgr (Nat.le_refl _) (fun j hj => by cases hj)⟩
  unfold CRow
  have e : (madeCells (Value.complex .f64 0 0).cells (n * 1)).toList = List.replicate n (.complex .f64 0 0) := by
    rw [Nat.mul_one]; exact toList_madeCells_one _ _
  rw [e] at hown
  simpa [ce] using hown
theorem t34long (p : Option Addr) (n cap : Nat) (back : Bool) (w : World) (hn : 16384 < n) (hN : n < 4611686018427387904) : Calls Try.prog 34 #[.slice p n cap, .bool back] w (PL w [] 3) := by
  go_enter Try.func34, Try.ntmps34
  go_wp2
  go_ret2
  exact PL.none _ _
theorem t34pow (p : Option Addr) (n cap : Nat) (back : Bool) (w : World) (hn : n ≤ 16384) (hN : powB n = false) : Calls Try.prog 34 #[.slice p n cap, .bool back] w (PL w [] 50) := by
  have HN : Hid (powB n = false) := hN
  clear hN
  go_enter Try.func34, Try.ntmps34
  go_wp2_with (go_at_call 47; (with_reducible refine (t47k HN.out _ (by omega)).mono ?_); rintro e w' ⟨rfl, rfl⟩)
  go_ret2
  exact PL.none _ _
theorem fast_halves {M lg lo n cap g h bp bm q : Nat} {f fu : Nat → Nat × Nat} {w w1 w2 : World} (HE : Hid (n = 2 ^ M)) (hb : n ≤ 16384) (hc : n ≤ cap) (HL : Hid (lg < w.heap.size)) (HG : Hid (w.heap.size = g)) (HRd : Hid (RD w lg lo n f))
    (HM : Hid (CRow g w1 (.slice (some ⟨g, 0, none⟩) n n) (List.replicate n (0, 0)) ∧ Up w w1)) (HU : Hid (w2.cell? ⟨bp, 0, none⟩ = some (.slice (some ⟨q, 0, none⟩) h h) ∧ w2.cell? ⟨bm, 0, none⟩ = some (.int .i64 n) ∧ RD w2 q 0 h fu))
    (HB : Hid (w1.heap.size ≤ bp ∧ w1.heap.size ≤ bm ∧ w1.heap.size ≤ q ∧ bp < w2.heap.size ∧ bm < w2.heap.size ∧ q < w2.heap.size)) (HP : Hid (Up w1 w2)) (HH : Hid (n / 2 = h)) :
    Calls Try.prog 48 #[.slice (some ⟨g, 0, none⟩) n n, .slice (some ⟨lg, lo, none⟩) n cap, .int .i64 1, .func (.func 57) #[] #[.pointer (some ⟨bp, 0, none⟩), .pointer (some ⟨bm, 0, none⟩)]] w2 (HR g g n n 0 n (hv (uAt fu M) M fun i => ab2 (f i)) (List.replicate n (0, 0)) w2) := by
  have e := HE.out
  have hp : 0 < 2 ^ M := Nat.pow_pos (by omega)
  have e2 := HH.out
  have l1 : g < w1.heap.size := (World.ownsRow.lt HM.out.1 _ rfl).2
  have hg := HG.out
  have hl := HL.out
  obtain ⟨b1, b2, b3, _⟩ := HB.out
  subst e2
  subst e
  exact t48 M (by omega) M (Nat.le_refl _) 0 _ lg lo _ cap 1 _ f _ _ w2 rfl (by omega) (by omega) (Nat.le_refl _) (by omega) (by omega) hc (by omega) (HRd.out.up (HM.out.2.trans HP.out)) (fun i _ => by rw [Nat.mul_one]) (HM.out.1.up HP.out) ⟨by omega, by omega, by omega, HU.out⟩
set_option maxHeartbeats 1000000 in
theorem t34 (M lg lo n cap : Nat) (back : Bool) (f : Nat → Nat × Nat) (w : World) (hn : n = 2 ^ M) (hb : n ≤ 16384) (hc : n ≤ cap) (hl : lg < w.heap.size) (hR : RD w lg lo n f) :
    Calls Try.prog 34 #[.slice (some ⟨lg, lo, none⟩) n cap, .bool back] w (PL w (fastL back M fun i => ab2 (f i)) 0) := by
  obtain ⟨i0, hi, hz0, hz1, hz2⟩ := info_parts info26
  have HN : Hid (powB n = true) := by show _ = _; rw [hn]; exact powB_two M
  have HE : Hid (n = 2 ^ M) := hn
  have HRd : Hid (RD w lg lo n f) := hR
  have HL : Hid (lg < w.heap.size) := hl
  clear hR hl
  obtain ⟨h, hh⟩ : ∃ h, n / 2 = h := ⟨_, rfl⟩
  have HH : Hid (n / 2 = h) := hh
  have hz : (n : Int) / 2 = h := by omega
  clear hn
  cases back
  all_goals
    go_enter Try.func34, Try.ntmps34
    go_wp2_with (first
      | (go_at_call 47; (with_reducible refine (t47k HN.out _ (by omega)).mono ?_); rintro e w' ⟨rfl, rfl⟩)
      | (refine wpList_make_full _ rfl _ _ 25 rfl w'.heap.size 26 i0 (.complex .f64 0 0) 1 Try.underlying25 hi hz0 hz1 .i64 .i64 _ _ n rfl rfl rfl rfl (by rw [hz2]; omega) (by unfold maxLen; omega) (Nat.le_refl _) ?_; intro w1 hown hgr; obtain ⟨g, hg⟩ : ∃ g, w'.heap.size = g := ⟨_, rfl⟩; have HM : Hid (CRow g w1 (.slice (some ⟨g, 0, none⟩) n n) (List.replicate n (0, 0)) ∧ Up w' w1) := CRow.made hg hown hgr; clear hown hgr; rw [hg]; have HG : Hid (w'.heap.size = g) := hg; clear hg)
      | (go_at_call 49; (with_reducible refine (t49 _ h n _ (by omega) (by omega)).mono ?_); rintro e w2 ⟨bp, bm, q, fu, rfl, HU, HB, HP, HF⟩)
      | (go_at_call 48; (with_reducible refine (fast_halves HE hb hc HL HG HRd HM HU HB HP HH).mono ?_); rintro e w3 ⟨d3, rfl, HC3, HB3, HE3⟩)
      | (go_at_call 50; (with_reducible refine (t50 HC3.out HC3.out.len (by omega)).mono ?_); rintro e w4 ⟨d4, rfl, HC4, HB4, HE4⟩))
    go_ret2
  · have e := fast_row HE.out HC3.out.len HE3.out.1 (by rw [← HE.out, HH.out]; exact HF.out)
    refine ⟨_, d3, rfl, HG.out ▸ HC3.out, HB3.out.up (HM.out.2.trans HP.out) (by have := HG.out; omega), ?_⟩
    show _ = _
    rw [e]; rfl
  · have e := fast_row HE.out HC3.out.len HE3.out.1 (by rw [← HE.out, HH.out]; exact HF.out)
    refine ⟨_, d4, rfl, HG.out ▸ HC4.out, (HB3.out.trans HB4.out).up (HM.out.2.trans HP.out) (by have := HG.out; omega), ?_⟩
    show _ = _
    rw [HE4.out, e, HE.out]; rfl
end Go.Proofs.Ytjnggbpifclpcab
