/- A row that is filled in its order; Chirp, Frank and Steps of the program. -/
import Derived.Test.YtgalgnopjcpocaaI
import Derived.OwnWalk
namespace Go.Proofs.Ytgalgnopjcpocaa
open Go.ChangeShapes Go.WideShapes Go.ChangeAt Go.RowKit Go.Fl Ieee
attribute [local go_sem] run_store_float run_store_complex call20 call33 run_neg fold_eq fold_ne fold_lt fold_gt abs_eq

/-- A row that is being filled. -/
structure Fill (w0 w : World) (g n : Nat) (F : Nat → Option Nat × Option Nat) (k : Nat) : Prop where
  row : ∃ d : List (Nat × Nat), d.length = n ∧ CRow w0.heap.size w (.slice (some ⟨g, 0, none⟩) n n) d ∧ ∀ j, j < k → ab2 d[j]! = F j
  below : Up w0 w
theorem Fill.new {w w' : World} {n : Nat} (F : Nat → Option Nat × Option Nat) (h : w'.ownsRow w.heap.size 53 1 (.slice (some ⟨w.heap.size, 0, none⟩) n n) n (madeCells (Value.complex .f64 0 0).cells (n * 1)).toList) (hg : w.grownBy w' none) : Fill w w' w.heap.size n F 0 := by
  refine ⟨⟨List.replicate n (0, 0), by simp, ?_, fun j hj => by omega⟩, Below.grown (Below.refl _ _) hg (Nat.le_refl _) (fun j hj => by cases hj)⟩
  unfold CRow
  have e : (madeCells (Value.complex .f64 0 0).cells (n * 1)).toList = List.replicate n (.complex .f64 0 0) := by
    rw [Nat.mul_one]; exact toList_madeCells_one _ _
  rw [e] at h
  simpa [ce] using h
theorem Fill.up {w0 w w' : World} {g n k : Nat} {F : Nat → Option Nat × Option Nat} (h : Fill w0 w g n F k) (hu : Up w w') : Fill w0 w' g n F k := by
  obtain ⟨⟨d, h1, h2, h3⟩, h4⟩ := h
  exact ⟨⟨d, h1, h2.up hu, h3⟩, h4.trans hu⟩
theorem Fill.cell {w0 w : World} {g n k : Nat} {F : Nat → Option Nat × Option Nat} (h : Fill w0 w g n F k) {i : Nat} (hi : i < n) : (∃ x y, w.cell? ⟨g, i, none⟩ = some (.complex .f64 x y)) ∧ w.frozen? ⟨g, i, none⟩ = false := by
  obtain ⟨⟨d, rfl, h2, h3⟩, h4⟩ := h
  exact ⟨⟨_, _, h2.cell hi⟩, World.ownsRow.frozenAt h2 i⟩
theorem Fill.stored {w0 w : World} {g n k r s : Nat} {F : Nat → Option Nat × Option Nat} (h : Fill w0 w g n F k) (hk : k < n) (hr : ab r = (F k).1) (hs : ab s = (F k).2) : Fill w0 (w.setCell ⟨g, k, none⟩ (.complex .f64 r s)) g n F (k + 1) := by
  obtain ⟨⟨d, rfl, h2, h3⟩, h4⟩ := h
  obtain ⟨s1, s2⟩ := World.ownsRow.stored h2 k (.complex .f64 r s)
  refine ⟨⟨d.set k (r, s), by simp, ?_, ?_⟩, Below.grown h4 s2 h4.size (fun j hj => (World.ownsRow.lt h2 j (by simpa [Value.ownBlock] using hj)).1)⟩
  · unfold CRow
    rw [List.length_set, List.map_set]
    exact s1
  · intro j hj
    rw [getElem!_pos _ j (by simp; omega), List.getElem_set]
    split
    · rename_i e; subst e; exact Prod.ext hr hs
    · rw [← getElem!_pos d j (by omega)]; exact h3 j (by omega)
theorem Fill.done {w0 w : World} {g n : Nat} {F : Nat → Option Nat × Option Nat} (h : Fill w0 w g n F n) : ∃ d, CRow w0.heap.size w (.slice (some ⟨g, 0, none⟩) n n) d ∧ d.map ab2 = (List.range n).map F := by
  obtain ⟨⟨d, rfl, h2, h3⟩, h4⟩ := h
  refine ⟨d, h2, List.ext_getElem (by simp) fun i hi _ => ?_⟩
  have hi' : i < d.length := by simpa using hi
  have := h3 i hi'
  rw [getElem!_pos d i hi'] at this
  simpa using this
theorem Fill.pl {w0 w : World} {g n : Nat} {F : Nat → Option Nat × Option Nat} (h : Fill w0 w g n F n) {L : List (Option Nat × Option Nat)} (hL : L = (List.range n).map F) : PL w0 L 0 (.returned (.tuple #[.slice (some ⟨g, 0, none⟩) n n, .int .i64 0])) w := by
  obtain ⟨d, h1, h2⟩ := h.done
  exact ⟨_, d, rfl, h1, h.below, h2.trans hL.symm⟩
theorem PL.none (w : World) (c : Int) : PL w [] c (.returned (.tuple #[.slice none 0 0, .int .i64 c])) w := ⟨_, [], rfl, World.ownsRow_nil _ _ _ _, Up.refl _, rfl⟩

def chirpX (n : Nat) (t : Option Nat) (k : Nat) : Option Nat := bin .mul t (bin .quo (ab (floatOfInt .f64 ((k : Int) * k))) (ab (floatOfInt .f64 (2 * (n : Int)))))
def chirpF (n : Nat) (t : Option Nat) (k : Nat) : Option Nat × Option Nat := (turnC (chirpX n t k), turnS (chirpX n t k))
def chirpL (n : Int) (t : Option Nat) : List (Option Nat × Option Nat) := if n < 1 then [] else if n > 16384 then [] else if fin t then (List.range n.toNat).map (chirpF n.toNat t) else []
def chirpE (n : Int) (t : Option Nat) : Int := if n < 1 then 2 else if n > 16384 then 3 else if fin t then 0 else 6

set_option maxRecDepth 20000 in
theorem t49k {x : Nat} {b : Bool} (h : eqF (ab x) (ab x) = !b) (w : World) : Calls Try.prog 49 #[.float .f64 x] w fun e w' => e = .returned (.bool b) ∧ w' = w := by
  have := t49 x w
  rw [h, Bool.not_not] at this; exact this
set_option maxRecDepth 20000 in
theorem t50k {x : Nat} {b : Bool} (h : gtF ((ab x).map abs) (ab 9218868437227405311) = b) (w : World) : Calls Try.prog 50 #[.float .f64 x, .int .i64 0] w fun e w' => e = .returned (.bool b) ∧ w' = w := by
  rw [← h]; exact t50 x w
theorem mul_le {k : Nat} (h : k < 16384) : (k : Int) * k ≤ 268435456 := by
  have : k * k ≤ 16384 * 16384 := Nat.mul_le_mul (by omega) (by omega)
  have e : ((k * k : Nat) : Int) = (k : Int) * k := Int.natCast_mul _ _
  omega
set_option maxRecDepth 20000 in
set_option maxHeartbeats 1000000 in
theorem t36ok (N x : Nat) (w : World) (h1 : 1 ≤ N) (h2 : N ≤ 16384) (hf : fin (ab x) = true) : Calls Try.prog 36 #[.int .i64 N, .float .f64 x] w (PL w ((List.range N).map (chirpF N (ab x))) 0) := by
  obtain ⟨i0, hi, hz0, hz1, hz2⟩ := info_parts info41
  have HE : Hid (eqF (ab x) (ab x) = !false) := by
    show _ = _
    unfold fin at hf
    rw [Bool.and_eq_true] at hf
    exact hf.1
  have HG : Hid (gtF ((ab x).map abs) (ab 9218868437227405311) = false) := by
    show _ = _
    unfold fin at hf
    rw [Bool.and_eq_true, Bool.not_eq_true'] at hf
    exact hf.2
  clear hf
  go_enter Try.func36, Try.ntmps36
  go_wp2_with (first
    | (go_at_call 49; refine (t49k HE.out _).mono ?_; rintro e w' ⟨rfl, rfl⟩)
    | (go_at_call 50; refine (t50k HG.out _).mono ?_; rintro e w' ⟨rfl, rfl⟩)
    | (refine wpList_make_full _ rfl _ _ 54 rfl w'.heap.size 53 i0 (.complex .f64 0 0) 1 Try.underlying54 hi hz0 hz1 .i64 .i64 _ _ N rfl rfl rfl rfl (by rw [hz2]; omega) (by unfold maxLen; omega) (Nat.le_refl _) ?_; intro w1 hown hgr; have HF : Hid (Fill _ w1 _ N (chirpF N (ab x)) 0) := Fill.new _ hown hgr; clear hown hgr))
  go_loopw [7, 8, 26] (fun _ _ i wr => ∃ k : Nat, k ≤ N ∧ i = .int .i64 k ∧ Hid (Fill w' wr w'.heap.size N (chirpF N (ab x)) k)) (fun _ _ i _ => N - (intOf i).toNat)
  case atStart => exact ⟨0, by omega, rfl, HF⟩
  case round =>
    clear HF
    obtain ⟨k, hk, rfl, HF⟩ := hrel
    by_cases hlt : k < N
    · have m1 := mul_le (show k < 16384 by omega)
      have m2 : (0 : Int) ≤ (k : Int) * k := Int.mul_nonneg (by omega) (by omega)
      have hkz : (k : Int) < (N : Int) := by omega
      go_wp2_with (first
        | ((with_reducible refine upon_fl (by simp) ?_); intro r n hr)
        | (go_at_call 51; refine (t51 _ _).mono ?_; rintro e w2 ⟨c, s, rfl, hc, hs, hu⟩; have HF2 : Hid (Fill w' w2 w'.heap.size N (chirpF N (ab x)) k) := HF.out.up (Up.trans (Up.drewN _ _) hu); obtain ⟨⟨x0, y0, hcell⟩, hfr⟩ := HF2.out.cell hlt; clear HF hu))
      go_roundw
      case rel =>
        refine ⟨k + 1, by omega, by go_num, HF2.out.stored hlt ?_ ?_⟩ <;> (clear hcell hfr HF2; simp_all [chirpF, chirpX, Hid])
      case measure => simp [intOf]; omega
    · obtain rfl : N = k := by omega
      go_wp2
      go_ret2
      exact HF.out.pl rfl
set_option maxRecDepth 20000 in
theorem t36 (n : Int) (x : Nat) (w : World) : Calls Try.prog 36 #[.int .i64 n, .float .f64 x] w (PL w (chirpL n (ab x)) (chirpE n (ab x))) := by
  by_cases h1 : n < 1
  · rw [chirpL, chirpE, if_pos h1, if_pos h1]
    go_enter Try.func36, Try.ntmps36
    go_wp2
    go_ret2
    exact PL.none _ _
  · by_cases h2 : n > 16384
    · rw [chirpL, chirpE, if_neg h1, if_neg h1, if_pos h2, if_pos h2]
      go_enter Try.func36, Try.ntmps36
      go_wp2
      go_ret2
      exact PL.none _ _
    · obtain ⟨N, rfl⟩ := Int.eq_ofNat_of_zero_le (show 0 ≤ n by omega)
      rw [chirpL, chirpE, if_neg h1, if_neg h1, if_neg h2, if_neg h2]
      cases hf : fin (ab x)
      · have hf' : ¬ (eqF (ab x) (ab x) = true ∧ gtF ((ab x).map abs) (ab 9218868437227405311) = false) := by
          intro h; simp [fin, h.1, h.2] at hf
        have HF' : Hid _ := hf'
        clear hf hf'
        cases he : eqF (ab x) (ab x)
        · have HE : Hid (eqF (ab x) (ab x) = !true) := he
          clear he
          go_enter Try.func36, Try.ntmps36
          go_wp2_with (go_at_call 49; refine (t49k HE.out _).mono ?_; rintro e w' ⟨rfl, rfl⟩)
          go_ret2
          exact PL.none _ _
        · have HE : Hid (eqF (ab x) (ab x) = !false) := he
          have HG : Hid (gtF ((ab x).map abs) (ab 9218868437227405311) = true) := by
            show _ = _
            cases hg : gtF ((ab x).map abs) (ab 9218868437227405311)
            · exact absurd ⟨he, hg⟩ HF'.out
            · rfl
          clear he
          go_enter Try.func36, Try.ntmps36
          go_wp2_with (first
            | (go_at_call 49; refine (t49k HE.out _).mono ?_; rintro e w' ⟨rfl, rfl⟩)
            | (go_at_call 50; refine (t50k HG.out _).mono ?_; rintro e w' ⟨rfl, rfl⟩))
          go_ret2
          exact PL.none _ _
      · exact t36ok N x w (by omega) (by omega) hf
end Go.Proofs.Ytgalgnopjcpocaa
