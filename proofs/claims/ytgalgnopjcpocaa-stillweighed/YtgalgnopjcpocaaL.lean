/- Frank and Steps of the program. -/
import Derived.Test.YtgalgnopjcpocaaK
namespace Go.Proofs.Ytgalgnopjcpocaa
open Go.ChangeShapes Go.WideShapes Go.ChangeAt Go.RowKit Go.Fl Ieee
attribute [local go_sem] run_store_float run_store_complex call20 call33 run_neg fold_eq fold_ne fold_lt fold_gt abs_eq

set_option maxRecDepth 20000 in
theorem t47 {s n : Int} {b : Bool} (h1 : 1 ≤ n) (h2 : n ≤ 9223372036854775807) (hb : decide (s > Int.tdiv 16384 n) = b) (w : World) : Calls Try.prog 47 #[.int .i64 s, .int .i64 n] w fun e w' => e = .returned (.bool b) ∧ w' = w := by
  have q1 : 0 ≤ Int.tdiv 16384 n := Int.tdiv_nonneg (by omega) (by omega)
  have q2 : Int.tdiv 16384 n ≤ 16384 := Int.tdiv_le_self _ (by omega)
  go_enter Try.func47, Try.ntmps47
  go_wp2
  go_ret
  refine ⟨?_, rfl⟩
  rw [← hb]
  rfl
theorem many_no {s n : Nat} (h1 : 1 ≤ n) (h : s * n ≤ 16384) : decide ((s : Int) > Int.tdiv 16384 n) = false := by
  rw [decide_eq_false_iff_not, Int.tdiv_eq_ediv_of_nonneg (by omega)]
  have : (s : Int) ≤ 16384 / (n : Int) := by
    rw [Int.le_ediv_iff_mul_le (by omega)]
    have : ((s * n : Nat) : Int) = (s : Int) * n := Int.natCast_mul _ _
    omega
  omega
theorem many_yes {s n : Nat} (h1 : 1 ≤ n) (h : 16384 < s * n) : decide ((s : Int) > Int.tdiv 16384 n) = true := by
  rw [decide_eq_true_iff, Int.tdiv_eq_ediv_of_nonneg (by omega)]
  have : 16384 / (n : Int) < (s : Int) := by
    rw [Int.ediv_lt_iff_lt_mul (by omega)]
    have : ((s * n : Nat) : Int) = (s : Int) * n := Int.natCast_mul _ _
    omega
  omega

def unitP (k n : Int) : Option Nat × Option Nat := (unitC k n, unitS k n)
def frankF (m p : Nat) : Option Nat × Option Nat := unitP (((p / m) * (p % m) : Nat) : Int) m
theorem frank_at {i j m : Nat} (hj : j < m) : frankF m (i * m + j) = unitP ((i * j : Nat) : Int) m := by
  unfold frankF
  have e1 : (i * m + j) / m = i := by
    rw [Nat.mul_comm, Nat.mul_add_div (by omega), Nat.div_eq_of_lt hj, Nat.add_zero]
  have e2 : (i * m + j) % m = j := by
    rw [Nat.mul_comm, Nat.mul_add_mod, Nat.mod_eq_of_lt hj]
  rw [e1, e2]
def frankL (m : Int) : List (Option Nat × Option Nat) := if m < 1 then [] else if m > 128 then [] else (List.range (m.toNat * m.toNat)).map (frankF m.toNat)
def frankE (m : Int) : Int := if m < 1 then 2 else if m > 128 then 3 else 0
set_option maxRecDepth 20000 in
set_option maxHeartbeats 1000000 in
theorem t35ok (m : Nat) (w : World) (h1 : 1 ≤ m) (h2 : m ≤ 128) : Calls Try.prog 35 #[.int .i64 m] w (PL w ((List.range (m * m)).map (frankF m)) 0) := by
  obtain ⟨i0, hi, hz0, hz1, hz2⟩ := info_parts info41
  have hmm : m * m ≤ 16384 := Nat.le_trans (Nat.mul_le_mul h2 h2) (by omega)
  have HM : Hid (decide ((m : Int) > Int.tdiv 16384 m) = false) := many_no h1 hmm
  obtain ⟨M, hM⟩ : ∃ M, M = m * m := ⟨_, rfl⟩
  have eM : (m : Int) * m = M := by rw [hM]; exact (Int.natCast_mul _ _).symm
  rw [← hM] at hmm ⊢
  have HMM : Hid (M = m * m) := hM
  clear hM
  go_enter Try.func35, Try.ntmps35
  go_wp2_with (first
    | (go_at_call 47; refine (t47 (by omega) (by omega) HM.out _).mono ?_; rintro e w' ⟨rfl, rfl⟩)
    | (refine wpList_make_full _ rfl _ _ 54 rfl w'.heap.size 53 i0 (.complex .f64 0 0) 1 Try.underlying54 hi hz0 hz1 .i64 .i64 _ _ M rfl rfl rfl rfl (by rw [hz2]; omega) (by unfold maxLen; omega) (Nat.le_refl _) ?_; intro w1 hown hgr; have HF : Hid (Fill _ w1 _ M (frankF m) 0) := Fill.new _ hown hgr; clear hown hgr))
  go_loopw [5, 6, 19] (fun _ _ vi wr => ∃ i : Nat, i ≤ m ∧ vi = .int .i64 i ∧ Hid (Fill w' wr w'.heap.size M (frankF m) (i * m))) (fun _ _ vi _ => m - (intOf vi).toNat)
  case atStart => exact ⟨0, by omega, rfl, by rw [Nat.zero_mul]; exact HF⟩
  case round =>
    clear HF
    obtain ⟨i, hi', rfl, HF⟩ := hrel
    by_cases hlt : i < m
    · have hiz : (i : Int) < (m : Int) := by omega
      obtain ⟨q, hq⟩ : ∃ q, q = i * m := ⟨_, rfl⟩
      have eq : (i : Int) * m = q := by rw [hq]; exact (Int.natCast_mul _ _).symm
      have hqm : q + m ≤ M := by
        rw [hq, HMM.out, ← Nat.succ_mul]; exact Nat.mul_le_mul_right _ hlt
      have HQ : Hid (q = i * m) := hq
      rw [← hq] at HF
      clear hq
      go_wp2
      go_loopw [6, 23] (fun _ vj wr => ∃ j : Nat, j ≤ m ∧ vj = .int .i64 j ∧ Hid (Fill w' wr w'.heap.size M (frankF m) (q + j))) (fun _ vj _ => m - (intOf vj).toNat)
      case atStart => exact ⟨0, by omega, rfl, HF⟩
      case round =>
        clear HF
        obtain ⟨j, hj', rfl, HF⟩ := hrel
        by_cases hlt2 : j < m
        · have hjz : (j : Int) < (m : Int) := by omega
          obtain ⟨p, hp⟩ : ∃ p, p = q + j := ⟨_, rfl⟩
          have ep : (q : Int) + j = p := by omega
          have hpM : p < M := by omega
          have hpz : (p : Int) < (M : Int) := by omega
          obtain ⟨r, hr⟩ : ∃ r, r = i * j := ⟨_, rfl⟩
          have er : (i : Int) * j = r := by rw [hr]; exact (Int.natCast_mul _ _).symm
          have hr2 : r ≤ 16384 := by rw [hr]; exact Nat.le_trans (Nat.mul_le_mul (Nat.le_of_lt hlt) (Nat.le_of_lt hlt2)) (by rw [← HMM.out]; omega)
          have HU : Hid (frankF m p = unitP r m) := by
            show _ = _
            rw [hp, HQ.out, hr]; exact frank_at hlt2
          have HP : Hid (p = q + j) := hp
          rw [← hp] at HF
          clear hp hr
          go_wp2_with (go_at_call 48; refine (t48 _ _ _ (by omega) (by omega)).mono ?_; rintro e w2 ⟨c, s, rfl, hc, hs, hu⟩; have HF2 : Hid (Fill w' w2 w'.heap.size M (frankF m) p) := HF.out.up hu; obtain ⟨⟨x0, y0, hcell⟩, hfr⟩ := HF2.out.cell hpM; clear HF hu)
          go_roundw
          case rel =>
            refine ⟨j + 1, by omega, by go_num, ?_⟩
            rw [← Nat.add_assoc, ← HP.out]
            exact HF2.out.stored hpM (by rw [HU.out]; exact hc.out) (by rw [HU.out]; exact hs.out)
          case measure => simp [intOf]; omega
        · obtain rfl : m = j := by omega
          go_wp2
          go_roundw
          case rel => exact ⟨i + 1, by omega, by go_num, by rw [Nat.succ_mul, ← HQ.out]; exact HF⟩
          case measure => simp [intOf]; omega
    · obtain rfl : m = i := by omega
      go_wp2
      go_ret2
      exact Fill.pl (by rw [← HMM.out] at HF; exact HF.out) rfl
set_option maxRecDepth 20000 in
theorem t35 (m : Int) (w : World) (hm : m ≤ 9223372036854775807) : Calls Try.prog 35 #[.int .i64 m] w (PL w (frankL m) (frankE m)) := by
  by_cases h1 : m < 1
  · rw [frankL, frankE, if_pos h1, if_pos h1]
    go_enter Try.func35, Try.ntmps35
    go_wp2
    go_ret2
    exact PL.none _ _
  · obtain ⟨N, rfl⟩ := Int.eq_ofNat_of_zero_le (show 0 ≤ m by omega)
    by_cases h2 : (N : Int) > 128
    · rw [frankL, frankE, if_neg h1, if_neg h1, if_pos h2, if_pos h2]
      have HM : Hid (decide ((N : Int) > Int.tdiv 16384 N) = true) := many_yes (by omega) (Nat.lt_of_lt_of_le (by omega) (Nat.mul_le_mul (show 129 ≤ N by omega) (show 129 ≤ N by omega)))
      go_enter Try.func35, Try.ntmps35
      go_wp2_with (go_at_call 47; refine (t47 (by omega) (by omega) HM.out _).mono ?_; rintro e w' ⟨rfl, rfl⟩)
      go_ret2
      exact PL.none _ _
    · rw [frankL, frankE, if_neg h1, if_neg h1, if_neg h2, if_neg h2]
      exact t35ok N w (by omega) (by omega)

/-- The cells of a slice hold these whole numbers. -/
def IRow (w : World) (v : Value) (o : List Int) : Prop := ∃ p cap, v = .slice p o.length cap ∧ ∀ i, i < o.length → ∃ blk off, p = some ⟨blk, off, none⟩ ∧ w.cell? ⟨blk, off + i, none⟩ = some (.int .i64 o[i]!)
theorem IRow.up {w w' : World} {v : Value} {o : List Int} (h : IRow w v o) (hu : Up w w') : IRow w' v o := by
  obtain ⟨p, cap, rfl, h⟩ := h
  refine ⟨p, cap, rfl, fun i hi => ?_⟩
  obtain ⟨blk, off, hp, hc⟩ := h i hi
  exact ⟨blk, off, hp, cell_up hc hu⟩
def stepsF (o : List Int) (n p : Nat) : Option Nat × Option Nat := unitP (Int.tmod o[p / n]! n * ((p % n : Nat) : Int)) n
theorem steps_at {o : List Int} {i j n : Nat} (hj : j < n) : stepsF o n (i * n + j) = unitP (Int.tmod o[i]! n * (j : Int)) n := by
  unfold stepsF
  have e1 : (i * n + j) / n = i := by
    rw [Nat.mul_comm, Nat.mul_add_div (by omega), Nat.div_eq_of_lt hj, Nat.add_zero]
  have e2 : (i * n + j) % n = j := by
    rw [Nat.mul_comm, Nat.mul_add_mod, Nat.mod_eq_of_lt hj]
  rw [e1, e2]
def stepsL (o : List Int) (n : Int) : List (Option Nat × Option Nat) := if n < 1 then [] else if 16384 < o.length * n.toNat then [] else (List.range (o.length * n.toNat)).map (stepsF o n.toNat)
def stepsE (o : List Int) (n : Int) : Int := if n < 1 then 2 else if 16384 < o.length * n.toNat then 3 else 0
theorem rest_bounds {f : Int} {n j : Nat} (h1 : 1 ≤ n) (h2 : n ≤ 16384) (hj : j < n) : -268435456 ≤ Int.tmod f n * (j : Int) ∧ Int.tmod f n * (j : Int) ≤ 268435456 := by
  have b1 := Int.tmod_lt_of_pos f (show (0 : Int) < n by omega)
  have b2 : -(n : Int) < f.tmod n := Int.lt_tmod_of_pos f (show (0 : Int) < n by omega)
  generalize f.tmod n = r at *
  have k1 : r * (j : Int) ≤ 16384 * 16384 := by
    rcases Int.le_total r 0 with h | h
    · exact Int.le_trans (Int.mul_nonpos_of_nonpos_of_nonneg h (by omega)) (by omega)
    · exact Int.mul_le_mul (by omega) (by omega) (by omega) (by omega)
  have k2 : (-r) * (j : Int) ≤ 16384 * 16384 := by
    rcases Int.le_total 0 r with h | h
    · exact Int.le_trans (Int.mul_nonpos_of_nonpos_of_nonneg (by omega) (by omega)) (by omega)
    · exact Int.mul_le_mul (by omega) (by omega) (by omega) (by omega)
  rw [Int.neg_mul] at k2
  omega
set_option maxRecDepth 20000 in
set_option maxHeartbeats 1000000 in
theorem t37ok (o : List Int) (v : Value) (n : Nat) (w : World) (hR : IRow w v o) (h1 : 1 ≤ n) (hK : o.length < 1000000000) (h2 : o.length * n ≤ 16384) (h3 : n ≤ 9223372036854775807) : Calls Try.prog 37 #[v, .int .i64 n] w (PL w ((List.range (o.length * n)).map (stepsF o n)) 0) := by
  obtain ⟨i0, hi, hz0, hz1, hz2⟩ := info_parts info41
  have HR : Hid (IRow w v o) := hR
  obtain ⟨pp, cap, rfl, hpp⟩ := hR
  have HPP : Hid (∀ i, i < o.length → ∃ blk off, pp = some ⟨blk, off, none⟩ ∧ w.cell? ⟨blk, off + i, none⟩ = some (.int .i64 o[i]!)) := hpp
  clear hpp HR
  have HM : Hid (decide ((o.length : Int) > Int.tdiv 16384 n) = false) := many_no h1 h2
  obtain ⟨M, hM⟩ : ∃ M, M = o.length * n := ⟨_, rfl⟩
  have eM : (o.length : Int) * n = M := by rw [hM]; exact (Int.natCast_mul _ _).symm
  rw [← hM] at h2 ⊢
  have HMM : Hid (M = o.length * n) := hM
  clear hM
  generalize hN : o.length = K at *
  have HN : Hid (o.length = K) := hN
  clear hN
  go_enter Try.func37, Try.ntmps37
  go_wp2_with (first
    | (go_at_call 47; refine (t47 (by omega) (by omega) HM.out _).mono ?_; rintro e w' ⟨rfl, rfl⟩)
    | (refine wpList_make_full _ rfl _ _ 54 rfl w'.heap.size 53 i0 (.complex .f64 0 0) 1 Try.underlying54 hi hz0 hz1 .i64 .i64 _ _ M rfl rfl rfl rfl (by rw [hz2]; omega) (by unfold maxLen; omega) (Nat.le_refl _) ?_; intro w1 hown hgr; have HF : Hid (Fill _ w1 _ M (stepsF o n) 0) := Fill.new _ hown hgr; clear hown hgr))
  go_loopw [7, 8, 9, 10, 26] (fun _ _ _ _ vi wr => ∃ i : Nat, i ≤ K ∧ vi = .int .i64 i ∧ Hid (Fill w' wr w'.heap.size M (stepsF o n) (i * n))) (fun _ _ _ _ vi _ => K - (intOf vi).toNat)
  case atStart => exact ⟨0, by omega, rfl, by rw [Nat.zero_mul]; exact HF⟩
  case round =>
    clear HF
    obtain ⟨i, hi', rfl, HF⟩ := hrel
    by_cases hlt : i < K
    · have hiz : (i : Int) < (K : Int) := by omega
      obtain ⟨blk, off, hp, hc0⟩ := HPP.out i (by have := HN.out; omega)
      subst hp
      have hc1 := cell_up hc0 HF.out.below
      generalize hf : o[i]! = f at hc0 hc1
      have HFF : Hid (o[i]! = f) := hf
      clear hf hc0
      have hn2 : n ≤ 16384 := by
        have e := HMM.out
        have : 1 * n ≤ K * n := Nat.mul_le_mul_right _ (by omega)
        omega
      have b1 := Int.tmod_lt_of_pos f (show (0 : Int) < n by omega)
      have b2 : -(n : Int) < f.tmod n := Int.lt_tmod_of_pos f (show (0 : Int) < n by omega)
      obtain ⟨q, hq⟩ : ∃ q, q = i * n := ⟨_, rfl⟩
      have eq : (i : Int) * n = q := by rw [hq]; exact (Int.natCast_mul _ _).symm
      have hqm : q + n ≤ M := by
        rw [hq, HMM.out, ← Nat.succ_mul]; exact Nat.mul_le_mul_right _ hlt
      have HQ : Hid (q = i * n) := hq
      rw [← hq] at HF
      clear hq
      go_wp2
      go_loopw [10, 35] (fun _ vj wr => ∃ j : Nat, j ≤ n ∧ vj = .int .i64 j ∧ Hid (Fill w' wr w'.heap.size M (stepsF o n) (q + j))) (fun _ vj _ => n - (intOf vj).toNat)
      case atStart => exact ⟨0, by omega, rfl, HF⟩
      case round =>
        clear HF
        obtain ⟨j, hj', rfl, HF⟩ := hrel
        by_cases hlt2 : j < n
        · have hjz : (j : Int) < (n : Int) := by omega
          obtain ⟨p, hp⟩ : ∃ p, p = q + j := ⟨_, rfl⟩
          have ep : (q : Int) + j = p := by omega
          have hpM : p < M := by omega
          have hpz : (p : Int) < (M : Int) := by omega
          obtain ⟨r1, r2⟩ := rest_bounds (f := f) h1 hn2 hlt2
          have HU : Hid (stepsF o n p = unitP (f.tmod n * j) n) := by
            show _ = _
            rw [hp, HQ.out, steps_at hlt2, HFF.out]
          have HP : Hid (p = q + j) := hp
          rw [← hp] at HF
          clear hp
          go_wp2_with (go_at_call 48; refine (t48 _ _ _ (by omega) (by omega)).mono ?_; rintro e w2 ⟨c, s, rfl, hc, hs, hu⟩; have HF2 : Hid (Fill w' w2 w'.heap.size M (stepsF o n) p) := HF.out.up hu; obtain ⟨⟨x0, y0, hcell⟩, hfr⟩ := HF2.out.cell hpM; clear HF hu)
          go_roundw
          case rel =>
            refine ⟨j + 1, by omega, by go_num, ?_⟩
            rw [← Nat.add_assoc, ← HP.out]
            exact HF2.out.stored hpM (by rw [HU.out]; exact hc.out) (by rw [HU.out]; exact hs.out)
          case measure => simp [intOf]; omega
        · obtain rfl : n = j := by omega
          go_wp2
          go_roundw
          case rel => exact ⟨i + 1, by omega, by go_num, by rw [Nat.succ_mul, ← HQ.out]; exact HF⟩
          case measure => simp [intOf]; omega
    · obtain rfl : K = i := by omega
      go_wp2
      go_ret2
      exact Fill.pl (by rw [← HMM.out] at HF; exact HF.out) rfl
set_option maxRecDepth 20000 in
theorem t37 (o : List Int) (v : Value) (n : Int) (w : World) (hR : IRow w v o) (hK : o.length < 1000000000) (hn : n ≤ 9223372036854775807) : Calls Try.prog 37 #[v, .int .i64 n] w (PL w (stepsL o n) (stepsE o n)) := by
  by_cases h1 : n < 1
  · rw [stepsL, stepsE, if_pos h1, if_pos h1]
    obtain ⟨pp, cap, rfl, hpp⟩ := hR
    clear hpp
    go_enter Try.func37, Try.ntmps37
    go_wp2
    go_ret2
    exact PL.none _ _
  · obtain ⟨N, rfl⟩ := Int.eq_ofNat_of_zero_le (show 0 ≤ n by omega)
    by_cases h2 : 16384 < o.length * (N : Int).toNat
    · rw [stepsL, stepsE, if_neg h1, if_neg h1, if_pos h2, if_pos h2]
      obtain ⟨pp, cap, rfl, hpp⟩ := hR
      have HM : Hid (decide ((o.length : Int) > Int.tdiv 16384 N) = true) := many_yes (by omega) h2
      clear hpp h2
      go_enter Try.func37, Try.ntmps37
      go_wp2_with (go_at_call 47; refine (t47 (by omega) (by omega) HM.out _).mono ?_; rintro e w' ⟨rfl, rfl⟩)
      go_ret2
      exact PL.none _ _
    · rw [stepsL, stepsE, if_neg h1, if_neg h1, if_neg h2, if_neg h2]
      exact t37ok o v N w hR (by omega) hK (by simpa using h2) (by omega)
end Go.Proofs.Ytgalgnopjcpocaa
