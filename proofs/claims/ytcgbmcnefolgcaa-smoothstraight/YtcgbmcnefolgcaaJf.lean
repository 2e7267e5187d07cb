/- Whole places on a line: no turn is told. -/
import Derived.Test.YtcgbmcnefolgcaaJe
namespace Go.Proofs.Ytcgbmcnefolgcaa
open Go.Fl Ieee

theorem Rw.step {d : Array Nat} {n : Nat} {u v : Int} (R : Rw d n u v) (hv : -1100000 ≤ v ∧ v ≤ 1100000) {i : Nat} (hi : i + 1 < n) : WH (bin .sub (ab d[i + 1]!) (ab d[i]!)) v := by
  have e : u + ((i + 1 : Nat) : Int) * v - (u + i * v) = v := by
    rw [show ((i + 1 : Nat) : Int) = (i : Int) + 1 by omega, Int.add_mul]; omega
  exact (WH.sub (R.wh (i + 1) hi) (R.wh i (by omega)) (by rw [e]; unfold P53; omega) (by rw [e]; unfold P53; omega)).cast e
theorem Rw.slope {t x : Array Nat} {n : Nat} {u v a c : Int} (T : Rw t n u v) (X : Rw x n a (c * v)) (hv : -1023 ≤ v ∧ v ≤ 1023) (hv0 : v ≠ 0) (hc : -1023 ≤ c ∧ c ≤ 1023) {i : Nat} (hi : i + 1 < n) : WH (slA t x i) c := by
  have bcv := bd_mul (i := c) (b := 1023) (v := v) (V := 1023) hc.1 hc.2 hv.1 hv.2
  unfold slA slF
  exact WH.quo (X.step (by omega) hi) (T.step (by omega) hi) hv0 (by unfold P53; omega) (by unfold P53; omega)
theorem Rw.turn {t x : Array Nat} {n : Nat} {u v a c : Int} (T : Rw t n u v) (X : Rw x n a (c * v)) (hv : -1023 ≤ v ∧ v ≤ 1023) (hv0 : v ≠ 0) (hc : -1023 ≤ c ∧ c ≤ 1023) : ∀ k, k + 1 < n → turnN t x (ab 0) k = []
  | 0, _ => rfl
  | k + 1, hk => by
    have e : turnB t x (ab 0) k = false := by
      unfold turnB
      have d := (WH.sub (T.slope X hv hv0 hc (i := k + 1) (by omega)) (T.slope X hv hv0 hc (i := k) (by omega)) (by unfold P53; omega) (by unfold P53; omega)).abs
      rw [d.gt WH.zero]
      simp
    unfold turnN
    rw [e, Rw.turn T X hv hv0 hc k (by omega)]
    rfl
theorem Rw.rises {t : Array Nat} {n : Nat} {u v : Int} (T : Rw t n u v) (h0 : 1 < n) : riseB t = decide (0 < v) := by
  have key : ∀ i, i + 1 < n → gtF (ab t[i + 1]!) (ab t[i]!) = decide (0 < v) := fun i hi => by
    rw [(T.wh (i + 1) hi).gt (T.wh i (by omega))]
    rw [show ((i + 1 : Nat) : Int) = (i : Int) + 1 by omega, Int.add_mul]
    apply decide_eq_decide.2
    omega
  unfold riseB
  rw [T.len]
  by_cases hv : 0 < v
  · rw [decide_eq_true hv, allN_iff]
    intro i hi
    show gtF (ab t[i + 1]!) (ab t[i]!) = true
    rw [key i (by omega), decide_eq_true hv]
  · rw [decide_eq_false hv]
    exact allN_false (F := fun i => gtF (ab t[i + 1]!) (ab t[i]!)) (i := 0) (by show gtF (ab t[0 + 1]!) (ab t[0]!) = false; rw [key 0 (by omega), decide_eq_false hv]) _ (by omega)
theorem Rw.turns {t x : Array Nat} {h : Nat} {u v a c : Int} (T : Rw t (2 * h + 1) u v) (X : Rw x (2 * h + 1) a (c * v)) (h0 : 0 < h) (hn : 2 * h + 1 ≤ 99) (hv : -1023 ≤ v ∧ v ≤ 1023) (hv0 : v ≠ 0) (hc : -1023 ≤ c ∧ c ≤ 1023) : turE t x (ab 0) = (if v < 0 then 2 else 0) ∧ turD t x (ab 0) = [] := by
  have hE : turE t x (ab 0) = (if v < 0 then 2 else 0) := by
    unfold turE lenE
    rw [T.len, X.len, if_pos rfl, if_neg (show ¬ 1024 < 2 * h + 1 by omega), if_pos rfl, T.fin, X.fin, WH.zero.eq WH.zero, T.rises (by omega)]
    by_cases q : v < 0
    · rw [if_pos q, decide_eq_false (show ¬ 0 < v by omega)]; rfl
    · rw [if_neg q, decide_eq_true (show 0 < v by omega)]; rfl
  refine ⟨hE, ?_⟩
  unfold turD
  split
  · rw [T.len]
    exact T.turn X hv hv0 hc _ (by omega)
  · rfl
end Go.Proofs.Ytcgbmcnefolgcaa
/- Whole places on a line: a speed of nought is told as +0. -/
namespace Go.Proofs.Ytcgbmcnefolgcaa
open Go.Fl Ieee

def Z0 (o : Option Nat) : Prop := o = some 0 ∨ o = some 9223372036854775808
theorem bin_lt {op : BinOp} {x y r : Nat} (ho : op = .add ∨ op = .sub ∨ op = .mul ∨ op = .quo) (h : bin op (some x) (some y) = some r) : r < 2 ^ 64 := by
  rcases ho with rfl | rfl | rfl | rfl
  · have h' : double.add x y = some r := h
    unfold Format.add at h'
    rw [Option.map_eq_some_iff] at h'
    obtain ⟨d, hd, rfl⟩ := h'
    exact write_lt (sum_ok hd)
  · have h' : double.sub x y = some r := h
    unfold Format.sub at h'
    rw [Option.map_eq_some_iff] at h'
    obtain ⟨d, hd, rfl⟩ := h'
    exact write_lt (sum_ok hd)
  · have h' : double.mul x y = some r := h
    unfold Format.mul at h'
    rw [Option.map_eq_some_iff] at h'
    obtain ⟨d, hd, rfl⟩ := h'
    exact write_lt (product_ok hd)
  · have h' : double.div x y = some r := h
    unfold Format.div at h'
    rw [Option.map_eq_some_iff] at h'
    obtain ⟨d, hd, rfl⟩ := h'
    exact write_lt (quotient_ok hd)
theorem WH.z0 {r : Nat} (h : WH (some r) 0) (hr : r < 2 ^ 64) : Z0 (some r) := by
  obtain ⟨x, hx, fx, vx⟩ := h
  simp only [Option.some.injEq] at hx
  subst hx
  have e : Go.Fl.abs r = 0 := abs_zero (by simpa using vx)
  have e' : r % 2 ^ 63 = 0 := e
  have : r = 0 ∨ r = 9223372036854775808 := by omega
  rcases this with q | q
  · exact Or.inl (by rw [q])
  · exact Or.inr (by rw [q])
theorem z_add (o : Option Nat) (h : Z0 o) : bin .add o (some 0) = some 0 ∧ bin .add (some 0) o = some 0 := by
  rcases h with rfl | rfl <;> decide +kernel
theorem z_addz {a b : Option Nat} (ha : Z0 a) (hb : Z0 b) : Z0 (bin .add a b) := by
  rcases ha with rfl | rfl <;> rcases hb with rfl | rfl <;> unfold Z0 <;> decide +kernel
theorem z_sum {F : Nat → Option Nat} {h : Nat} (hh : F h = some 0) : ∀ n, 0 < n → (∀ i, i < n → Z0 (F i)) → Z0 (sumN F n) ∧ (h < n → sumN F n = some 0)
  | 0, h0, _ => by omega
  | 1, _, hF => by
    refine ⟨hF 0 (by omega), fun hl => ?_⟩
    obtain rfl : h = 0 := by omega
    exact hh
  | n + 2, _, hF => by
    obtain ⟨i1, i2⟩ := z_sum hh (n + 1) (by omega) fun i hi => hF i (by omega)
    rw [sumN_step]
    refine ⟨z_addz i1 (hF (n + 1) (by omega)), fun hl => ?_⟩
    rcases Nat.lt_or_ge h (n + 1) with q | q
    · rw [i2 q]
      exact (z_add _ (hF (n + 1) (by omega))).2
    · obtain rfl : h = n + 1 := by omega
      rw [hh]
      exact (z_add _ i1).1
theorem sub_same {x : Nat} (hx : Fnt x) : bin .sub (some x) (some x) = some 0 := by
  obtain ⟨s, m, i, ex⟩ := fin_read hx
  show double.sub x x = _
  unfold Format.sub
  rw [ex]
  have e : (Datum.number s m i).sum (Datum.number s m i).opposite = some (.number false 0 (min i i)) := by
    cases s <;> simp [Datum.opposite, Datum.sum, signed, shl] <;> omega
  rw [e]
  rfl
/-- Two floats of one whole number, the first not being -0: their difference is +0. -/
theorem sub_nought {z : Int} {r : Nat} (h1 : -P53 < z) (h2 : z < P53) (hf : floatOfInt .f64 z < 2 ^ 64) (hr : WH (some r) z) (hlt : r < 2 ^ 64) : bin .sub (some (floatOfInt .f64 z)) (some r) = some 0 := by
  by_cases hz : z = 0
  · subst hz
    have e : floatOfInt .f64 0 = 0 := by decide +kernel
    rw [e]
    rcases hr.z0 hlt with q | q <;> rw [q] <;> decide +kernel
  · rw [hr.bits hlt hz h1 h2 hf]
    exact sub_same (whole_val h1 h2).1
end Go.Proofs.Ytcgbmcnefolgcaa
/- Whole places on a line: the speed by its bits. -/
namespace Go.Proofs.Ytcgbmcnefolgcaa
open Go.Fl Ieee

theorem int_lt (z : Int) : floatOfInt .f64 z < 2 ^ 64 := write_lt (d := .number (decide (z < 0)) z.natAbs 0) rfl
theorem WH.lt64 {op : BinOp} {a b : Option Nat} {z y q : Int} (ho : op = .add ∨ op = .sub ∨ op = .mul ∨ op = .quo) (ha : WH a z) (hb : WH b y) (h : WH (bin op a b) q) : ∃ r, bin op a b = some r ∧ r < 2 ^ 64 ∧ WH (some r) q := by
  obtain ⟨x, rfl, _, _⟩ := ha
  obtain ⟨x', rfl, _, _⟩ := hb
  obtain ⟨r, hr, fr, vr⟩ := h
  exact ⟨r, hr, bin_lt ho hr, r, rfl, fr, vr⟩
theorem Rw.mean_lt {d : Array Nat} {h : Nat} {u v : Int} (R : Rw d (2 * h + 1) u v) (hn : 2 * h + 1 ≤ 99) (hu : -2000000 ≤ u ∧ u ≤ 2000000) (hv : -1100000 ≤ v ∧ v ≤ 1100000) : ∃ r, mtF d = some r ∧ r < 2 ^ 64 ∧ WH (some r) (u + h * v) := by
  have m := R.mean hn hu hv
  unfold mtF sumD at m ⊢
  rw [R.len] at m ⊢
  have s := WH.sum (F := fun i => ab d[i]!) (f := fun i => u + i * v) (M := 109800000) (2 * h + 1) (by omega) R.wh (fun i hi => Rw.at_bd hn hu hv hi) (by unfold P53; omega)
  exact WH.lt64 (by simp) s (WH.int (z := ((2 * h + 1 : Nat) : Int)) (by unfold P53; omega) (by unfold P53; omega)) m
theorem Rw.mid {d : Array Nat} {h : Nat} {u v : Int} (R : Rw d (2 * h + 1) u v) (hn : 2 * h + 1 ≤ 99) (hu : -2000000 ≤ u ∧ u ≤ 2000000) (hv : -1100000 ≤ v ∧ v ≤ 1100000) (hd : d[h]! = floatOfInt .f64 (u + h * v)) : bin .sub (ab d[h]!) (mtF d) = some 0 := by
  obtain ⟨r, e, hr, hw⟩ := R.mean_lt hn hu hv
  have b := Rw.at_bd (i := h) hn hu hv (by omega)
  have b1 : -P53 < u + h * v := by unfold P53; omega
  have b2 : u + h * v < P53 := by unfold P53; omega
  rw [hd, Fnt.ab (whole_val b1 b2).1, e]
  exact sub_nought b1 b2 (int_lt _) hw hr
theorem Rw.nought {t x : Array Nat} {h : Nat} {u v a : Int} (T : Rw t (2 * h + 1) u v) (X : Rw x (2 * h + 1) a (0 * v)) (h0 : 0 < h) (hn : 2 * h + 1 ≤ 99) (hu : -2000000 ≤ u ∧ u ≤ 2000000) (hv : -1023 ≤ v ∧ v ≤ 1023) (hv0 : v ≠ 0) (ha : -2000000 ≤ a ∧ a ≤ 2000000) (ht : t[h]! = floatOfInt .f64 (u + h * v)) (hx : x[h]! = floatOfInt .f64 (a + h * (0 * v))) : spdF t x = some 0 := by
  have hs : sxyF t x = some 0 := by
    unfold sxyF
    rw [T.len]
    refine (z_sum (h := h) ?_ (2 * h + 1) (by omega) fun i hi => ?_).2 (by omega)
    · show crF (ab t[h]!) (mtF t) (ab x[h]!) (mtF x) = some 0
      unfold crF
      rw [T.mid hn hu (by omega) ht, X.mid hn ha (by omega) hx]
      decide +kernel
    · show Z0 (crF (ab t[i]!) (mtF t) (ab x[i]!) (mtF x))
      have o1 := T.off hn hu (by omega) hi
      have o2 := X.off hn ha (by omega) hi
      have e : ((i : Int) - h) * v * (((i : Int) - h) * (0 * v)) = 0 := by simp
      have m := (WH.mul o1 o2 (by rw [e]; unfold P53; omega) (by rw [e]; unfold P53; omega)).cast e
      obtain ⟨r, e1, hr, hw⟩ := WH.lt64 (by simp) o1 o2 m
      unfold crF
      rw [e1]
      exact hw.z0 hr
  obtain ⟨y, ey, fy, vy⟩ := T.squares hn hu hv
  unfold spdF
  rw [hs, ey]
  refine quo_zero fy ?_
  rw [vy]
  have hq : 0 < v * v * qZ h := Int.mul_pos (by have := sq_nonneg v; have : v * v ≠ 0 := Int.mul_ne_zero hv0 hv0; omega) (qZ_pos h0)
  have : ((0 : Int) : Rat) < ((v * v * qZ h : Int) : Rat) := Rat.intCast_lt_intCast.2 hq
  simpa using this
/-- The speed, by its bits. -/
theorem Rw.exact {t x : Array Nat} {h : Nat} {u v a c : Int} (T : Rw t (2 * h + 1) u v) (X : Rw x (2 * h + 1) a (c * v)) (h0 : 0 < h) (hn : 2 * h + 1 ≤ 99) (hu : -1023 ≤ u ∧ u ≤ 1023) (hv : -1023 ≤ v ∧ v ≤ 1023) (hv0 : v ≠ 0) (ha : -2000000 ≤ a ∧ a ≤ 2000000) (hc : -1023 ≤ c ∧ c ≤ 1023) (ht : t[h]! = floatOfInt .f64 (u + h * v)) (hx : x[h]! = floatOfInt .f64 (a + h * (c * v))) : spdF t x = some (floatOfInt .f64 c) := by
  by_cases hc0 : c = 0
  · subst hc0
    rw [T.nought X h0 hn (by omega) hv hv0 ha ht hx]
    decide +kernel
  · have s := T.speed X h0 hn (by omega) hv hv0 ha hc
    have cr := T.cross X hn (by omega) hv ha hc
    have sq := T.squares hn (by omega) hv
    have l : ∃ r, spdF t x = some r ∧ r < 2 ^ 64 ∧ WH (some r) c := by
      unfold spdF sxyF at s ⊢
      rw [T.len] at s ⊢
      exact WH.lt64 (by simp) cr sq s
    obtain ⟨r, e, hr, hw⟩ := l
    rw [e, hw.bits hr hc0 (by unfold P53; omega) (by unfold P53; omega) (int_lt _)]
end Go.Proofs.Ytcgbmcnefolgcaa
