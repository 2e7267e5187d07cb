/- The leaves: borne, told, may, wish. -/
import Derived.Test.YtdajgnchgealhaaBa
namespace Go.Proofs.Ytdajgnchgealhaa
open Go.ChangeShapes Go.WideShapes Go.ChangeAt Go.RowKit

/-- A call that hands back a value and only draws. -/
def DV (w : World) (x : Value) (e : Ending) (w' : World) : Prop := e = .returned x ∧ ∃ k, w' = w.drewN k
/-- Costs and what is borne are small. -/
structure Small (n : Nat) (s : Sq) : Prop where
  c : ∀ i j, i < n → j < n → 0 ≤ s.c i j ∧ s.c i j ≤ 281474976710657
  u : ∀ i, i < n → -281474976710657 ≤ s.u i ∧ s.u i ≤ 281474976710657
  v : ∀ i, i < n → -281474976710657 ≤ s.v i ∧ s.v i ≤ 281474976710657
def borneB (s : Sq) (i j : Nat) : Bool := s.c i j == s.u i + s.v j
set_option maxRecDepth 20000 in
theorem t40 {w : World} {L : Lay} {n i j : Nat} {s : Sq} (h : SQ w L n s) (hb : Small n s) (hi : i < n) (hj : j < n) : Calls Try.prog 40 #[.pointer (some ⟨L.bs, 0, none⟩), .int .i64 i, .int .i64 j] w (DV w (.bool (borneB s i j))) := by
  have h0 := h.s0
  have h1 := h.s1
  have h2 := h.s2
  have ht := h.ct i hi
  have hc := h.cc i j hi hj
  have hu := h.cu i hi
  have hv := h.cv j hj
  have b1 := hb.u i hi
  have b2 := hb.v j hj
  have HA : Hid (borneB s i j = (s.c i j == s.u i + s.v j)) := rfl
  clear h hb
  generalize s.u i = x at *
  generalize s.v j = y at *
  generalize s.c i j = z at *
  generalize borneB s i j = A at *
  have hi' : (i : Int) < n := by omega
  have hj' : (j : Int) < n := by omega
  go_enter Try.func40, Try.ntmps40
  go_wp2_with fail
  go_quiet (fail)
  go_wp2_with fail
  go_ret
  refine ⟨?_, _, rfl⟩
  rw [HA.out]
  rfl
/-- What is told of a row whose column is j. -/
def toldI (s : Sq) (i j : Nat) : Int := if s.c i j = 281474976710657 then -1 else j
set_option maxRecDepth 20000 in
theorem t28 {w : World} {L : Lay} {n i j : Nat} {s : Sq} (h : SQ w L n s) (hi : i < n) (hj : j < n) (hm : s.m i = j) : Calls Try.prog 28 #[.pointer (some ⟨L.bs, 0, none⟩), .int .i64 i] w (DV w (.int .i64 (toldI s i j))) := by
  have h0 := h.s0
  have h3 := h.s3
  have ht := h.ct i hi
  have hc := h.cc i j hi hj
  have hu := h.cm i hi
  rw [hm] at hu
  have HA : Hid (toldI s i j = if s.c i j = 281474976710657 then -1 else (j : Int)) := rfl
  clear h hm
  generalize s.c i j = z at *
  generalize toldI s i j = A at *
  have hi' : (i : Int) < n := by omega
  have hj' : (j : Int) < n := by omega
  by_cases hz : z = 281474976710657
  · have HB : Hid (A = -1) := by have e := HA.out; rw [if_pos hz] at e; exact e
    subst hz
    clear HA
    go_enter Try.func28, Try.ntmps28
    go_wp2_with fail
    go_quiet (fail)
    go_wp2_with fail
    go_ret
    refine ⟨?_, _, rfl⟩
    rw [HB.out]
    rfl
  · have HB : Hid (A = j) := by have e := HA.out; rw [if_neg hz] at e; exact e
    have hz' : (z == 281474976710657) = false := beq_false_of_ne hz
    clear HA hz
    go_enter Try.func28, Try.ntmps28
    go_wp2_with fail
    go_quiet (fail)
    go_wp2_with fail
    go_ret
    refine ⟨?_, _, rfl⟩
    rw [HB.out]
    rfl
/-- May a row go to a column, for the sake of another row? -/
def mayB (s : Sq) (r j row k : Nat) : Bool := borneB s r j && (decide (row < r) || (s.c r j == 281474976710657 && decide (toldI s r k < 0)))
set_option maxRecDepth 20000 in
theorem t41 {w : World} {L : Lay} {n r j row k : Nat} {s : Sq} (h : SQ w L n s) (hb : Small n s) (hr : r < n) (hj : j < n) (hk : k < n) (hm : s.m r = k) : Calls Try.prog 41 #[.pointer (some ⟨L.bs, 0, none⟩), .int .i64 r, .int .i64 j, .int .i64 row] w (DV w (.bool (mayB s r j row k))) := by
  have h0 := h.s0
  have ht := h.ct r hr
  have hc := h.cc r j hr hj
  have C40 : Hid (Calls Try.prog 40 #[.pointer (some ⟨L.bs, 0, none⟩), .int .i64 r, .int .i64 j] w (DV w (.bool (borneB s r j)))) := t40 h hb hr hj
  have C28 : Hid (∀ d, Calls Try.prog 28 #[.pointer (some ⟨L.bs, 0, none⟩), .int .i64 r] (w.drewN d) (DV (w.drewN d) (.int .i64 (toldI s r k)))) := fun d => t28 (h.drewN d) hr hk hm
  have HD : Hid (mayB s r j row k = (borneB s r j && (decide (row < r) || (s.c r j == 281474976710657 && decide (toldI s r k < 0))))) := rfl
  generalize mayB s r j row k = A at *
  clear h hm hb
  have hi' : (r : Int) < n := by omega
  have hj' : (j : Int) < n := by omega
  generalize s.c r j = z at *
  generalize borneB s r j = B at *
  generalize toldI s r k = T at *
  cases B with
  | false =>
    have HB : Hid (A = false) := by show _ = _; rw [HD.out]; simp
    go_enter Try.func41, Try.ntmps41
    go_wp2_with (first | (go_at_call 40; (with_reducible refine C40.out.mono ?_); rintro e w' ⟨rfl, q0, hq0⟩; subst hq0))
    go_ret
    exact ⟨by rw [HB.out]; rfl, _, rfl⟩
  | true =>
    by_cases h1 : row < r
    · have HB : Hid (A = true) := by show _ = _; rw [HD.out]; simp [h1]
      have h1' : (row : Int) < r := by omega
      clear h1
      go_enter Try.func41, Try.ntmps41
      go_wp2_with (first | (go_at_call 40; (with_reducible refine C40.out.mono ?_); rintro e w' ⟨rfl, q0, hq0⟩; subst hq0))
      go_ret
      exact ⟨by rw [HB.out]; rfl, _, rfl⟩
    · have h1' : ¬ (row : Int) < r := by omega
      by_cases h2 : z = 281474976710657
      · have HB : Hid (A = (decide (row < r) || decide (T < 0))) := by show _ = _; rw [HD.out]; simp [h2]
        subst h2
        clear h1
        go_enter Try.func41, Try.ntmps41
        go_wp2_with (first | (go_at_call 40; (with_reducible refine C40.out.mono ?_); rintro e w' ⟨rfl, q0, hq0⟩; subst hq0) | (go_at_call 28; (with_reducible refine (C28.out _).mono ?_); rintro e w' ⟨rfl, q1, hq1⟩; subst hq1))
        go_ret
        exact ⟨by rw [HB.out]; rfl, _, rfl⟩
      · have h2' : (z == 281474976710657) = false := beq_false_of_ne h2
        have HB : Hid (A = decide (row < r)) := by show _ = _; rw [HD.out]; simp [h2]
        clear h1 h2
        go_enter Try.func41, Try.ntmps41
        go_wp2_with (first | (go_at_call 40; (with_reducible refine C40.out.mono ?_); rintro e w' ⟨rfl, q0, hq0⟩; subst hq0))
        go_ret
        exact ⟨by rw [HB.out]; rfl, _, rfl⟩
/-- A column that may go with a row, in a least pairing. -/
def wiP (s : Sq) (row j : Nat) : Prop := s.c row j ≠ 281474976710657 ∧ borneB s row j = true
/-- The least one from a place on, or -1. -/
def WishR (s : Sq) (n row a : Nat) (z : Int) : Prop := (z = -1 ∧ ∀ j, a ≤ j → j < n → ¬ wiP s row j) ∨ ∃ k : Nat, z = k ∧ a ≤ k ∧ k < n ∧ wiP s row k ∧ ∀ j, a ≤ j → j < k → ¬ wiP s row j
set_option maxRecDepth 20000 in
theorem t36 {w : World} {L : Lay} {n row a : Nat} {s : Sq} (h : SQ w L n s) (hb : Small n s) (hrow : row < n) (ha : a ≤ n) (hn : n ≤ 256) : Calls Try.prog 36 #[.pointer (some ⟨L.bs, 0, none⟩), .int .i64 row, .int .i64 a] w fun e w' => ∃ z, e = .returned (.int .i64 z) ∧ Hid (WishR s n row a z) ∧ ∃ k, w' = w.drewN k := by
  have HS : Hid (SQ w L n s) := h
  have HB : Hid (Small n s) := hb
  clear h hb
  go_enter Try.func36, Try.ntmps36
  go_wp2_with fail
  go_loopw [7] (fun v7 wr => ∃ (i k : Nat), a ≤ i ∧ i ≤ n ∧ v7 = .int .i64 i ∧ wr = w.drewN k ∧ Hid (∀ j, a ≤ j → j < i → ¬ wiP s row j)) (fun v7 _ => n - (intOf v7).toNat)
  case atStart => exact ⟨a, 0, by omega, ha, rfl, rfl, fun j h1 h2 => by omega⟩
  case round =>
    obtain ⟨i, q, hi, hin, rfl, hw, HI⟩ := hrel
    subst hw
    have h0 := HS.out.drewN q |>.s0
    have hr' : (row : Int) < n := by omega
    by_cases hlt : i < n
    · have ht := (HS.out.drewN q).ct row hrow
      have hc := (HS.out.drewN q).cc row i hrow hlt
      have hi' : (i : Int) < n := by omega
      have C40 : Hid (∀ d, Calls Try.prog 40 #[.pointer (some ⟨L.bs, 0, none⟩), .int .i64 row, .int .i64 i] (w.drewN d) (DV (w.drewN d) (.bool (borneB s row i)))) := fun d => t40 (HS.out.drewN d) HB.out hrow hlt
      have HX : Hid (wiP s row i = (s.c row i ≠ 281474976710657 ∧ borneB s row i = true)) := rfl
      generalize s.c row i = z at *
      generalize borneB s row i = B at *
      by_cases hz : z = 281474976710657
      · have HN : Hid (∀ j, a ≤ j → j < i + 1 → ¬ wiP s row j) := fun j h1 h2 h3 => by
          by_cases e : j = i
          · subst e; rw [HX.out] at h3; exact h3.1 hz
          · exact HI.out j h1 (by omega) h3
        subst hz
        go_wp2_with fail
        go_roundw
        case rel => exact ⟨i + 1, _, by omega, by omega, by go_num, rfl, HN⟩
        case measure => simp [intOf]; omega
      · have hz' : (z != 281474976710657) = true := by simp [hz]
        cases B with
        | false =>
          have HN : Hid (∀ j, a ≤ j → j < i + 1 → ¬ wiP s row j) := fun j h1 h2 h3 => by
            by_cases e : j = i
            · subst e; rw [HX.out] at h3; exact absurd h3.2 (by decide)
            · exact HI.out j h1 (by omega) h3
          clear hz
          go_wp2_with (first | (go_at_call 40; (with_reducible refine (C40.out _).mono ?_); rintro e w' ⟨rfl, q0, hq0⟩; subst hq0))
          go_roundw
          case rel => exact ⟨i + 1, _, by omega, by omega, by go_num, rfl, HN⟩
          case measure => simp [intOf]; omega
        | true =>
          have HN : Hid (WishR s n row a i) := Or.inr ⟨i, rfl, hi, hlt, by rw [HX.out]; exact ⟨hz, rfl⟩, HI.out⟩
          clear hz
          go_wp2_with (first | (go_at_call 40; (with_reducible refine (C40.out _).mono ?_); rintro e w' ⟨rfl, q0, hq0⟩; subst hq0))
          go_ret
          exact ⟨_, rfl, HN, _, rfl⟩
    · obtain rfl : i = n := by omega
      have HN : Hid (WishR s i row a (-1)) := Or.inl ⟨rfl, HI.out⟩
      go_wp2_with fail
      go_ret
      exact ⟨_, rfl, HN, _, rfl⟩
end Go.Proofs.Ytdajgnchgealhaa
