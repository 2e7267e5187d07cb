/- Tables: how many rows and gates, and what may be wrong with one. -/
import Derived.Test.YthifemkbemhmnaaPb
import Derived.Test.YthifemkbemhmnaaMa
namespace Go.Proofs.Ythifemkbemhmnaa
open Go.ChangeShapes Go.WideShapes Go.ChangeAt Go.RowKit Go.Fl Ieee
attribute [local go_sem] run_store_float run_store_complex call69 call32 run_neg fold_eq fold_ne fold_lt fold_gt abs_eq

/-- What a call leaves that answers yes or no, a number, and turns nothing. -/
def BR (b : Bool) (w : World) (e : Ending) (w' : World) : Prop := e = .returned (.bool b) ∧ w' = w
def IR (z : Int) (w : World) (e : Ending) (w' : World) : Prop := e = .returned (.int .i64 z) ∧ w' = w
/-- A table's value: n rows, of which the first has m numbers. -/
def TV (w : World) (v : Value) (n m : Nat) : Prop := ∃ p c, v = .slice p n c ∧ (n = 0 → m = 0) ∧ (0 < n → ∃ R q c0, p = some ⟨R, 0, none⟩ ∧ w.cell? ⟨R, 0, none⟩ = some (.slice q m c0))
theorem TV.up {w w' : World} {v : Value} {n m : Nat} (h : TV w v n m) (hu : Up w w') : TV w' v n m := by
  obtain ⟨p, c, h1, h2, h3⟩ := h
  refine ⟨p, c, h1, h2, fun hp => ?_⟩
  obtain ⟨R, q, c0, k1, k2⟩ := h3 hp
  exact ⟨R, q, c0, k1, cell_up k2 hu⟩
theorem TV.nil (w : World) (p : Option Addr) (c : Nat) : TV w (.slice p 0 c) 0 0 := ⟨p, c, rfl, fun _ => rfl, fun h => by omega⟩
set_option maxRecDepth 20000 in
/-- gates -/
theorem t51 {w : World} {v : Value} {n m : Nat} (h : TV w v n m) (hn : n < 4611686018427387904) : Calls Try.prog 51 #[v] w (IR m w) := by
  obtain ⟨p, c, rfl, h0, h1⟩ := h
  rcases Nat.eq_zero_or_pos n with rfl | hp
  · obtain rfl := h0 rfl
    go_enter Try.func51, Try.ntmps51
    go_wp2
    go_ret
    exact ⟨rfl, rfl⟩
  · obtain ⟨R, q, c0, rfl, hc⟩ := h1 hp
    clear h0 h1
    have z : ((n : Int) == 0) = false := by rw [beq_eq_false_iff_ne]; omega
    have z1 : (0 : Int) < (n : Int) := by omega
    go_enter Try.func51, Try.ntmps51
    go_wp2
    go_ret
    exact ⟨rfl, rfl⟩
set_option maxRecDepth 20000 in
/-- cells -/
theorem t68 {w : World} {v : Value} {n m k : Nat} (h : TV w v n m) (hk : n * m = k) (hb : k < 4611686018427387904) (hn : n < 4611686018427387904) : Calls Try.prog 68 #[v] w (IR k w) := by
  have H : Hid (TV w v n m) := h
  obtain ⟨p, c, rfl, h0, h1⟩ := h
  clear h0 h1
  have hz : (n : Int) * (m : Int) = k := by rw [← hk, Int.natCast_mul]
  clear hk
  go_enter Try.func68, Try.ntmps68
  go_wp2_with (go_at_call 51; (with_reducible refine (t51 H.out hn).mono ?_); rintro e w' ⟨rfl, rfl⟩)
  go_ret
  exact ⟨rfl, rfl⟩
set_option maxRecDepth 20000 in
/-- tooLarge -/
theorem t47a {w : World} {v : Value} {n m : Nat} (h : TV w v n m) (hn : n < 4611686018427387904) (hm : 256 < n) : Calls Try.prog 47 #[v] w (BR true w) := by
  obtain ⟨p, c, rfl, h0, h1⟩ := h
  clear h0 h1
  have z : (256 : Int) < (n : Int) := by omega
  go_enter Try.func47, Try.ntmps47
  go_wp2
  go_ret
  exact ⟨rfl, rfl⟩
set_option maxRecDepth 20000 in
theorem t47b {w : World} {v : Value} {n m : Nat} (h : TV w v n m) (hn : n ≤ 256) (hm : 16384 < m) : Calls Try.prog 47 #[v] w (BR true w) := by
  have H : Hid (TV w v n m) := h
  obtain ⟨p, c, rfl, h0, h1⟩ := h
  clear h0 h1
  have z : ¬ (256 : Int) < (n : Int) := by omega
  have z1 : (16384 : Int) < (m : Int) := by omega
  go_enter Try.func47, Try.ntmps47
  go_wp2_with (go_at_call 51; (with_reducible refine (t51 H.out (by omega)).mono ?_); rintro e w' ⟨rfl, rfl⟩)
  go_ret
  exact ⟨rfl, rfl⟩
set_option maxRecDepth 20000 in
theorem t47c {w : World} {v : Value} {n m : Nat} {b : Bool} (h : TV w v n m) (hn : n ≤ 256) (hm : m ≤ 16384) (hb : decide (262144 < n * m) = b) : Calls Try.prog 47 #[v] w (BR b w) := by
  have H : Hid (TV w v n m) := h
  obtain ⟨p, c, rfl, h0, h1⟩ := h
  clear h0 h1
  have z : ¬ (256 : Int) < (n : Int) := by omega
  have z1 : decide ((16384 : Int) < (m : Int)) = false := by simp; omega
  have hle : n * m ≤ 256 * 16384 := Nat.mul_le_mul hn hm
  obtain ⟨k, hk⟩ : ∃ k, n * m = k := ⟨_, rfl⟩
  rw [hk] at hle hb
  have HK : Hid (n * m = k) := hk
  clear hk
  have hz : decide ((262144 : Int) < (k : Int)) = b := by rw [← hb, decide_eq_decide]; omega
  clear hb
  go_enter Try.func47, Try.ntmps47
  go_wp2_with (first
    | (go_at_call 51; (with_reducible refine (t51 H.out (by omega)).mono ?_); rintro e w' ⟨rfl, rfl⟩)
    | (go_at_call 68; (with_reducible refine (t68 H.out HK.out (by omega) (by omega)).mono ?_); rintro e w' ⟨rfl, rfl⟩))
  go_ret
  exact ⟨rfl, rfl⟩
set_option maxRecDepth 20000 in
/-- tooMuch -/
theorem t49 {w : World} {v : Value} {n m x : Nat} {b : Bool} (h : TV w v n m) (hn : n ≤ 256) (hm : m ≤ 16384) (hx : x ≤ 16384) (hb : decide (16777216 < n * m * x) = b) : Calls Try.prog 49 #[v, .int .i64 x] w (BR b w) := by
  have H : Hid (TV w v n m) := h
  obtain ⟨p, c, rfl, h0, h1⟩ := h
  clear h0 h1
  have hle : n * m ≤ 256 * 16384 := Nat.mul_le_mul hn hm
  obtain ⟨k, hk⟩ : ∃ k, n * m = k := ⟨_, rfl⟩
  rw [hk] at hle hb
  have HK : Hid (n * m = k) := hk
  clear hk
  have hle2 : k * x ≤ 256 * 16384 * 16384 := Nat.mul_le_mul hle hx
  obtain ⟨y, hy⟩ : ∃ y, k * x = y := ⟨_, rfl⟩
  rw [hy] at hle2 hb
  have hz0 : (k : Int) * (x : Int) = y := by rw [← hy, Int.natCast_mul]
  clear hy
  have hz : decide ((16777216 : Int) < (y : Int)) = b := by rw [← hb, decide_eq_decide]; omega
  clear hb
  go_enter Try.func49, Try.ntmps49
  go_wp2_with (go_at_call 68; (with_reducible refine (t68 H.out HK.out (by omega) (by omega)).mono ?_); rintro e w' ⟨rfl, rfl⟩)
  go_ret
  exact ⟨rfl, rfl⟩
/-- The rows of a table as they stand in memory: where each begins, how many it has, its room. -/
def TB (w : World) (R n : Nat) (P : Nat → Option Addr) (L C : Nat → Nat) : Prop := ∀ i, i < n → w.cell? ⟨R, i, none⟩ = some (.slice (P i) (L i) (C i))
theorem TB.up {w w' : World} {R n : Nat} {P : Nat → Option Addr} {L C : Nat → Nat} (h : TB w R n P L C) (hu : Up w w') : TB w' R n P L C := fun i hi => cell_up (h i hi) hu
theorem TB.tv {w : World} {R n c : Nat} {P : Nat → Option Addr} {L C : Nat → Nat} (h : TB w R n P L C) (hp : 0 < n) : TV w (.slice (some ⟨R, 0, none⟩) n c) n (L 0) := ⟨_, c, rfl, fun e => by omega, fun _ => ⟨R, P 0, C 0, rfl, h 0 hp⟩⟩
set_option maxRecDepth 20000 in
/-- ragged -/
theorem t45z (p : Option Addr) (c : Nat) (w : World) : Calls Try.prog 45 #[.slice p 0 c] w (BR false w) := by
  go_enter Try.func45, Try.ntmps45
  go_wp2
  go_loopw [7] (fun vi wr => vi = .int .i64 0 ∧ wr = w) (fun _ _ => 0)
  case atStart => exact ⟨rfl, rfl⟩
  case round =>
    obtain ⟨rfl, rfl⟩ := hrel
    go_wp2
    go_ret
    exact ⟨rfl, rfl⟩
set_option maxRecDepth 20000 in
set_option maxHeartbeats 1000000 in
theorem t45 (R n c k : Nat) (P : Nat → Option Addr) (L C : Nat → Nat) (b : Bool) (w : World) (h : TB w R n P L C) (hn : n ≤ 1000000) (hL : ∀ i, i < n → L i ≤ 1000000) (h0 : 0 < n) (hk : ∀ i, i < k → L i = L 0) (hb : k < n ∧ L k ≠ L 0 ∧ b = true ∨ k = n ∧ b = false) :
    Calls Try.prog 45 #[.slice (some ⟨R, 0, none⟩) n c] w (BR b w) := by
  have H : Hid (TB w R n P L C) := h
  have HB : Hid (k < n ∧ L k ≠ L 0 ∧ b = true ∨ k = n ∧ b = false) := hb
  have HK : Hid (∀ i, i < k → L i = L 0) := hk
  have HL : Hid (∀ i, i < n → L i ≤ 1000000) := hL
  have hkn : k ≤ n := by omega
  clear h hb hk hL
  go_enter Try.func45, Try.ntmps45
  go_wp2
  go_loopw [7] (fun vi wr => ∃ i : Nat, i ≤ k ∧ vi = .int .i64 i ∧ wr = w) (fun vi _ => n - (intOf vi).toNat)
  case atStart => exact ⟨0, by omega, rfl, rfl⟩
  case round =>
    obtain ⟨i, hi, rfl, rfl⟩ := hrel
    by_cases hlt : i < n
    · have z1 : (i : Int) < (n : Int) := by omega
      have z2 : (0 : Int) ≤ (i : Int) := by omega
      have hc := H.out i hlt
      by_cases hik : i < k
      · obtain ⟨x, hx, hxb⟩ : ∃ x, L 0 = x ∧ x ≤ 1000000 := ⟨_, rfl, HL.out 0 h0⟩
        have hv : TV wr (.slice (some ⟨R, 0, none⟩) n c) n x := hx ▸ H.out.tv h0
        have HV : Hid (TV wr (.slice (some ⟨R, 0, none⟩) n c) n x) := hv
        rw [HK.out i hik, hx] at hc
        clear hx hv
        go_wp2_with (go_at_call 51; (with_reducible refine (t51 HV.out (by omega)).mono ?_); rintro e w' ⟨rfl, rfl⟩)
        go_roundw
        case rel => exact ⟨i + 1, by omega, by go_num, by trivial⟩
        case measure => simp [intOf]; omega
      · obtain rfl : i = k := by omega
        obtain ⟨x, hx, hxb⟩ : ∃ x, L 0 = x ∧ x ≤ 1000000 := ⟨_, rfl, HL.out 0 h0⟩
        obtain ⟨y, hy, hyb⟩ : ∃ y, L i = y ∧ y ≤ 1000000 := ⟨_, rfl, HL.out i hlt⟩
        have hv : TV wr (.slice (some ⟨R, 0, none⟩) n c) n x := hx ▸ H.out.tv h0
        have HV : Hid (TV wr (.slice (some ⟨R, 0, none⟩) n c) n x) := hv
        have hne : y ≠ x ∧ b = true := by
          rcases HB.out with ⟨_, q, r⟩ | ⟨q, r⟩
          · rw [hx, hy] at q; exact ⟨q, r⟩
          · omega
        obtain ⟨hne, rfl⟩ := hne
        have hz : ((y : Int) != (x : Int)) = true := by simp; omega
        rw [hy] at hc
        clear hx hv hy HB HK
        go_wp2_with (go_at_call 51; (with_reducible refine (t51 HV.out (by omega)).mono ?_); rintro e w' ⟨rfl, rfl⟩)
        go_ret
        exact ⟨rfl, rfl⟩
    · obtain rfl : i = n := by omega
      have hb : b = false := by
        rcases HB.out with ⟨q, _⟩ | ⟨_, r⟩
        · omega
        · exact r
      subst hb
      go_wp2
      go_ret
      exact ⟨rfl, rfl⟩
set_option maxRecDepth 20000 in
/-- What Compress and Doppler ask besides. -/
theorem t46 (bn x : Nat) (b : Bool) (w : World) (h : w.cell? ⟨bn, 0, none⟩ = some (.int .i64 x)) (hb : decide (x = 0) = b) : Calls Try.prog 46 #[.pointer (some ⟨bn, 0, none⟩)] w (BR b w) := by
  have hz : ((x : Int) == 0) = b := by rw [← hb, Bool.eq_iff_iff]; simp
  clear hb
  go_enter Try.func46, Try.ntmps46
  go_wp2
  go_ret
  exact ⟨rfl, rfl⟩
set_option maxRecDepth 20000 in
theorem t48a (bn bt x : Nat) (w : World) (h : w.cell? ⟨bn, 0, none⟩ = some (.int .i64 x)) (hx : 16384 < x) : Calls Try.prog 48 #[.pointer (some ⟨bn, 0, none⟩), .pointer (some ⟨bt, 0, none⟩)] w (BR true w) := by
  have z : (16384 : Int) < (x : Int) := by omega
  go_enter Try.func48, Try.ntmps48
  go_wp2
  go_ret
  exact ⟨rfl, rfl⟩
set_option maxRecDepth 20000 in
theorem t48 (bn bt x n m : Nat) (v : Value) (b : Bool) (w : World) (h : w.cell? ⟨bn, 0, none⟩ = some (.int .i64 x)) (h2 : w.cell? ⟨bt, 0, none⟩ = some v) (hv : TV w v n m) (hn : n ≤ 256) (hm : m ≤ 16384) (hx : x ≤ 16384) (hb : decide (16777216 < n * m * x) = b) :
    Calls Try.prog 48 #[.pointer (some ⟨bn, 0, none⟩), .pointer (some ⟨bt, 0, none⟩)] w (BR b w) := by
  have H : Hid (TV w v n m) := hv
  have HB : Hid (decide (16777216 < n * m * x) = b) := hb
  obtain ⟨p, c, rfl, _, _⟩ := hv
  clear hb
  have z : ¬ (16384 : Int) < (x : Int) := by omega
  go_enter Try.func48, Try.ntmps48
  go_wp2_with (go_at_call 49; (with_reducible refine (t49 H.out hn hm hx HB.out).mono ?_); rintro e w' ⟨rfl, rfl⟩)
  go_ret
  exact ⟨rfl, rfl⟩
end Go.Proofs.Ythifemkbemhmnaa
/- The first thing that is wrong. -/
namespace Go.Proofs.Ythifemkbemhmnaa
open Go.ChangeShapes Go.WideShapes Go.ChangeAt Go.RowKit Go.Fl Ieee
attribute [local go_sem] run_store_float run_store_complex call69 call32 run_neg fold_eq fold_ne fold_lt fold_gt abs_eq

theorem run_store_fn {P : Program} (w : World) (a : Addr) (m : Mode) (fn : Fn) (x y : Array Value) : (store a (.func fn x y) m).run P w = stored P w a (.func fn x y) m := run_store P w a _ m rfl
attribute [local go_sem] run_store_fn
/-- What a call leaves that answers a code. -/
def EU (z : Int) (w : World) (e : Ending) (w' : World) : Prop := e = .returned (.int .i64 z) ∧ Hid (Up w w')
set_option maxRecDepth 20000 in
set_option maxHeartbeats 2000000 in
/-- firstWrong: n questions, of which k are answered no. -/
theorem t44 (Q n c k : Nat) (G : Nat → FuncId) (A B : Nat → Array Value) (code : Nat → Int) (b : Nat → Bool) (z : Int) (w : World) (hn : n ≤ 100)
    (hQ : ∀ i, i < n → w.cell? ⟨Q, i * 2, none⟩ = some (.func (.func (G i)) (A i) (B i)) ∧ w.cell? ⟨Q, i * 2 + 1, none⟩ = some (.int .i64 (code i)))
    (eg : ∀ i, i < n → ∀ args w, (callFunc (G i) args).run Try.prog w = .ok (.enter (G i) args) w)
    (hat : ∀ i, i < n → i ≤ k → ∀ w', Up w w' → Calls Try.prog (G i) (A i ++ B i) w' (BR (b i) w'))
    (hk : ∀ i, i < k → b i = false) (hz : k < n ∧ b k = true ∧ code k = z ∨ k = n ∧ z = 0) :
    Calls Try.prog 44 #[.slice (some ⟨Q, 0, none⟩) n c] w (EU z w) := by
  have HQ : Hid (∀ i, i < n → w.cell? ⟨Q, i * 2, none⟩ = some (.func (.func (G i)) (A i) (B i)) ∧ w.cell? ⟨Q, i * 2 + 1, none⟩ = some (.int .i64 (code i))) := hQ
  have HE : Hid (∀ i, i < n → ∀ args w, (callFunc (G i) args).run Try.prog w = .ok (.enter (G i) args) w) := eg
  have HA : Hid (∀ i, i < n → i ≤ k → ∀ w', Up w w' → Calls Try.prog (G i) (A i ++ B i) w' (BR (b i) w')) := hat
  have HK : Hid (∀ i, i < k → b i = false) := hk
  have HZ : Hid (k < n ∧ b k = true ∧ code k = z ∨ k = n ∧ z = 0) := hz
  have hkn : k ≤ n := by omega
  clear hQ eg hat hk hz
  go_enter Try.func44, Try.ntmps44
  go_wp2
  go_loopw [4, 7] (fun _ vi wr => ∃ i : Nat, i ≤ k ∧ vi = .int .i64 i ∧ Hid (Up w wr)) (fun _ vi _ => n - (intOf vi).toNat)
  case atStart => exact ⟨0, by omega, rfl, Up.refl _⟩
  case round =>
    obtain ⟨i, hi, rfl, HU⟩ := hrel
    by_cases hlt : i < n
    · have z1 : (i : Int) < (n : Int) := by omega
      have z2 : (0 : Int) ≤ (i : Int) := by omega
      obtain ⟨g, hg⟩ : ∃ g, G i = g := ⟨_, rfl⟩
      obtain ⟨x, hx⟩ : ∃ x, A i = x := ⟨_, rfl⟩
      obtain ⟨y, hy⟩ : ∃ y, B i = y := ⟨_, rfl⟩
      have c1 := cell_up (HQ.out i hlt).1 HU.out
      have c2 := cell_up (HQ.out i hlt).2 HU.out
      have e1 := HE.out i hlt
      rw [hg, hx, hy] at c1
      rw [hg] at e1
      have HC : Hid (Calls Try.prog g (x ++ y) (wr.alloc (.cells #[.func (.func g) x y, .int .i64 (code i)] 86)) (BR (b i) (wr.alloc (.cells #[.func (.func g) x y, .int .i64 (code i)] 86)))) := by
        have := HA.out i hlt hi _ (HU.out.trans (Up.alloc wr (.cells #[.func (.func g) x y, .int .i64 (code i)] 86)))
        rw [hg, hx, hy] at this; exact this
      obtain ⟨bi, hbi⟩ : ∃ bi, b i = bi := ⟨_, rfl⟩
      rw [hbi] at HC
      obtain ⟨ci, hci⟩ : ∃ ci, code i = ci := ⟨_, rfl⟩
      rw [hci] at HC c2
      have HCi : Hid (code i = ci) := hci
      have HBi : Hid (b i = bi) := hbi
      clear hci hbi hg hx hy
      by_cases hik : i < k
      · obtain rfl : bi = false := by rw [← HBi.out]; exact HK.out i hik
        go_wp2_with fail
        (with_reducible refine HC.out.mono ?_)
        rintro e w' ⟨rfl, rfl⟩
        go_wp2
        go_roundw
        case rel => exact ⟨i + 1, by omega, by go_num, HU.out.trans (Up.alloc _ _)⟩
        case measure => simp [intOf]; omega
      · obtain rfl : i = k := by omega
        obtain ⟨rfl, rfl⟩ : bi = true ∧ ci = z := by
          rcases HZ.out with ⟨_, q, r⟩ | ⟨q, r⟩
          · exact ⟨HBi.out ▸ q, HCi.out ▸ r⟩
          · omega
        go_wp2_with fail
        (with_reducible refine HC.out.mono ?_)
        rintro e w' ⟨rfl, rfl⟩
        go_wp2
        go_ret
        exact ⟨rfl, HU.out.trans (Up.alloc _ _)⟩
    · obtain rfl : i = n := by omega
      obtain rfl : z = 0 := by
        rcases HZ.out with ⟨q, _⟩ | ⟨_, r⟩
        · omega
        · exact r
      go_wp2
      go_ret
      exact ⟨rfl, HU⟩
end Go.Proofs.Ythifemkbemhmnaa
