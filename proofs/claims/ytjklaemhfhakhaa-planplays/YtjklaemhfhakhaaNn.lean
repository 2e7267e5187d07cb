/- gcd, times, Now (the document's). -/
import Derived.Test.YtjklaemhfhakhaaNc
import Derived.Test.YtjklaemhfhakhaaEa
import Derived.Test.YtjklaemhfhakhaaEd
import Derived.BigQuiet
import Derived.Deep.QuietTactic
import Derived.Test.YtjklaemhfhakhaaNt
namespace Go.Proofs.Ytjklaemhfhakhaa
open Go.ChangeShapes Go.WideShapes Go.ChangeAt Go.RowKit

set_option maxHeartbeats 2000000 in
theorem t35 (a b : Nat) (ha : a < 9223372036854775808) (hb : b < 9223372036854775808) (w : World) : Calls Try.prog 35 #[.int .i64 (a : Int), .int .i64 (b : Int)] w (VU w (.int .i64 (Nat.gcd a b : Int))) := by
  have HB : Hid (a < 9223372036854775808 ∧ b < 9223372036854775808) := ⟨ha, hb⟩
  clear ha hb
  go_enter Try.func35, Try.ntmps35
  go_wp2_with fail
  go_loopw [0, 1, 5] (fun v0 v1 _ wr => ∃ x y : Nat, v0 = .int .i64 (x : Int) ∧ v1 = .int .i64 (y : Int) ∧ Hid (x < 9223372036854775808 ∧ y < 9223372036854775808 ∧ Nat.gcd x y = Nat.gcd a b ∧ Up w wr)) (fun _ v1 _ _ => (intOf v1).toNat)
  case atStart => exact ⟨a, b, rfl, rfl, HB.out.1, HB.out.2, rfl, Up.refl _⟩
  case round =>
    obtain ⟨x, y, rfl, rfl, HX⟩ := hrel
    rename World => wr
    by_cases hy : y = 0
    · subst hy
      go_wp2
      go_ret
      obtain ⟨q1, q2, q3, q4⟩ := HX.out
      refine ⟨?_, q4⟩
      rw [Nat.gcd_zero_right] at q3
      rw [← q3]
      rfl
    · have y1 : ¬ (y : Int) = 0 := by omega
      have y2 : ((y : Int) == 0) = false := by simp; omega
      have d1 : IntKind.i64.wrap ((x : Int).tmod (y : Int)) = ((x % y : Nat) : Int) := by
        obtain ⟨q1, q2, _, _⟩ := HX.out
        have := Nat.mod_lt x (show 0 < y by omega)
        rw [IntKind.wrap_i64, Int.tmod_eq_emod_of_nonneg (by omega)]
        omega
      have d2 : (x : Int).tmod (y : Int) = ((x % y : Nat) : Int) := by
        rw [Int.tmod_eq_emod_of_nonneg (by omega)]
        omega
      go_wp2_with fail
      go_roundw
      case rel =>
        obtain ⟨q1, q2, q3, q4⟩ := HX.out
        exact ⟨y, x % y, rfl, rfl, q2, by have := Nat.mod_lt x (show 0 < y by omega); omega, by rw [← q3, Nat.gcd_comm x y, Nat.gcd_rec y x, Nat.gcd_comm], q4⟩
      case measure =>
        have := Nat.mod_lt x (show 0 < y by omega)
        simp [intOf]
        omega
theorem t36y (a b : Nat) (h : a * b ≤ 4611686018427387904) (hb : b ≤ 4611686018427387904) (w : World) : Calls Try.prog 36 #[.int .i64 (a : Int), .int .i64 (b : Int)] w (VU w (.tuple #[.int .i64 ((a * b : Nat) : Int), .bool true])) := by
  have d1 : IntKind.i64.wrap ((a : Int) * (b : Int)) = ((a * b : Nat) : Int) := by
    rw [← Int.natCast_mul, IntKind.wrap_i64]; omega
  by_cases h0 : b = 0
  · subst h0
    simp only [Int.natCast_zero] at d1 ⊢
    go_enter Try.func36, Try.ntmps36
    go_wp2
    go_ret2
    exact ⟨by simp, Up.refl _⟩
  · have b0 : (0 : Int) < (b : Int) := by omega
    have b1 : ¬ (b : Int) = 0 := by omega
    have q0 : Int.tdiv 4611686018427387904 (b : Int) = ((4611686018427387904 / b : Nat) : Int) := by
      rw [Int.tdiv_eq_ediv_of_nonneg (by omega)]; rfl
    have hq : a ≤ 4611686018427387904 / b := (Nat.le_div_iff_mul_le (by omega)).2 h
    have hqb : 4611686018427387904 / b ≤ 4611686018427387904 := Nat.div_le_self _ _
    have d2 : IntKind.i64.wrap ((4611686018427387904 / b : Nat) : Int) = ((4611686018427387904 / b : Nat) : Int) := by rw [IntKind.wrap_i64]; omega
    generalize 4611686018427387904 / b = q at *
    have c0 : ¬ ((q : Int) < (a : Int)) := by omega
    go_enter Try.func36, Try.ntmps36
    go_wp2
    go_ret2
    exact ⟨rfl, Up.refl _⟩
theorem t36n (a b : Nat) (h : 4611686018427387904 < a * b) (hb : b ≤ 4611686018427387904) (w : World) : Calls Try.prog 36 #[.int .i64 (a : Int), .int .i64 (b : Int)] w (VU w (.tuple #[.int .i64 0, .bool false])) := by
  have h0 : b ≠ 0 := fun e => by subst e; simp at h
  have b0 : (0 : Int) < (b : Int) := by omega
  have b1 : ¬ (b : Int) = 0 := by omega
  have q0 : Int.tdiv 4611686018427387904 (b : Int) = ((4611686018427387904 / b : Nat) : Int) := by
    rw [Int.tdiv_eq_ediv_of_nonneg (by omega)]; rfl
  have hq : ¬ a ≤ 4611686018427387904 / b := fun e => by
    have := (Nat.le_div_iff_mul_le (show 0 < b by omega)).1 e
    omega
  have hqb : 4611686018427387904 / b ≤ 4611686018427387904 := Nat.div_le_self _ _
  generalize 4611686018427387904 / b = q at *
  clear h
  have d2 : IntKind.i64.wrap (q : Int) = (q : Int) := by rw [IntKind.wrap_i64]; omega
  have c0 : ((q : Int) < (a : Int)) := by omega
  go_enter Try.func36, Try.ntmps36
  go_wp2
  go_ret2
  exact ⟨rfl, Up.refl _⟩
theorem t16 {w : World} {L : RL} {n : Nat} {a : Int} {X : Nat → On} (h : RW w L n a X) : Calls Try.prog 16 #[.pointer (some ⟨L.bp, 0, none⟩)] w fun e w' => e = .returned (.int .i64 a) ∧ w' = w := by
  have h0 := h.p1
  have h9 := h.lt
  clear h
  go_enter Try.func16, Try.ntmps16
  go_wp2
  go_ret
  exact ⟨rfl, rfl⟩
end Go.Proofs.Ytjklaemhfhakhaa
/- Load (the document's). -/
namespace Go.Proofs.Ytjklaemhfhakhaa
open Go.ChangeShapes Go.WideShapes Go.ChangeAt Go.RowKit

/-- times' answer. -/
def tmV (m : Nat) : Value := if m ≤ 4611686018427387904 then .tuple #[.int .i64 (m : Int), .bool true] else .tuple #[.int .i64 0, .bool false]
theorem t36s (a b : Nat) (hb : b ≤ 4611686018427387904) (w : World) : Calls Try.prog 36 #[.int .i64 (a : Int), .int .i64 (b : Int)] w fun e w' => e = .returned (tmV (a * b)) ∧ w' = w := by
  by_cases h : a * b ≤ 4611686018427387904
  · have hV : tmV (a * b) = .tuple #[.int .i64 ((a * b : Nat) : Int), .bool true] := if_pos h
    rw [hV]
    clear hV
    have d1 : IntKind.i64.wrap ((a : Int) * (b : Int)) = ((a * b : Nat) : Int) := by
      rw [← Int.natCast_mul, IntKind.wrap_i64]; omega
    by_cases h0 : b = 0
    · subst h0
      simp only [Int.natCast_zero] at d1 ⊢
      go_enter Try.func36, Try.ntmps36
      go_wp2
      go_ret2
      simp
    · have b0 : (0 : Int) < (b : Int) := by omega
      have b1 : ¬ (b : Int) = 0 := by omega
      have q0 : Int.tdiv 4611686018427387904 (b : Int) = ((4611686018427387904 / b : Nat) : Int) := by
        rw [Int.tdiv_eq_ediv_of_nonneg (by omega)]; rfl
      have hq : a ≤ 4611686018427387904 / b := (Nat.le_div_iff_mul_le (by omega)).2 h
      have hqb : 4611686018427387904 / b ≤ 4611686018427387904 := Nat.div_le_self _ _
      have d2 : IntKind.i64.wrap ((4611686018427387904 / b : Nat) : Int) = ((4611686018427387904 / b : Nat) : Int) := by rw [IntKind.wrap_i64]; omega
      generalize 4611686018427387904 / b = q at *
      have c0 : ¬ ((q : Int) < (a : Int)) := by omega
      go_enter Try.func36, Try.ntmps36
      go_wp2
      go_ret2
      exact ⟨rfl, rfl⟩
  · have hV : tmV (a * b) = .tuple #[.int .i64 0, .bool false] := if_neg h
    rw [hV]
    clear hV
    have h0 : b ≠ 0 := fun e => by subst e; simp at h
    have b0 : (0 : Int) < (b : Int) := by omega
    have b1 : ¬ (b : Int) = 0 := by omega
    have q0 : Int.tdiv 4611686018427387904 (b : Int) = ((4611686018427387904 / b : Nat) : Int) := by
      rw [Int.tdiv_eq_ediv_of_nonneg (by omega)]; rfl
    have hq : ¬ a ≤ 4611686018427387904 / b := fun e => h ((Nat.le_div_iff_mul_le (show 0 < b by omega)).1 e)
    have hqb : 4611686018427387904 / b ≤ 4611686018427387904 := Nat.div_le_self _ _
    generalize 4611686018427387904 / b = q at *
    clear h
    have d2 : IntKind.i64.wrap (q : Int) = (q : Int) := by rw [IntKind.wrap_i64]; omega
    have c0 : ((q : Int) < (a : Int)) := by omega
    go_enter Try.func36, Try.ntmps36
    go_wp2
    go_ret2
    exact ⟨rfl, rfl⟩
/-- What a round of Load does, in letters. -/
structure LR (n d e l : Nat) (g q1 q2 x9 x11 x13 : Int) (b10 b12 b14 : Bool) : Prop where
  cg : ∀ w, Calls Try.prog 35 #[.int .i64 d, .int .i64 e] w (VU w (.int .i64 g))
  g0 : 0 < g
  x1 : IntKind.i64.wrap ((e : Int).tdiv g) = q1
  x2 : IntKind.i64.wrap ((d : Int).tdiv g) = q2
  c1 : ∀ w, Calls Try.prog 36 #[.int .i64 q2, .int .i64 e] w fun e w' => e = .returned (.tuple #[.int .i64 x9, .bool b10]) ∧ w' = w
  c2 : ∀ w, Calls Try.prog 36 #[.int .i64 n, .int .i64 q1] w fun e w' => e = .returned (.tuple #[.int .i64 x11, .bool b12]) ∧ w' = w
  c3 : ∀ w, Calls Try.prog 36 #[.int .i64 l, .int .i64 q2] w fun e w' => e = .returned (.tuple #[.int .i64 x13, .bool b14]) ∧ w' = w
  r11 : 0 ≤ x11 ∧ x11 ≤ 4611686018427387904
  r13 : 0 ≤ x13 ∧ x13 ≤ 4611686018427387904
  bad : b10 = false ∨ b12 = false ∨ b14 = false ∨ 4611686018427387904 - x13 < x11 → loadS n d e l = none
  ok : b10 = true → b12 = true → b14 = true → ¬ 4611686018427387904 - x13 < x11 → ∃ n' d' : Nat, ∃ h : Int, loadS n d e l = some (n', d') ∧ n' ≤ 4611686018427387904 ∧ 1 ≤ d' ∧ d' ≤ 4611686018427387904 ∧ 0 < h ∧ (∀ w, Calls Try.prog 35 #[.int .i64 x9, .int .i64 (x11 + x13)] w (VU w (.int .i64 h))) ∧ IntKind.i64.wrap ((x11 + x13).tdiv h) = (n' : Int) ∧ IntKind.i64.wrap (x9.tdiv h) = (d' : Int)
theorem tdiv_natI {a b : Nat} (ha : a < 9223372036854775808) : IntKind.i64.wrap ((a : Int).tdiv (b : Int)) = ((a / b : Nat) : Int) := by
  have h := Nat.div_le_self a b
  rw [Int.tdiv_eq_ediv_of_nonneg (by omega), ← Int.natCast_ediv, IntKind.wrap_i64]
  generalize a / b = q at *
  omega
def tmN (m : Nat) : Nat := if m ≤ 4611686018427387904 then m else 0
theorem tmV_eq (m : Nat) : tmV m = .tuple #[.int .i64 (tmN m : Int), .bool (decide (m ≤ 4611686018427387904))] := by
  unfold tmV tmN
  by_cases h : m ≤ 4611686018427387904
  · rw [if_pos h, if_pos h, decide_eq_true h]
  · rw [if_neg h, if_neg h, decide_eq_false h]; rfl
theorem tmN_le (m : Nat) : tmN m ≤ 4611686018427387904 := by
  unfold tmN
  by_cases h : m ≤ 4611686018427387904
  · rw [if_pos h]; exact h
  · rw [if_neg h]; exact Nat.zero_le _
theorem load_ref (n : Nat) {d e : Nat} (l : Nat) (hd0 : 1 ≤ d) (hd : d ≤ 4611686018427387904) (he0 : 1 ≤ e) (he : e ≤ 1099511627776) :
    ∃ g q1 q2 x9 x11 x13 b10 b12 b14, LR n d e l g q1 q2 x9 x11 x13 b10 b12 b14 := by
  have g0 : 0 < Nat.gcd d e := Nat.gcd_pos_of_pos_left _ hd0
  have p1 := Nat.div_le_self e (Nat.gcd d e)
  have p2 := Nat.div_le_self d (Nat.gcd d e)
  have r1 : 0 < d / Nat.gcd d e := Nat.div_pos (Nat.le_of_dvd hd0 (Nat.gcd_dvd_left _ _)) g0
  generalize hg : Nat.gcd d e = g at *
  generalize hq1 : e / g = q1 at *
  generalize hq2 : d / g = q2 at *
  have hS : loadS n d e l = if 4611686018427387904 < n * q1 + l * q2 ∨ 4611686018427387904 < q2 * e then none else some ((n * q1 + l * q2) / Nat.gcd (n * q1 + l * q2) (q2 * e), q2 * e / Nat.gcd (n * q1 + l * q2) (q2 * e)) := by
    unfold loadS
    simp only [hg, hq1, hq2]
  have mD : 0 < q2 * e := Nat.mul_pos r1 he0
  have C1 : ∀ w, _ := t36s q2 e (by omega)
  have C2 : ∀ w, _ := t36s n q1 (by omega)
  have C3 : ∀ w, _ := t36s l q2 (by omega)
  simp only [tmV_eq] at C1 C2 C3
  generalize n * q1 = A at *
  generalize l * q2 = B at *
  generalize q2 * e = D at *
  refine ⟨g, q1, q2, tmN D, tmN A, tmN B, decide (D ≤ 4611686018427387904), decide (A ≤ 4611686018427387904), decide (B ≤ 4611686018427387904), ?_⟩
  have tA := tmN_le A
  have tB := tmN_le B
  refine ⟨fun w => ?_, by omega, ?_, ?_, C1, C2, C3, by omega, by omega, fun q => ?_, fun k1 k2 k3 k4 => ?_⟩
  · rw [← hg]; exact t35 d e (by omega) (by omega) w
  · rw [← hq1]; exact tdiv_natI (by omega)
  · rw [← hq2]; exact tdiv_natI (by omega)
  · rw [hS, if_pos]
    rcases q with q | q | q | q
    · exact Or.inr (by have := of_decide_eq_false q; omega)
    · exact Or.inl (by have := of_decide_eq_false q; omega)
    · exact Or.inl (by have := of_decide_eq_false q; omega)
    · refine Or.inl ?_
      unfold tmN at q
      split at q <;> split at q <;> omega
  · have j1 := of_decide_eq_true k1
    have j2 := of_decide_eq_true k2
    have j3 := of_decide_eq_true k3
    have e1 : tmN A = A := if_pos j2
    have e2 : tmN B = B := if_pos j3
    have e3 : tmN D = D := if_pos j1
    rw [e1, e2] at k4
    rw [e1, e2, e3]
    have hN : A + B ≤ 4611686018427387904 := by omega
    have h0 : 0 < Nat.gcd (A + B) D := Nat.gcd_pos_of_pos_right _ mD
    refine ⟨(A + B) / Nat.gcd (A + B) D, D / Nat.gcd (A + B) D, (Nat.gcd (A + B) D : Nat), ?_, ?_, ?_, ?_, by omega, fun w => ?_, ?_, ?_⟩
    · rw [hS, if_neg (by omega)]
    · exact Nat.le_trans (Nat.div_le_self _ _) hN
    · exact Nat.div_pos (Nat.le_of_dvd mD (Nat.gcd_dvd_right _ _)) h0
    · exact Nat.le_trans (Nat.div_le_self _ _) j1
    · rw [Nat.gcd_comm]
      exact t35 D (A + B) (by omega) (by omega) w
    · exact tdiv_natI (a := A + B) (by omega)
    · exact tdiv_natI (by omega)
theorem t14n (w : World) : Calls Try.prog 14 #[.pointer none] w (VU w (.tuple #[.int .i64 0, .int .i64 0])) := by
  go_enter Try.func14, Try.ntmps14
  go_wp2
  go_ret2
  exact ⟨rfl, Up.refl _⟩
set_option maxRecDepth 20000 in
set_option maxHeartbeats 8000000 in
theorem t14 {w : World} {L : RL} {n : Nat} {a0 : Int} {X : Nat → On} (h : RW w L n a0 X) (E L' : Nat → Nat) (hE : ∀ i, i < n → ((E i : Nat) : Int) = (X i).e ∧ ((L' i : Nat) : Int) = (X i).l ∧ 1 ≤ E i ∧ E i ≤ 1099511627776 ∧ L' i ≤ 1099511627776) (hn : n ≤ 256) : Calls Try.prog 14 #[.pointer (some ⟨L.bp, 0, none⟩)] w (VU w (loadV (loadN E L' n))) := by
  have H : Hid (RW w L n a0 X) := h
  have HE : Hid (∀ i, i < n → ((E i : Nat) : Int) = (X i).e ∧ ((L' i : Nat) : Int) = (X i).l ∧ 1 ≤ E i ∧ E i ≤ 1099511627776 ∧ L' i ≤ 1099511627776) := hE
  have HNN : Hid (n ≤ 256) := hn
  have p0 := h.p0
  clear h hE hn
  go_enter Try.func14, Try.ntmps14
  go_wp2_with fail
  clear p0
  go_loopw [4, 5, 6, 7, 8, 9, 10, 11, 12, 13, 14, 15] (fun v4 v5 v6 _ _ _ _ _ _ _ _ _ wr => ∃ (k a d : Nat), k ≤ n ∧ v4 = .int .i64 (a : Int) ∧ v5 = .int .i64 (d : Int) ∧ v6 = .int .i64 k ∧ Hid (loadN E L' k = some (a, d) ∧ a ≤ 4611686018427387904 ∧ 1 ≤ d ∧ d ≤ 4611686018427387904 ∧ Up w wr)) (fun _ _ v6 _ _ _ _ _ _ _ _ _ _ => n - (intOf v6).toNat)
  case atStart => exact ⟨0, 0, 1, by omega, rfl, rfl, rfl, rfl, by omega, by omega, by omega, Up.refl _⟩
  case round =>
    obtain ⟨k, a, d, hk, rfl, rfl, rfl, HX⟩ := hrel
    rename World => wr
    have HR : Hid (RW wr L n a0 X) := H.out.up HX.out.2.2.2.2
    have p0 := HR.out.p0
    by_cases hlt : k < n
    · have z1 : (k : Int) < (n : Int) := by omega
      have z2 : (0 : Int) ≤ (k : Int) := by omega
      rw [HR.out.ps (by omega)] at p0
      obtain ⟨x1, x2, x3, x4, x5⟩ := HE.out k hlt
      obtain ⟨y1, y2, y3, y4, y5⟩ := HX.out
      have oe := (HR.out.at' k hlt).e
      have ol := (HR.out.at' k hlt).l
      have orr := (HR.out.at' k hlt).r
      rw [← x1] at oe
      rw [← x2] at ol
      obtain ⟨g, q1, q2, x9, x11, x13, b10, b12, b14, hF⟩ := load_ref a (L' k) y3 y4 x3 x4
      have HF : Hid (LR a d (E k) (L' k) g q1 q2 x9 x11 x13 b10 b12 b14) := hF
      have HLS : Hid (loadN E L' (k + 1) = loadS a d (E k) (L' k)) := by show (match loadN E L' k with | none => none | some (n, d) => loadS n d (E k) (L' k)) = _; rw [y1]
      have HUP : Hid (Up w wr) := y5
      clear hF x1 x2 x3 x4 x5 y1 y2 y3 y4 y5
      generalize hr0 : (X k).r = r0 at *
      clear hr0
      generalize hek : E k = e at *
      generalize hlk : L' k = l at *
      clear hek hlk
      have l1 := Nat.le_refl wr.heap.size
      have HT : Hid (TkAt (wr.alloc (.cells #[.int .i64 (e : Int), .int .i64 (l : Int), .int .i64 r0] 26)) wr.heap.size 0 ⟨e, l, r0⟩) := by
        have e0 := heap_alloc_last wr (.cells #[.int .i64 (e : Int), .int .i64 (l : Int), .int .i64 r0] 26)
        exact ⟨(row_cell e0 0).1, by rw [Nat.zero_add]; exact (row_cell e0 1).1, by rw [Nat.zero_add]; exact (row_cell e0 2).1⟩
      have HU2 : Hid (Up wr (wr.alloc (.cells #[.int .i64 (e : Int), .int .i64 (l : Int), .int .i64 r0] 26))) := Up.alloc _ _
      go_upto_region 9 with fail
      obtain ⟨t0, t1, t2⟩ := HT.out
      simp only [Nat.zero_add] at t0 t1 t2
      generalize wr.alloc (.cells #[.int .i64 (e : Int), .int .i64 (l : Int), .int .i64 r0] 26) = W0 at *
      generalize wr.heap.size = bt at *
      clear HT oe ol orr p0 HR
      go_upto_region 10 with (go_at_call 35; (with_reducible refine (HF.out.cg _).mono ?_); rintro e w1 ⟨rfl, HU1⟩; (have s0 := cell_up t0 HU1.out); (have s1 := cell_up t1 HU1.out); (have s2 := cell_up t2 HU1.out))
      have HU3 : Hid (Up wr w1) := HU2.out.trans HU1.out
      clear t0 t1 t2 HU1 HU2
      have g0 := HF.out.g0
      have g1 : ¬ g = 0 := by omega
      have e1 := HF.out.x1
      have e2 := HF.out.x2
      have f1 := HF.out.x1
      have f2 := HF.out.x2
      rw [Int.tdiv_eq_ediv_of_nonneg (by omega)] at f1 f2
      have r11 := HF.out.r11
      have r13 := HF.out.r13
      go_quiet (first | (go_at_call 36; (with_reducible refine Calls.quiet_of_same (HF.out.c1 _))))
      go_upto_region 12 with (go_at_call 36; (with_reducible refine (HF.out.c2 _).mono ?_); rintro e w2 ⟨rfl, rfl⟩)
      have HU4 : Hid (Up wr (w1.drewN nq)) := HU3.out.trans (Up.drewN _ _)
      have t0 := cell_up s0 (Up.drewN w1 nq)
      have t1 := cell_up s1 (Up.drewN w1 nq)
      clear s0 s1 s2 HU3
      generalize w1.drewN nq = W1 at *
      go_quiet (first | (go_at_call 36; (with_reducible refine Calls.quiet_of_same (HF.out.c3 _))))
      have BAD : Hid (b10 = false ∨ b12 = false ∨ b14 = false ∨ 4611686018427387904 - x13 < x11 → loadN E L' n = none) := fun q => loadN_none (HLS.out.trans (HF.out.bad q)) n (by omega)
      have w13 : IntKind.i64.wrap (4611686018427387904 - x13) = 4611686018427387904 - x13 := by rw [IntKind.wrap_i64]; omega
      cases b10
      · have HN : Hid (loadN E L' n = none) := BAD.out (Or.inl rfl)
        clear BAD
        go_wp2_with fail
        go_ret2
        exact ⟨by rw [HN.out]; rfl, HUP.out.trans (HU4.out.trans (Up.drewN _ _))⟩
      · cases b12
        · have HN : Hid (loadN E L' n = none) := BAD.out (Or.inr (Or.inl rfl))
          clear BAD
          go_wp2_with fail
          go_ret2
          exact ⟨by rw [HN.out]; rfl, HUP.out.trans (HU4.out.trans (Up.drewN _ _))⟩
        · cases b14
          · have HN : Hid (loadN E L' n = none) := BAD.out (Or.inr (Or.inr (Or.inl rfl)))
            clear BAD
            go_wp2_with fail
            go_ret2
            exact ⟨by rw [HN.out]; rfl, HUP.out.trans (HU4.out.trans (Up.drewN _ _))⟩
          · by_cases hq : 4611686018427387904 - x13 < x11
            · have HN : Hid (loadN E L' n = none) := BAD.out (Or.inr (Or.inr (Or.inr hq)))
              clear BAD
              go_wp2_with fail
              go_ret2
              exact ⟨by rw [HN.out]; rfl, HUP.out.trans (HU4.out.trans (Up.drewN _ _))⟩
            · obtain ⟨n', d', hh, o1, o2, o3, o4, o5, o6, o7, o8⟩ := HF.out.ok rfl rfl rfl hq
              have HO : Hid (loadS a d e l = some (n', d') ∧ n' ≤ 4611686018427387904 ∧ 1 ≤ d' ∧ d' ≤ 4611686018427387904) := ⟨o1, o2, o3, o4⟩
              have HC : Hid (∀ w, Calls Try.prog 35 #[.int .i64 x9, .int .i64 (x11 + x13)] w (VU w (.int .i64 hh))) := o6
              have hz : ¬ hh = 0 := by omega
              have hz2 : (hh == 0) = false := by simp; omega
              clear o1 o2 o3 o4 o6 BAD
              have w11 : IntKind.i64.wrap (x11 + x13) = x11 + x13 := by rw [IntKind.wrap_i64]; omega
              have z3 : (n : Int) ≤ 256 := by have := HNN.out; omega
              go_wp2_with (go_at_call 35; (with_reducible refine (HC.out _).mono ?_); rintro e w3 ⟨rfl, HU5⟩)
              go_roundw
              case rel => exact ⟨k + 1, n', d', by omega, by go_num, by go_num, by go_num, HLS.out.trans HO.out.1, HO.out.2.1, HO.out.2.2.1, HO.out.2.2.2, HUP.out.trans ((HU4.out.trans (Up.drewN _ _)).trans HU5.out)⟩
              case measure => simp [intOf]; omega
    · obtain rfl : k = n := by omega
      go_wp2
      go_ret2
      refine ⟨?_, HX.out.2.2.2.2⟩
      rw [HX.out.1]
      rfl
end Go.Proofs.Ytjklaemhfhakhaa
/- The load of both plans is one. -/
namespace Go.Proofs.Ytjklaemhfhakhaa
open Go.ChangeShapes Go.WideShapes Go.ChangeAt Go.RowKit

theorem rws_last (x : On) : (lastR x.rws).e = x.e ∧ (lastR x.rws).l = x.l := by
  by_cases q : x.same = true
  · have hw : x.w ≠ [] := fun e => by
      unfold On.same at q
      rw [e] at q
      cases q
    obtain ⟨T, j, h1, h2⟩ := last_w hw
    have e : x.rws = x.w.map Jr.rw := by
      unfold On.rws
      rw [if_pos q, List.append_nil]
    rw [e, (last_map h1 h2).1]
    have s := last_same (e := x.e) (l := x.l) (r := x.r) h1 h2
    unfold On.same at q
    rw [q] at s
    have s' := of_decide_eq_true s.symm
    exact ⟨s'.1, s'.2.1⟩
  · have e : x.rws = x.w.map Jr.rw ++ [x.cur] := by
      unfold On.rws
      rw [if_neg q]
    rw [e, lastR_app]
    exact ⟨rfl, rfl⟩
theorem crs_last (c : Crs) : lastR (c.hd :: c.tl) = c.last := by
  unfold lastR Crs.last
  rw [List.getLastD_eq_getLast?, List.getLast?_eq_some_getLast (by simp)]
  rfl
theorem Two.last {n N : Nat} {p : Pl} {X : Nat → On} (h : Two n N p X) {i : Nat} (hi : i < n) : (p.c i).last.e = (X i).e ∧ (p.c i).last.l = (X i).l := by
  have e := (h.ab i hi).rows
  have q := rws_last (X i)
  rw [← e, crs_last] at q
  exact q
def ldE (X : Nat → On) (i : Nat) : Nat := (X i).e.toNat
def ldL (X : Nat → On) (i : Nat) : Nat := (X i).l.toNat
theorem Two.ld {n N : Nat} {p : Pl} {X : Nat → On} (h : Two n N p X) {i : Nat} (hi : i < n) : ((ldE X i : Nat) : Int) = (X i).e ∧ ((ldL X i : Nat) : Int) = (X i).l ∧ 1 ≤ ldE X i ∧ ldE X i ≤ 1099511627776 ∧ ldL X i ≤ 1099511627776 := by
  obtain ⟨m1, m2, m3⟩ := (h.ok i hi).may
  unfold ldE ldL
  omega
theorem Both.l13 {w : World} {L : Ly} {M : RL} {n N : Nat} {p : Pl} {X : Nat → On} (h : Both w L M n N p X) (hn : n ≤ 256) (hN : N ≤ 1000000) : Calls Try.prog 13 #[.pointer (some ⟨L.bp, 0, none⟩)] w (VU w (loadV (loadN (ldE X) (ldL X) n))) :=
  t13 h.pw (h.two.pb hN) _ _ (fun i hi => by
    obtain ⟨a, b⟩ := h.two.last hi
    rw [a, b]
    exact h.two.ld hi) hn
theorem Both.l14 {w : World} {L : Ly} {M : RL} {n N : Nat} {p : Pl} {X : Nat → On} (h : Both w L M n N p X) (hn : n ≤ 256) : Calls Try.prog 14 #[.pointer (some ⟨M.bp, 0, none⟩)] w (VU w (loadV (loadN (ldE X) (ldL X) n))) :=
  t14 h.rw' _ _ (fun _ hi => h.two.ld hi) hn
end Go.Proofs.Ytjklaemhfhakhaa
